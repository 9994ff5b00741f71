/- Plain mathematics of the map of an arena: what each slab's bytes tell. A slab as it is read from an image: numbers, blocks, a free slab. A free slab: no byte that isn't nought. The blocks of a slab to which no link leads. The runs of a slab of a class. A slab is read from an image; its runs. The runs of a slab. The runs of an arena's bytes, slab by slab. The landed Map and Agree, of bytes that tell their kinds. Slabs that hang together: what their bytes tell is what the kinds are. The map of a memory whose slabs hang together. Agree; the page's example; the walk of RegionRuns. What acts come to: a memory whose slabs hang together. Maps of memories whose slabs hang together: they tile the memory, and tell a live block's kind. Plain mathematics of memories that are restored: the kinds that a map names; two memories of the same slabs have the same bytes. RegionAgrees, walked. -/
import Derived.Test.YtjjfihoplkddfaaGreatDoorJ4
import Derived.Test.YtjjfihoplkddfaaGreatDoorJ17
import Derived.Test.YtjjfihoplkddfaaGreatDoorJ2
import Derived.Test.YtjjfihoplkddfaaGreatDoorJ10
import Derived.Test.YtjjfihoplkddfaaGreatDoorJ0
import Derived.Deep.RegionWith
import Derived.Deep.DeepCutAuto
import Derived.Test.YtjjfihoplkddfaaGreatDoorJ11
import Derived.Test.YtjjfihoplkddfaaGreatDoorJ13
import Derived.Test.YtjjfihoplkddfaaGreatDoorJ18
import Derived.Test.YtjjfihoplkddfaaGreatDoorJ6
import Derived.Test.YtjjfihoplkddfaaGreatDoorJ7
import Derived.Test.YtjjfihoplkddfaaGreatDoorJ12
namespace Go.Proofs.YtjjfihoplkddfaaGreatDoor.Reg
open Go.RowKit
open Cls (szC blC pdC)
open Sla (pl aT Sl bl_in bl_apart)
open Mem (rd)
set_option linter.unusedVariables false

/-- Which block begins there. -/
def ixP (A : Nat) (c : Int) (a : Int) : Option Nat := (List.range (blC c)).find? fun k => decide ((pl A c k : Int) = a)
theorem ixP_some {A : Nat} {c a : Int} {k : Nat} (h : ixP A c a = some k) : k < blC c ∧ (pl A c k : Int) = a := by
  have h1 := List.mem_of_find?_eq_some h
  have h2 := List.find?_some h
  exact ⟨List.mem_range.1 h1, by simpa using h2⟩
theorem pl_one {A : Nat} {c : Int} {k j : Nat} (hk : k < blC c) (hj : j < blC c) (h : pl A c k = pl A c j) : k = j := by
  have h1 := bl_in hk
  rcases Nat.lt_trichotomy k j with q | q | q
  · have := bl_apart c q
    unfold pl at h; omega
  · exact q
  · have := bl_apart c q
    unfold pl at h; omega
theorem ixP_at {A : Nat} {c : Int} {k : Nat} (hk : k < blC c) : ixP A c (pl A c k : Int) = some k := by
  cases h : ixP A c (pl A c k : Int) with
  | none =>
    have := List.find?_eq_none.1 h k (List.mem_range.2 hk)
    simp at this
  | some j =>
    obtain ⟨h1, h2⟩ := ixP_some h
    rw [pl_one (A := A) h1 hk (by omega)]
/-- The blocks to which links lead, from a place on. -/
def flw (l : List Int) (A : Nat) (c : Int) : Nat → Int → List Nat → Option (List Nat)
  | 0, _, _ => none
  | n + 1, a, seen => if a = 0 then some seen else match ixP A c a with
    | none => none
    | some k => if k ∈ seen then none else flw l A c n (rd l (pl A c k + 4) 4) (k :: seen)
theorem flw_zero {l : List Int} {A : Nat} {c : Int} {n : Nat} {seen F : List Nat} (h : flw l A c n 0 seen = some F) : F = seen := by
  cases n with
  | zero => cases h
  | succ n => rw [flw, if_pos rfl] at h; injection h with h; exact h.symm
theorem flw_step {l : List Int} {A : Nat} {c a : Int} {n : Nat} {seen F : List Nat} (h : flw l A c n a seen = some F) (ha : a ≠ 0) :
    ∃ m k, n = m + 1 ∧ k < blC c ∧ a = (pl A c k : Int) ∧ k ∉ seen ∧ flw l A c m (rd l (pl A c k + 4) 4) (k :: seen) = some F := by
  cases n with
  | zero => cases h
  | succ n =>
    rw [flw, if_neg ha] at h
    cases hx : ixP A c a with
    | none => rw [hx] at h; cases h
    | some k =>
      rw [hx] at h
      simp only at h
      by_cases hs : k ∈ seen
      · rw [if_pos hs] at h; cases h
      · rw [if_neg hs] at h
        obtain ⟨h1, h2⟩ := ixP_some hx
        exact ⟨n, k, rfl, h1, h2.symm, hs, h⟩
/-- The runs of a slab of a class. -/
def blkR (A : Nat) (c : Int) (F : List Nat) (k : Nat) : RZ := ((pl A c k : Int), ((szC c : Nat) : Int), if k ∈ F then 6 else 5)
def padR (A : Nat) (c : Int) : List RZ := if 0 < pdC c then [((A + 1024 - pdC c : Nat), ((pdC c : Nat) : Int), 8)] else []
def dvR (A : Nat) (c : Int) (F : List Nat) : List RZ := (List.range (blC c)).map (blkR A c F) ++ padR A c
/-- So many bytes are noughts. -/
def zer (l : List Int) (A n : Nat) : Bool := (List.range n).all fun i => l.getD (A + i) 0 == 0
theorem zer_iff {l : List Int} {A n : Nat} : zer l A n = true ↔ ∀ i, i < n → l.getD (A + i) 0 = 0 := by simp [zer]
/-- What a slab's bytes tell; none: that they are none. -/
def slR (l : List Int) (A : Nat) (cl lv fr : Int) : Option (List RZ) :=
  if 9 < cl then none
  else if cl = 0 then (if lv = 0 ∧ fr = 0 ∧ zer l A 1024 = true then some [((A : Int), 1024, 7)] else none)
  else match flw l A cl (blC cl + 1) fr [] with
    | none => none
    | some F => if F.length = blC cl ∨ lv ≠ ((blC cl - F.length : Nat) : Int) then none else some (dvR A cl F)
def slJ (S N : Nat) (l : List Int) (j : Nat) : Option (List RZ) := slR l (aT S N j) (rd l (128 + 16 * j) 2) (rd l (128 + 16 * j + 2) 2) (rd l (128 + 16 * j + 4) 4)
def mapS (S N : Nat) (l : List Int) : Nat → Option (List RZ)
  | 0 => some []
  | j + 1 => match mapS S N l j with
    | none => none
    | some P => match slJ S N l j with
      | none => none
      | some Q => some (P ++ Q)
theorem mapS_some {S N : Nat} {l : List Int} {j : Nat} {P : List RZ} (h : mapS S N l (j + 1) = some P) : ∃ P' Q, mapS S N l j = some P' ∧ slJ S N l j = some Q ∧ P = P' ++ Q := by
  rw [mapS] at h
  cases h1 : mapS S N l j with
  | none => rw [h1] at h; cases h
  | some P' =>
    rw [h1] at h
    simp only at h
    cases h2 : slJ S N l j with
    | none => rw [h2] at h; cases h
    | some Q =>
      rw [h2] at h
      injection h with h
      exact ⟨P', Q, rfl, rfl, h.symm⟩
theorem mapS_less {S N : Nat} {l : List Int} {P : List RZ} {n : Nat} (h : mapS S N l n = some P) : ∀ j, j ≤ n → ∃ Q, mapS S N l j = some Q := by
  induction n generalizing P with
  | zero => intro j hj; obtain rfl : j = 0 := by omega
            exact ⟨_, h⟩
  | succ n ih =>
    intro j hj
    obtain ⟨P', Q, h1, -, -⟩ := mapS_some h
    by_cases e : j = n + 1
    · subst e; exact ⟨_, h⟩
    · exact ih h1 j (by omega)
theorem blC_le (cl : Int) : blC cl ≤ 32 := by
  by_cases hz : szC cl = 0
  · rw [Cls.blC_no hz]; omega
  · rw [blC, if_neg hz]
    rcases Cls.szC_bd cl with q | q
    · exact absurd q hz
    · exact Nat.le_trans (Nat.div_le_div_left q.1 (by decide)) (by decide)
theorem slR_len {l : List Int} {A : Nat} {cl lv fr : Int} {P : List RZ} (h : slR l A cl lv fr = some P) : P.length ≤ 34 := by
  unfold slR at h
  split at h
  · cases h
  · split at h
    · split at h
      · injection h with h; rw [← h]; simp
      · cases h
    · split at h
      · cases h
      · split at h
        · cases h
        · injection h with h
          rw [← h]
          unfold dvR padR
          have hb := blC_le cl
          rw [List.length_append, List.length_map, List.length_range]
          split <;> simp <;> omega
theorem mapS_len {S N : Nat} {l : List Int} : ∀ {j : Nat} {P : List RZ}, mapS S N l j = some P → P.length ≤ 34 * j := by
  intro j
  induction j with
  | zero => intro P h; injection h with h; rw [← h]; simp
  | succ j ih =>
    intro P h
    obtain ⟨P', Q, h1, h2, rfl⟩ := mapS_some h
    have := ih h1
    have := slR_len h2
    rw [List.length_append]
    omega
/-- Runs ahead of the slabs. -/
def headR (S N : Nat) : List RZ := (Lay.runsT S N).dropLast.map fun r => ((r.1 : Int), (r.2.1 : Int), (r.2.2 : Int))
end Go.Proofs.YtjjfihoplkddfaaGreatDoor.Reg

namespace Go.Proofs.YtjjfihoplkddfaaGreatDoor.Reg
open Go.RowKit
open Cls (szC blC pdC)
open Sla (pl aT Sl bl_in bl_apart)
open Mem (rd)
set_option linter.unusedVariables false

theorem rd_bd4 {w : World} {u : Value} {l : List Int} (hr : Row .u8 w u l) (a : Nat) {n : Nat} (hn : n = 2 ∨ n = 4) : 0 ≤ rd l a n ∧ rd l a n < 4294967296 := by
  have := Mem.rd_bd (l := l) (fun i => hr.bytes i) a n
  rcases hn with rfl | rfl
  · have : (256 : Int) ^ 2 = 65536 := by decide
    omega
  · have : (256 : Int) ^ 4 = 4294967296 := by decide
    omega
theorem load_rd {w : World} {u : Value} {l : List Int} (hr : Row .u8 w u l) {a n : Nat} (hn : n = 2 ∨ n = 4) (h : a + n ≤ l.length) (ha : a % n = 0) : Num.ldv l (a : Int) (n : Int) = (rd l a n, 0) := by
  have hp : Num.plc l.length (a : Int) (n : Int) = 0 := by
    unfold Num.plc
    rw [if_neg (by omega), if_pos (by omega)]
  have hw : Num.isW (n : Int) = true := by rcases hn with rfl | rfl <;> decide
  rw [Num.ldv, if_pos hw, if_pos hp, Int.toNat_natCast, Int.toNat_natCast]
  rfl
theorem number_any (u : Value) (l : List Int) (a n : Nat) (w : World) (hr : Row .u8 w u l) (hn : n = 2 ∨ n = 4) (h : a + n ≤ l.length) (ha : a % n = 0) :
    Calls Tryz.prog 278 #[u, .int .i64 (a : Int), .int .i64 (n : Int)] w fun e w' => e = .returned (.int .i64 (rd l a n)) ∧ Below w.heap.size w w' := by
  have hl := Num.load_any u (a : Int) (n : Int) l w hr
  rw [load_rd hr hn h ha] at hl
  have hb := rd_bd4 hr a hn
  obtain ⟨y, hy⟩ : ∃ y, y = rd l a n := ⟨_, rfl⟩
  rw [← hy] at hl hb ⊢
  have HL := Lib.hid hl
  have hw1 : IntKind.i64.wrap y = y := wrap_id (by omega) (by omega)
  have hw2 : wrap64 y = y := IntWalk.wrap64_in _ (by omega)
  clear hl hy h ha hn hr
  go_enter Tryz.func278, Tryz.ntmps278
  go_wp2_with fail
  refine HL.out.mono ?_
  rintro e w1 ⟨rfl, hb1⟩
  go_wp2
  go_ret
  exact ⟨rfl, hb1⟩
/-- A slab's value. -/
def sV (u : Value) (A cl lv fr : Int) : Value := .agg #[u, .int .i64 A, .int .i64 cl, .int .i64 lv, .int .i64 fr]
/-- Its box. -/
def sB (u : Value) (A cl lv fr : Int) : Obj := .cells #[u, .int .i64 A, .int .i64 cl, .int .i64 lv, .int .i64 fr] 256
theorem box_slab (w : World) {p : Option Addr} {m c : Nat} {u : Value} (hu : u = .slice p m c) (A cl lv fr : Int) : (∀ W, Below (w.alloc (sB u A cl lv fr)).heap.size (w.alloc (sB u A cl lv fr)) W → W.cell? ⟨w.heap.size, 0, none⟩ = some u ∧ W.cell? ⟨w.heap.size, 1, none⟩ = some (.int .i64 A) ∧ W.cell? ⟨w.heap.size, 2, none⟩ = some (.int .i64 cl) ∧ W.cell? ⟨w.heap.size, 3, none⟩ = some (.int .i64 lv) ∧ W.cell? ⟨w.heap.size, 4, none⟩ = some (.int .i64 fr)) ∧ w.heap.size < (w.alloc (sB u A cl lv fr)).heap.size ∧ Below w.heap.size w (w.alloc (sB u A cl lv fr)) := by
  subst hu
  have hsz : (w.alloc (sB (.slice p m c) A cl lv fr)).heap.size = w.heap.size + 1 := Array.size_push _
  refine ⟨fun W hW => ?_, by omega, below_made _ _⟩
  have hb := (hW.block w.heap.size (by omega)).trans (heap_alloc_new w (sB (.slice p m c) A cl lv fr))
  exact ⟨(cell_block hb 0).trans rfl, (cell_block hb 1).trans rfl, (cell_block hb 2).trans rfl, (cell_block hb 3).trans rfl, (cell_block hb 4).trans rfl⟩
theorem block_any (p : Option Addr) (m c : Nat) (A : Nat) (cl lv fr : Int) (k : Nat) (w : World) (ht : Cls.Tab w) (hk : k < blC cl) (hA : A ≤ 1000000) :
    Calls Tryz.prog 289 #[sV (.slice p m c) A cl lv fr, .int .i64 (k : Int)] w fun e w' => e = .returned (.int .i64 (pl A cl k : Int)) ∧ Below w.heap.size w w' := by
  have hin := bl_in hk
  have hk32 := blC_le cl
  have hpc : Cls.plC cl (k : Int) = (k * szC cl, 0) := by
    rw [Cls.plC, if_neg (by omega), if_neg (by omega), Int.toNat_natCast]
  obtain ⟨hc, hlt, hb⟩ := box_slab w (u := .slice p m c) rfl (A : Int) cl lv fr
  have hp := Cls.place_any cl (k : Int) (w.alloc (sB (.slice p m c) A cl lv fr)) (tab_keep (below_made _ _) ht) (by omega) (by omega)
  rw [hpc] at hp
  obtain ⟨q, hq⟩ : ∃ q, q = k * szC cl := ⟨_, rfl⟩
  obtain ⟨s, hs⟩ : ∃ s, s = pl A cl k := ⟨_, rfl⟩
  have hs2 : s = A + q := by rw [hs, hq]; rfl
  rw [← hq] at hp
  rw [← hs]
  have hw1 : IntKind.i64.wrap ((A : Int) + (q : Int)) = (s : Int) := (wrap_id (by omega) (by omega)).trans (by omega)
  have HP := Lib.hid hp
  obtain ⟨c0, c1, c2, c3, c4⟩ := hc _ (Below.refl _ _)
  unfold sV
  unfold sB at HP c0 c1 c2 c3 c4 hb
  clear hp hpc hs hs2 hq hin hc hk hk32
  go_enter Tryz.func289, Tryz.ntmps289
  go_wp2_with fail
  refine HP.out.mono ?_
  rintro e w1 ⟨rfl, rfl⟩
  go_wp2
  go_ret
  exact ⟨rfl, hb⟩
end Go.Proofs.YtjjfihoplkddfaaGreatDoor.Reg

namespace Go.Proofs.YtjjfihoplkddfaaGreatDoor.Reg
open Go.RowKit
open Cls (szC blC pdC)
open Sla (pl aT Sl bl_in bl_apart)
open Mem (rd)
set_option linter.unusedVariables false

theorem sub_row {k : IntKind} {w : World} {b off cap lo hi : Nat} {l : List Int} (h : Row k w (.slice (some ⟨b, off, none⟩) l.length cap) l) (h1 : lo ≤ hi) (h2 : hi ≤ l.length) : Row k w (.slice (some ⟨b, off + lo, none⟩) (hi - lo) (cap - lo)) ((l.drop lo).take (hi - lo)) := by
  have h3 := Row.tail h (n := lo) (by omega)
  have hl : (l.drop lo).length = l.length - lo := List.length_drop
  rw [← hl] at h3
  exact Row.take h3 (by rw [hl]; omega)
theorem notZero_no (w : World) : Calls Tryz.prog 287 #[.int .u8 0] w fun e w' => e = .returned (.bool false) ∧ w = w' := by
  go_enter Tryz.func287, Tryz.ntmps287
  go_wp2
  go_ret
  exact ⟨rfl, rfl⟩
abbrev nzF : Value := .func (.func 287) #[] #[]
set_option maxRecDepth 100000 in
theorem indexFunc_no (u : Value) (X : List Int) (w : World) (hr : Row .u8 w u X) (hz : ∀ i, i < X.length → X.getD i 0 = 0) (hX : X.length ≤ 1000000) :
    Calls Tryz.prog 290 #[u, nzF] w fun e w' => e = .returned (.int .i64 (-1)) ∧ w = w' := by
  obtain ⟨p, c, rfl, h2, h3, h4, h5⟩ := hr
  have HC := Lib.hid h5
  have HZ := Lib.hid hz
  have HN := Lib.hid notZero_no
  clear h4 h5 hz
  go_enter Tryz.func290, Tryz.ntmps290
  go_wp2
  go_loopw [8] (fun i wr => ∃ k : Nat, k ≤ X.length ∧ i = .int .i64 k ∧ Hid (wr = w)) (fun i _ => X.length - (intOf i).toNat)
  case atStart => exact ⟨0, Nat.zero_le _, rfl, rfl⟩
  case round =>
    obtain ⟨k, hk, rfl, HW⟩ := hrel
    obtain rfl := HW.out
    by_cases hlt : k < X.length
    · have hlt1 : (k : Int) < (X.length : Int) := by omega
      have hlt0 : (0 : Int) ≤ (k : Int) := by omega
      obtain ⟨b, o, rfl, hb, hc⟩ := HC.out (by rintro rfl; simp at hlt)
      have c0 := hc k hlt
      rw [HZ.out k hlt] at c0
      have hkw : IntKind.i64.wrap ((k : Int) + 1) = ((k + 1 : Nat) : Int) := (wrap_id (by omega) (by omega)).trans (by omega)
      clear hc
      go_wp2_with fail
      refine (HN.out _).mono ?_
      rintro e w1 ⟨rfl, rfl⟩
      go_wp2
      go_roundw
      case rel => exact ⟨k + 1, by omega, by go_num, trivial⟩
      case measure => simp [intOf]; omega
    · obtain rfl : k = X.length := by omega
      go_wp2
      go_ret
      exact ⟨rfl, rfl⟩
theorem containsFunc_no (u : Value) (X : List Int) (w : World) (hr : Row .u8 w u X) (hz : ∀ i, i < X.length → X.getD i 0 = 0) (hX : X.length ≤ 1000000) :
    Calls Tryz.prog 286 #[u, nzF] w fun e w' => e = .returned (.bool false) ∧ w = w' := by
  have HI := Lib.hid (indexFunc_no u X w hr hz hX)
  clear hr hz
  go_enter Tryz.func286, Tryz.ntmps286
  go_wp2_with fail
  refine HI.out.mono ?_
  rintro e w1 ⟨rfl, rfl⟩
  go_wp2
  go_ret
  exact ⟨rfl, rfl⟩
/-- Runs that a call made, and no error. -/
def ROk (w : World) (P : List RZ) (e : Ending) (w' : World) : Prop := ∃ u, e = .returned (.tuple #[u, Value.nilIface]) ∧ Below w.heap.size w w' ∧ ZRow w' u P
set_option maxRecDepth 100000 in
theorem whole_ok (u : Value) (l : List Int) (A : Nat) (w : World) (hr : Row .u8 w u l) (hA : A + 1024 ≤ l.length) (hl : l.length ≤ 1000000) (hz : zer l A 1024 = true) :
    Calls Tryz.prog 279 #[sV u (A : Int) 0 0 0] w (ROk w [((A : Int), 1024, 7)]) := by
  obtain ⟨p, c, rfl, h2, h3, h4, h5⟩ := id hr
  obtain ⟨b, o, rfl, hlt, -⟩ := h5 (by rintro rfl; simp at hA)
  obtain ⟨hc, hbl, hb⟩ := box_slab w (u := .slice (some ⟨b, o, none⟩) l.length c) rfl (A : Int) 0 0 0
  have hr1 := hr.mono hb (Nat.le_refl _)
  obtain ⟨A2, hA2⟩ : ∃ A2 : Nat, A2 = A + 1024 := ⟨_, rfl⟩
  have hrow : Row .u8 (w.alloc (sB (.slice (some ⟨b, o, none⟩) l.length c) (A : Int) 0 0 0)) (.slice (some ⟨b, o + A, none⟩) (A2 - A) (c - A)) ((l.drop A).take (A2 - A)) := sub_row hr1 (by omega) (by omega)
  have hxl : ((l.drop A).take (A2 - A)).length = 1024 := by rw [List.length_take, List.length_drop]; omega
  have hzz : ∀ i, i < ((l.drop A).take (A2 - A)).length → ((l.drop A).take (A2 - A)).getD i 0 = 0 := fun i hi => by
    rw [hxl] at hi
    have := zer_iff.1 hz i hi
    unfold List.getD at this ⊢
    rw [List.getElem?_take_of_lt (by omega), List.getElem?_drop]
    exact this
  have HC := Lib.hid (containsFunc_no _ _ _ hrow hzz (by omega))
  have hw1 : IntKind.i64.wrap ((A : Int) + 1024) = (A2 : Int) := (wrap_id (by omega) (by omega)).trans (by omega)
  have hAc : (A : Int) ≤ (A2 : Int) := by omega
  have hAc2 : (A2 : Int) ≤ (c : Int) := by omega
  have hA0 : (0 : Int) ≤ (A : Int) := by omega
  obtain ⟨c0, c1, c2, c3, c4⟩ := hc _ (Below.refl _ _)
  unfold sV
  unfold sB at HC c0 c1 c2 c3 c4 hb hbl
  have hzr := ARow.made encZ_length rz0 (w.alloc (.cells #[.slice (some ⟨b, o, none⟩) l.length c, .int .i64 (A : Int), .int .i64 0, .int .i64 0, .int .i64 0] 256)) [((A : Int), 1024, 7)] 60 #[.int .i64 (A : Int), .int .i64 1024, .int .i64 7] rfl (by simp)
  rw [show (w.alloc (.cells #[.slice (some ⟨b, o, none⟩) l.length c, .int .i64 (A : Int), .int .i64 0, .int .i64 0, .int .i64 0] 256)).heap.size = w.heap.size + 1 from Array.size_push _] at hzr
  have HZ := Lib.hid hzr
  clear hzr hrow hxl hzz hz hr1 hr hc hA2 h4 h5
  go_enter Tryz.func279, Tryz.ntmps279
  go_wp2_with fail
  refine HC.out.mono ?_
  rintro e w1 ⟨rfl, rfl⟩
  go_wp2
  go_ret2
  exact ⟨_, rfl, hb.alloc hb.size _, HZ.out⟩
end Go.Proofs.YtjjfihoplkddfaaGreatDoor.Reg

namespace Go.Proofs.YtjjfihoplkddfaaGreatDoor.Reg
open Go.RowKit
open Cls (szC blC pdC)
open Sla (pl aT Sl bl_in bl_apart)
open Mem (rd)
set_option linter.unusedVariables false

/-- How many entries the map has. -/
def mapZ (w : World) (v : Value) : Nat := match v with
  | .map (some b) => match w.heap[b]? with
    | some (.map es _) => es.size
    | _ => 0
  | _ => 0
theorem SetM.mapZ {w : World} {b : Nat} {L : List Int} (h : SetM w b L) : mapZ w (.map (some b)) = L.length := by
  obtain ⟨n, D, h1, h2, h3, h4⟩ := h.ex
  obtain ⟨es, clock, q1, q2, q3, q4⟩ := h2
  have hsz : Maps.size D = es.size := by rw [q4]; simp [Maps.size, length_sorted]
  unfold Reg.mapZ
  simp only [q1]
  omega
/-- The first k blocks' places. -/
def plsL (A : Nat) (c : Int) (k : Nat) : List Int := (List.range k).map fun i => (pl A c i : Int)
theorem plsL_succ (A : Nat) (c : Int) (k : Nat) : plsL A c (k + 1) = plsL A c k ++ [(pl A c k : Int)] := by simp [plsL, List.range_succ]
theorem plsL_len (A : Nat) (c : Int) (k : Nat) : (plsL A c k).length = k := by simp [plsL]
theorem plsL_mem {A : Nat} {c : Int} {k : Nat} {x : Int} : x ∈ plsL A c k ↔ ∃ i, i < k ∧ x = (pl A c i : Int) := by
  simp only [plsL, List.mem_map, List.mem_range]
  constructor
  · rintro ⟨i, h1, h2⟩; exact ⟨i, h1, h2.symm⟩
  · rintro ⟨i, h1, h2⟩; exact ⟨i, h1, h2.symm⟩
theorem plsL_new {A : Nat} {c : Int} {k : Nat} (hk : k < blC c) : (pl A c k : Int) ∉ plsL A c k := by
  rw [plsL_mem]
  rintro ⟨i, h1, h2⟩
  have := pl_one (A := A) hk (show i < blC c by omega) (by omega)
  omega
/-- What is left: the blocks that are not seen yet. -/
structure LeftL (A : Nat) (c : Int) (seen : List Nat) (L : List Int) : Prop where
  mem : ∀ x, x ∈ L ↔ ∃ k, k < blC c ∧ k ∉ seen ∧ x = (pl A c k : Int)
  len : L.length + seen.length = blC c
theorem LeftL.start (A : Nat) (c : Int) : LeftL A c [] (plsL A c (blC c)) :=
  ⟨fun x => by rw [plsL_mem]; simp, by rw [plsL_len]; simp⟩
theorem LeftL.step {A : Nat} {c : Int} {seen : List Nat} {L : List Int} (h : LeftL A c seen L) (hn : L.Nodup) {k : Nat} (hk : k < blC c) (hs : k ∉ seen) : (pl A c k : Int) ∈ L ∧ LeftL A c (k :: seen) (L.erase (pl A c k : Int)) := by
  have hm : (pl A c k : Int) ∈ L := (h.mem _).2 ⟨k, hk, hs, rfl⟩
  refine ⟨hm, fun x => ?_, ?_⟩
  · rw [hn.mem_erase_iff, h.mem]
    constructor
    · rintro ⟨h1, i, h2, h3, h4⟩
      refine ⟨i, h2, ?_, h4⟩
      rintro q
      rcases List.mem_cons.1 q with rfl | q
      · exact h1 h4
      · exact h3 q
    · rintro ⟨i, h2, h3, h4⟩
      simp only [List.mem_cons, not_or] at h3
      refine ⟨?_, i, h2, h3.2, h4⟩
      rintro q
      exact h3.1 (pl_one (A := A) h2 hk (by omega))
  · have := List.length_erase_of_mem hm
    have := List.length_pos_of_mem hm
    have := h.len
    rw [List.length_cons]
    omega
theorem w64_of {x : Int} (h0 : -9223372036854775808 ≤ x) (h1 : x ≤ 9223372036854775807) : w64 x := by
  unfold w64
  simp [Lit.wf, IntKind.min, IntKind.max, IntKind.signed, IntKind.bits]
  omega
set_option maxRecDepth 100000 in
set_option maxHeartbeats 4000000 in
theorem remaining_ok (u : Value) (l : List Int) (A : Nat) (cl lv fr : Int) (F : List Nat) (w : World) (ht : Cls.Tab w) (hr : Row .u8 w u l) (hA : A + 1024 ≤ l.length) (hA16 : A % 16 = 0) (hl : l.length ≤ 1000000)
    (hf : flw l A cl (blC cl + 1) fr [] = some F) (hF : F.length ≠ blC cl) (hlv : lv = ((blC cl - F.length : Nat) : Int)) (hb0 : 1 ≤ blC cl) :
    Calls Tryz.prog 288 #[sV u (A : Int) cl lv fr] w fun e w' => ∃ b L, e = .returned (.tuple #[.map (some b), Value.nilIface]) ∧ Below w.heap.size w w' ∧ SetM w' b L ∧ LeftL A cl F L ∧ w.heap.size ≤ b := by
  have hbl := blC_le cl
  obtain ⟨p, c, rfl, h2, h3, h4, h5⟩ := id hr
  obtain ⟨hc, hlt, hb⟩ := box_slab w (u := .slice p l.length c) rfl (A : Int) cl lv fr
  have HBk := Lib.hid (fun (k : Nat) (W : World) (hW : Below w.heap.size w W) (hk : k < blC cl) => block_any p l.length c A cl lv fr k W (tab_keep hW ht) hk (by omega))
  have HNu := Lib.hid (fun (a : Nat) (W : World) (hW : Below w.heap.size w W) (h1 : a + 4 ≤ l.length) (h2 : a % 4 = 0) => number_any (.slice p l.length c) l a 4 W (hr.mono hW (Nat.le_refl _)) (.inr rfl) h1 h2)
  have HBl := Lib.hid (fun (W : World) (hW : Below w.heap.size w W) => Cls.blocks_any cl W (tab_keep hW ht))
  have HBox : Hid (∀ W, Below (w.alloc (sB (.slice p l.length c) (A : Int) cl lv fr)).heap.size (w.alloc (sB (.slice p l.length c) (A : Int) cl lv fr)) W → _) := hc
  have HIn : Hid (∀ k, k < blC cl → pl A cl k + 32 ≤ l.length ∧ pl A cl k % 16 = 0 ∧ w64 (pl A cl k : Int)) := fun k hk => by
    have h1 := bl_in hk
    have h2 := Sla.mul_mod cl k
    refine ⟨by unfold pl; omega, by unfold pl; omega, w64_of (by omega) (by unfold pl; omega)⟩
  have HFw : Hid (flw l A cl (blC cl + 1) fr [] = some F) := hf
  have HEnd : Hid (F.length ≠ blC cl ∧ lv = ((blC cl - F.length : Nat) : Int)) := ⟨hF, hlv⟩
  have HLs : Hid (LeftL A cl [] (plsL A cl (blC cl))) := LeftL.start A cl
  have HPs : Hid (∀ k, k < blC cl → plsL A cl (k + 1) = plsL A cl k ++ [(pl A cl k : Int)] ∧ (pl A cl k : Int) ∉ plsL A cl k ∧ (plsL A cl k).length = k) := fun k hk => ⟨plsL_succ _ _ _, plsL_new hk, plsL_len _ _ _⟩
  have hB1 := Lib.hid hb
  obtain ⟨c0, c1, c2, c3, c4⟩ := hc _ (Below.refl _ _)
  have hgl : w.heap.size < (w.alloc (sB (.slice p l.length c) (A : Int) cl lv fr)).heap.size := hlt
  have HM := SetM.made (w.alloc (sB (.slice p l.length c) (A : Int) cl lv fr))
  have hsz : (w.alloc (sB (.slice p l.length c) (A : Int) cl lv fr)).heap.size = w.heap.size + 1 := Array.size_push _
  rw [hsz] at HM
  have HM0 := Lib.hid HM
  have HBm : Hid (Below w.heap.size w ((w.alloc (sB (.slice p l.length c) (A : Int) cl lv fr)).alloc (.map #[] 0)) ∧ Below (w.alloc (sB (.slice p l.length c) (A : Int) cl lv fr)).heap.size (w.alloc (sB (.slice p l.length c) (A : Int) cl lv fr)) ((w.alloc (sB (.slice p l.length c) (A : Int) cl lv fr)).alloc (.map #[] 0))) := ⟨hb.alloc hb.size _, below_made _ _⟩
  unfold sV
  unfold sB at HBox c0 c1 c2 c3 c4 hgl HM0 HBm hB1
  unfold sV at HBk
  obtain ⟨n, hn⟩ : ∃ n, n = blC cl := ⟨_, rfl⟩
  rw [← hn] at HBl HBk HIn HFw HEnd HLs HPs hbl hb0
  have HNn := Lib.hid hn
  clear hf hF hlv hr hc hb ht h4 h5 HM hlt hn hA hA16 hsz
  go_enter Tryz.func288, Tryz.ntmps288
  have hmm := @run_makeMap Tryz.prog
  go_wp2_with fail
  clear hmm
  refine (HBl.out _ HBm.out.1).mono ?_
  rintro e w' ⟨rfl, rfl⟩
  obtain ⟨w1, hw1⟩ : ∃ w1, w1 = w.alloc (.cells #[.slice p l.length c, .int .i64 (A : Int), .int .i64 cl, .int .i64 lv, .int .i64 fr] 256) := ⟨_, rfl⟩
  rw [← hw1] at HM0 HBm HBox hgl hB1 c0 c1 c2 c3 c4
  rw [← hw1]
  have HSz : Hid (w1.heap.size = w.heap.size + 1) := by rw [hw1]; exact Array.size_push _
  clear hw1
  go_wp2
  go_loopw [11] (fun i wr => ∃ k : Nat, k ≤ n ∧ i = .int .i64 k ∧ Hid (SetM wr (w.heap.size + 1) (plsL A cl k)) ∧ Hid (Below w.heap.size w wr ∧ Below w1.heap.size w1 wr)) (fun i _ => n - (intOf i).toNat)
  case atStart => exact ⟨0, Nat.zero_le _, rfl, HM0.out, HBm.out⟩
  case round =>
    clear HM0 HBm c0 c1 c2 c3 c4
    obtain ⟨k, hk, rfl, HS, HB⟩ := hrel
    obtain ⟨c0, c1, c2, c3, c4⟩ := HBox.out _ HB.out.2
    by_cases hlt : k < n
    · have hlt1 : (k : Int) < (n : Int) := by omega
      have hkw : IntKind.i64.wrap ((k : Int) + 1) = ((k + 1 : Nat) : Int) := (wrap_id (by omega) (by omega)).trans (by omega)
      go_wp2_with fail
      refine (HBk.out k _ HB.out.1 hlt).mono ?_
      rintro e w3 ⟨rfl, hb3⟩
      obtain ⟨hp1, hp2, hp3⟩ := HPs.out k hlt
      obtain ⟨w4, hput, hS4, hg4⟩ := (HS.out.below hb3).put (HIn.out k hlt).2.2 hp2 (by rw [hp3]; omega)
      rw [← hp1] at hS4
      have HS4 := Lib.hid hS4
      have HB4 : Hid (Below w.heap.size w w4 ∧ Below w1.heap.size w1 w4) := ⟨(HB.out.1.trans (hb3.mono HB.out.1.size)).grown hg4 (Nat.le_trans HB.out.1.size hb3.size) (fun r hr => by injection hr with hr; omega), (HB.out.2.trans (hb3.mono HB.out.2.size)).grown hg4 (Nat.le_trans HB.out.2.size hb3.size) (fun r hr => by injection hr with hr; have := HSz.out; omega)⟩
      generalize (pl A cl k : Int) = P at hput
      clear hp1 hp2 hp3 hS4 hg4 hb3 HS HB c0 c1 c2 c3 c4
      go_wp2
      go_roundw
      case rel => exact ⟨k + 1, by omega, by go_num, HS4.out, HB4.out⟩
      case measure => simp [intOf]; omega
    · obtain rfl : k = n := by omega
      have HLn : Hid (LeftL A cl [] (plsL A cl k)) := HLs.out
      have HFn : Hid (flw l A cl (k + 1 - ([] : List Nat).length) fr [] = some F) := HFw.out
      clear HLs HFw HPs HBk HBl
      go_wp2
      go_loopw [6] (fun a wr => ∃ (seen : List Nat) (L : List Int) (x : Int), a = .int .i64 x ∧ Hid (flw l A cl (k + 1 - seen.length) x seen = some F) ∧ Hid (SetM wr (w.heap.size + 1) L) ∧ Hid (LeftL A cl seen L) ∧ Hid (Below w.heap.size w wr ∧ Below w1.heap.size w1 wr)) (fun _ wr => mapZ wr (.map (some (w.heap.size + 1))))
      case atStart => exact ⟨[], _, fr, rfl, HFn.out, HS.out, HLn.out, HB.out⟩
      case round =>
        clear HFn HLn HS HB c0 c1 c2 c3 c4
        obtain ⟨seen, L, x, rfl, HF, HS, HLe, HB⟩ := hrel
        obtain ⟨c0, c1, c2, c3, c4⟩ := HBox.out _ HB.out.2
        by_cases hx : x = 0
        · subst hx
          have hFs := flw_zero HF.out
          obtain ⟨hE1, hE2⟩ := HEnd.out
          rw [hFs] at hE1 hE2
          have hlen := HLe.out.len
          rw [← HNn.out] at hlen
          have hln := HS.out.len 3
          have hl0 : ((L.length : Int) == 0) = false := by rw [beq_eq_false_iff_ne]; omega
          have hlv : lv = (L.length : Int) := by omega
          have HFs := Lib.hid hFs
          subst hlv
          clear hE1 hE2 hFs hlen HF
          go_wp2
          go_ret2
          refine ⟨_, L, rfl, HB.out.1, HS.out, ?_, Nat.le_succ _⟩
          rw [HFs.out]
          exact HLe.out
        · have hx0 : (x == 0) = false := by simp [hx]
          obtain ⟨m, j, hm, hj, rfl, hjs, hfl⟩ := flw_step HF.out hx
          obtain ⟨hin1, hin2, hin3⟩ := HIn.out j (by rw [HNn.out]; exact hj)
          obtain ⟨hmem, hle⟩ := HLe.out.step HS.out.nd hj hjs
          have hlk := HS.out.look hin3
          rw [decide_eq_true hmem] at hlk
          obtain ⟨w4, hdel, hS4, hg4⟩ := HS.out.del hin3 hmem (0 : TypeId)
          have HS4 := Lib.hid hS4
          have HB4 : Hid (Below w.heap.size w w4 ∧ Below w1.heap.size w1 w4) := ⟨HB.out.1.grown hg4 HB.out.1.size (fun r hr => by injection hr with hr; omega), HB.out.2.grown hg4 HB.out.2.size (fun r hr => by injection hr with hr; have := HSz.out; omega)⟩
          have hlen := HLe.out.len
          rw [← HNn.out] at hlen
          have hlen2 := List.length_erase_of_mem hmem
          have hpos := List.length_pos_of_mem hmem
          have HMs : Hid (mapZ wr (.map (some (w.heap.size + 1))) = L.length) := HS.out.mapZ
          have HFl : Hid (flw l A cl (k + 1 - (j :: seen).length) (rd l (pl A cl j + 4) 4) (j :: seen) = some F) := by
            unfold Hid
            rw [List.length_cons, show k + 1 - (seen.length + 1) = m by omega]
            exact hfl
          have HLe2 := Lib.hid hle
          have HLz : Hid ((L.erase (pl A cl j : Int)).length < L.length) := by unfold Hid; omega
          obtain ⟨a4, ha4⟩ : ∃ a4, a4 = pl A cl j + 4 := ⟨_, rfl⟩
          have hw4 : IntKind.i64.wrap ((pl A cl j : Int) + 4) = (a4 : Int) := (wrap_id (by omega) (by omega)).trans (by omega)
          have hnu := HNu.out a4 w4 HB4.out.1 (by omega) (by omega)
          rw [← ha4] at HFl
          obtain ⟨y, hy⟩ : ∃ y, y = rd l a4 4 := ⟨_, rfl⟩
          rw [← hy] at hnu HFl
          have HNu4 := Lib.hid hnu
          obtain ⟨L2, hL2⟩ : ∃ L2, L2 = L.erase (pl A cl j : Int) := ⟨_, rfl⟩
          rw [← hL2] at HS4 HLe2 HLz
          obtain ⟨q, hq⟩ : ∃ q, q = pl A cl j := ⟨_, rfl⟩
          rw [← hq] at hlk hdel hw4 hx0
          rw [← hq]
          obtain ⟨d0, d1, d2, d3, d4⟩ := HBox.out _ HB4.out.2
          clear hx hm hj hjs hfl hin1 hin2 hin3 hmem hle hS4 hg4 hlen hlen2 hpos hnu hy hL2 hq ha4 HS HB HF HLe c0 c1 c2 c3 c4
          go_wp2_with fail
          refine HNu4.out.mono ?_
          rintro e w5 ⟨rfl, hb5⟩
          have HS5 := Lib.hid (HS4.out.below hb5)
          have HB5 : Hid (Below w.heap.size w w5 ∧ Below w1.heap.size w1 w5) := ⟨HB4.out.1.trans (hb5.mono HB4.out.1.size), HB4.out.2.trans (hb5.mono HB4.out.2.size)⟩
          clear hb5 HS4 HB4 d0 d1 d2 d3 d4 hlk hdel hw4 hx0
          go_wp2
          go_roundw
          case rel => exact ⟨j :: seen, L2, y, rfl, HFl.out, HS5.out, HLe2.out, HB5.out⟩
          case measure => rw [HS5.out.mapZ, HMs.out]; exact HLz.out
end Go.Proofs.YtjjfihoplkddfaaGreatDoor.Reg

namespace Go.Proofs.YtjjfihoplkddfaaGreatDoor.Reg
open Go.RowKit
open Cls (szC blC pdC)
open Sla (pl aT Sl bl_in bl_apart)
open Mem (rd)
set_option linter.unusedVariables false

theorem own_kept {w w' : World} {base n k : Nat} {t : TypeId} {v : Value} {xs : List Value} {r : Option Nat} (h : w.ownsRow base t k v n xs) (hg : w.grownBy w' r) (hne : ∀ b, v.ownBlock = some b → some b ≠ r) : w'.ownsRow base t k v n xs := by
  refine ⟨h.1, ?_⟩
  rcases h.2 with hn | ⟨g, cap, cur, rfl, hb, hgg, rest⟩
  · exact .inl hn
  · exact .inr ⟨g, cap, cur, rfl, hb, (hg.block g (Array.getElem?_eq_some_iff.1 hgg).1 (hne g rfl)).trans hgg, rest⟩
theorem own_at {w : World} {base n k : Nat} {t : TypeId} {v : Value} {xs : List Value} (h : w.ownsRow base t k v n xs) : ∀ b, v.ownBlock = some b → base ≤ b ∧ b < w.heap.size := by
  intro b hb
  rcases h.2 with ⟨rfl, -⟩ | ⟨g, cap, cur, rfl, hg, hgg, rest⟩
  · cases hb
  · cases hb; exact ⟨hg, (Array.getElem?_eq_some_iff.1 hgg).1⟩
theorem grown_setCell (W : World) (p : Addr) (v : Value) : W.grownBy (W.setCell p v) (some p.block) := by
  refine ⟨rfl, rfl, rfl, by simp, fun k hk hne => ?_⟩
  exact Below.heap_setCell _ _ _ _ (fun q => hne (by rw [q]))
theorem run_cells {w : World} {g : Nat} {a n k : Int} (h : w.heap[g]? = some (.cells #[.int .i64 a, .int .i64 n, .int .i64 k] 60 (0, 0))) :
    w.cell? ⟨g, 0, none⟩ = some (.int .i64 a) ∧ w.cell? ⟨g, 1, none⟩ = some (.int .i64 n) ∧ w.cell? ⟨g, 2, none⟩ = some (.int .i64 k) ∧ w.frozen? ⟨g, 2, none⟩ = false :=
  ⟨(cell_block h 0).trans rfl, (cell_block h 1).trans rfl, (cell_block h 2).trans rfl, by simp [World.frozen?, h]⟩
theorem box_zero (w : World) : ∀ W, Below (w.alloc (.cells #[.int .i64 0, .int .i64 0, .int .i64 0] 60)).heap.size (w.alloc (.cells #[.int .i64 0, .int .i64 0, .int .i64 0] 60)) W → W.heap[w.heap.size]? = some (.cells #[.int .i64 0, .int .i64 0, .int .i64 0] 60 (0, 0)) ∧
    W.cell? ⟨w.heap.size, 0, none⟩ = some (.int .i64 0) ∧ W.cell? ⟨w.heap.size, 1, none⟩ = some (.int .i64 0) ∧ W.cell? ⟨w.heap.size, 2, none⟩ = some (.int .i64 0) ∧ W.frozen? ⟨w.heap.size, 0, none⟩ = false ∧ W.frozen? ⟨w.heap.size, 1, none⟩ = false ∧ W.frozen? ⟨w.heap.size, 2, none⟩ = false := by
  intro W hW
  have hb := (hW.block w.heap.size (size_alloc1 w _)).trans (heap_alloc_new w _)
  exact ⟨hb, (cell_block hb 0).trans rfl, (cell_block hb 1).trans rfl, (cell_block hb 2).trans rfl, by simp [World.frozen?, hb], by simp [World.frozen?, hb], by simp [World.frozen?, hb]⟩
theorem set_three {w : World} {g : Nat} {x y z : Int} (h : w.heap[g]? = some (.cells #[.int .i64 x, .int .i64 y, .int .i64 z] 60 (0, 0))) (a n k : Int) :
    (((w.setCell ⟨g, 0, none⟩ (.int .i64 a)).setCell ⟨g, 1, none⟩ (.int .i64 n)).setCell ⟨g, 2, none⟩ (.int .i64 k)).heap[g]? = some (.cells #[.int .i64 a, .int .i64 n, .int .i64 k] 60 (0, 0)) :=
  (Hea.heap_setCell_own (o := 2) (Hea.heap_setCell_own (o := 1) (Hea.heap_setCell_own (o := 0) h (.int .i64 a)) (.int .i64 n)) (.int .i64 k)).trans rfl
def blkL (A : Nat) (c : Int) (F : List Nat) (k : Nat) : List RZ := (List.range k).map (blkR A c F)
theorem blkL_succ (A : Nat) (c : Int) (F : List Nat) (k : Nat) : blkL A c F (k + 1) = blkL A c F k ++ [blkR A c F k] := by simp [blkL, List.range_succ]
theorem blkL_len (A : Nat) (c : Int) (F : List Nat) (k : Nat) : (blkL A c F k).length = k := by simp [blkL]
set_option maxRecDepth 100000 in
set_option maxHeartbeats 4000000 in
theorem divided_ok (u : Value) (l : List Int) (A : Nat) (cl lv fr : Int) (F : List Nat) (w : World) (ht : Cls.Tab w) (hr : Row .u8 w u l) (hA : A + 1024 ≤ l.length) (hA16 : A % 16 = 0) (hl : l.length ≤ 1000000)
    (hf : flw l A cl (blC cl + 1) fr [] = some F) (hF : F.length ≠ blC cl) (hlv : lv = ((blC cl - F.length : Nat) : Int)) (hb0 : 1 ≤ blC cl) :
    Calls Tryz.prog 280 #[sV u (A : Int) cl lv fr] w (ROk w (dvR A cl F)) := by
  obtain ⟨i0, hi, hz0, hz1, hz2⟩ := info_parts Lay.infoRun
  have hbl := blC_le cl
  obtain ⟨p, c, rfl, h2, h3, h4, h5⟩ := id hr
  obtain ⟨hc, hlt, hb⟩ := box_slab w (u := .slice p l.length c) rfl (A : Int) cl lv fr
  have hRe := remaining_ok (.slice p l.length c) l A cl lv fr F (w.alloc (sB (.slice p l.length c) (A : Int) cl lv fr)) (tab_keep hb ht) (hr.mono hb (Nat.le_refl _)) hA hA16 hl hf hF hlv hb0
  have HRe := Lib.hid hRe
  have HBk := Lib.hid (fun (k : Nat) (W : World) (hW : Below w.heap.size w W) (hk : k < blC cl) => block_any p l.length c A cl lv fr k W (tab_keep hW ht) hk (by omega))
  have HBl := Lib.hid (fun (W : World) (hW : Below w.heap.size w W) => Cls.blocks_any cl W (tab_keep hW ht))
  have HPd := Lib.hid (fun (W : World) (hW : Below w.heap.size w W) => Cls.pad_any cl W (tab_keep hW ht))
  obtain ⟨z, hz⟩ : ∃ z, z = szC cl := ⟨_, rfl⟩
  have HSi : Hid (∀ (W : World), Below w.heap.size w W → Calls Tryz.prog 164 #[.int .i64 cl] W fun e w' => e = .returned (.int .i64 (z : Int)) ∧ W = w') := fun W hW => by rw [hz]; exact Cls.size_any cl W (tab_keep hW ht)
  have HBox : Hid (∀ W, Below (w.alloc (sB (.slice p l.length c) (A : Int) cl lv fr)).heap.size (w.alloc (sB (.slice p l.length c) (A : Int) cl lv fr)) W → _) := hc
  have HIn : Hid (∀ k, k < blC cl → w64 (pl A cl k : Int)) := fun k hk => by
    have h1 := bl_in hk
    exact w64_of (by omega) (by unfold pl; omega)
  have HR1 : Hid (∀ k, k < blC cl → blkL A cl F (k + 1) = blkL A cl F k ++ [((pl A cl k : Int), (z : Int), if k ∈ F then 6 else 5)]) := fun k hk => by rw [blkL_succ, hz]; rfl
  obtain ⟨y, hy⟩ : ∃ y, y = pdC cl := ⟨_, rfl⟩
  have hy1 : y ≤ 1024 := by rw [hy]; unfold pdC; split <;> omega
  have HDv : Hid (dvR A cl F = blkL A cl F (blC cl) ++ if 0 < y then ([(((A + 1024 - y : Nat) : Int), (y : Int), 8)] : List RZ) else []) := by unfold Hid dvR padR; rw [← hy]; rfl
  rw [← hy] at HPd
  have hB1 := Lib.hid hb
  obtain ⟨c0, c1, c2, c3, c4⟩ := hc _ (Below.refl _ _)
  unfold sV at HRe HBk ⊢
  unfold sB at HRe HBox c0 c1 c2 c3 c4 hB1
  obtain ⟨n, hn⟩ : ∃ n, n = blC cl := ⟨_, rfl⟩
  rw [← hn] at HBl HBk HIn HR1 HDv hbl hb0
  have HNn := Lib.hid hn
  clear hf hF hlv hr hc hb ht h4 h5 hlt hn hA16 hRe hz hy
  go_enter Tryz.func280, Tryz.ntmps280
  obtain ⟨w1, hw1⟩ : ∃ w1, w1 = w.alloc (.cells #[.slice p l.length c, .int .i64 (A : Int), .int .i64 cl, .int .i64 lv, .int .i64 fr] 256) := ⟨_, rfl⟩
  rw [← hw1] at HRe HBox hB1
  have HSz : Hid (w1.heap.size = w.heap.size + 1) := by rw [hw1]; exact Array.size_push _
  go_wp2_with fail
  rw [← hw1]
  clear hw1 c0 c1 c2 c3 c4
  refine HRe.out.mono ?_
  rintro e w2 ⟨b, L, rfl, hb2, hS2, hLe2, hbb⟩
  have HLe : Hid (∀ k, k < n → decide ((pl A cl k : Int) ∈ L) = decide (k ∉ F)) := fun k hk => by
    rw [decide_eq_decide, hLe2.mem]
    constructor
    · rintro ⟨j, h1, h2, h3⟩
      rw [HNn.out] at hk
      rw [pl_one (A := A) hk h1 (by omega)]
      exact h2
    · intro h1
      exact ⟨k, by rw [← HNn.out]; exact hk, h1, rfl⟩
  have HS2 := Lib.hid hS2
  have HB2 : Hid (Below w.heap.size w w2 ∧ Below w1.heap.size w1 w2) := ⟨hB1.out.trans (hb2.mono hB1.out.size), hb2⟩
  have hbl2 := hS2.lt
  have HBz : Hid (w.heap.size ≤ w2.heap.size ∧ w1.heap.size ≤ w2.heap.size) := ⟨HB2.out.1.size, HB2.out.2.size⟩
  clear hb2 hS2 hLe2 hbb HRe
  obtain ⟨c0, c1, c2, c3, c4⟩ := HBox.out _ HB2.out.2
  go_wp2_with fail
  refine (HBl.out _ HB2.out.1).mono ?_
  rintro e w' ⟨rfl, rfl⟩
  go_wp2
  go_loopw [6, 21] (fun v i wr => ∃ k : Nat, k ≤ n ∧ i = .int .i64 k ∧ Hid (wr.ownsRow w2.heap.size 60 3 v k (valsA encZ (blkL A cl F k))) ∧ Hid (SetM wr b L) ∧ Hid (Below w.heap.size w wr ∧ Below w1.heap.size w1 wr ∧ Below w2.heap.size w2 wr)) (fun _ i _ => n - (intOf i).toNat)
  case atStart => exact ⟨0, Nat.zero_le _, rfl, World.ownsRow_nil _ _ _ _, HS2.out, HB2.out.1, HB2.out.2, Below.refl _ _⟩
  case round =>
    clear HS2 HB2 c0 c1 c2 c3 c4
    obtain ⟨k, hk, rfl, HO, HS, HB⟩ := hrel
    obtain ⟨c0, c1, c2, c3, c4⟩ := HBox.out _ HB.out.2.1
    by_cases hlt : k < n
    · have hlt1 : (k : Int) < (n : Int) := by omega
      have hkw : IntKind.i64.wrap ((k : Int) + 1) = ((k + 1 : Nat) : Int) := (wrap_id (by omega) (by omega)).trans (by omega)
      have h64 := HIn.out k hlt
      have hr1 := HR1.out k hlt
      have hle := HLe.out k hlt
      have HBk2 := Lib.hid (fun (W : World) (hW : Below w.heap.size w W) => HBk.out k W hW hlt)
      generalize pl A cl k = P at h64 hr1 hle HBk2
      have hB := HB.out.1
      have hBb := HB.out.2.1
      go_upto_region 8 with fail
      go_cut [8] (fun s wc => ∃ g, s = .pointer (some ⟨g, 0, none⟩) ∧ wr.heap.size ≤ g ∧ Hid (Below wr.heap.size wr wc) ∧ Hid (wc.heap[g]? = some (.cells #[.int .i64 (P : Int), .int .i64 (z : Int), .int .i64 6] 60 (0, 0))))
      case first =>
        clear hkw h64 hr1 hle
        have hr0 := Below.refl wr.heap.size wr
        have zc := box_zero wr
        have zd := (Below.refl (wr.alloc (.cells #[.int .i64 0, .int .i64 0, .int .i64 0] 60)).heap.size (wr.alloc (.cells #[.int .i64 0, .int .i64 0, .int .i64 0] 60))).drew
        have hBa := hB.alloc hB.size (.cells #[.int .i64 0, .int .i64 0, .int .i64 0] 60)
        have hra := hr0.alloc hr0.size (.cells #[.int .i64 0, .int .i64 0, .int .i64 0] 60)
        have hBc := hBb.alloc hBb.size (.cells #[.int .i64 0, .int .i64 0, .int .i64 0] 60)
        obtain ⟨a0, a1, a2, a3, a4⟩ := HBox.out _ hBc
        go_region_with (first
          | (go_at_call 289
             refine (HBk2.out _ (by first | exact hB | exact hB.drew | exact hBa | exact hBa.drew)).mono ?_
             rintro e w3 ⟨rfl, hb3⟩
             have hB3 : Below w.heap.size w w3 := (by first | exact hB.trans (hb3.mono hB.size) | exact hB.drew.trans (hb3.mono hB.drew.size) | exact hBa.trans (hb3.mono hBa.size) | exact hBa.drew.trans (hb3.mono hBa.drew.size))
             have hr3 : Below wr.heap.size wr w3 := (by first | exact hr0.trans hb3 | exact hr0.drew.trans hb3 | exact hra.trans (hb3.mono hra.size) | exact hra.drew.trans (hb3.mono hra.drew.size))
             have hb1w : Below w1.heap.size w1 w3 := (by first | exact hBb.trans (hb3.mono hBb.size) | exact hBb.drew.trans (hb3.mono hBb.drew.size) | exact hBc.trans (hb3.mono hBc.size) | exact hBc.drew.trans (hb3.mono hBc.drew.size))
             obtain ⟨d0, d1, d2, d3, d4⟩ := HBox.out w3 hb1w
             obtain ⟨y0, y1, y2, y3, y4⟩ := HBox.out _ (hb1w.alloc hb1w.size (.cells #[.int .i64 0, .int .i64 0, .int .i64 0] 60))
             first | (have hz3 := zc _ hb3; obtain ⟨hzb, z0, z1, z2, z3, z4, z5⟩ := hz3) | (have hz3 := zc _ (zd.trans hb3); obtain ⟨hzb, z0, z1, z2, z3, z4, z5⟩ := hz3) | skip)
          | (go_at_call 164
             refine (HSi.out _ (by first | exact hB3 | exact hB3.drew | exact hB3.alloc hB3.size _)).mono ?_
             rintro e w4 ⟨rfl, rfl⟩))
        all_goals go_wp2_with fail
        all_goals go_meet
        all_goals first
          | exact ⟨_, rfl, hr3.size, hr3.alloc hr3.size _, heap_alloc_new w3 _⟩
          | exact ⟨_, rfl, hr3.size, (hr3.alloc hr3.size _).drew, heap_alloc_new w3 _⟩
          | exact ⟨_, rfl, Nat.le_refl _, ((hr3.setCell (Nat.le_refl _) _).setCell (Nat.le_refl _) _).setCell (Nat.le_refl _) _, set_three hzb _ _ _⟩
          | exact ⟨_, rfl, Nat.le_refl _, (((hr3.setCell (Nat.le_refl _) _).setCell (Nat.le_refl _) _).setCell (Nat.le_refl _) _).drew, set_three hzb _ _ _⟩
      case rest =>
        obtain ⟨g, rfl, hgw, HBw, HG⟩ := hcut
        have hS3 := HS.out.below HBw.out
        have hO3 := ownsRow_stays HO.out HBw.out
        have hlk := hS3.look h64
        rw [hle] at hlk
        obtain ⟨e0, e1, e2, e3⟩ := run_cells HG.out
        have HB3 : Hid (Below w.heap.size w wc ∧ Below w1.heap.size w1 wc ∧ Below w2.heap.size w2 wc) := ⟨HB.out.1.trans (HBw.out.mono HB.out.1.size), HB.out.2.1.trans (HBw.out.mono HB.out.2.1.size), HB.out.2.2.trans (HBw.out.mono HB.out.2.2.size)⟩
        have hrow : ∀ r, u6.ownBlock = some r → w2.heap.size ≤ r ∧ r < wr.heap.size := own_at HO.out
        have hw2c : w2.heap.size ≤ wc.heap.size := HB3.out.2.2.size
        have hwr2 : w2.heap.size ≤ wr.heap.size := HB.out.2.2.size
        have hbz := HBz.out
        clear hB hBb HO HS HB HBk2 hle c0 c1 c2 c3 c4
        by_cases hkF : k ∈ F
        · rw [show decide (k ∉ F) = false by simp [hkF]] at hlk
          rw [if_pos hkF] at hr1
          have HS5 := Lib.hid hS3
          have hO5 := hO3
          have HB5 := HB3
          have HR2 := Lib.hid hr1
          clear hS3 hO3 hr1 hkF
          go_wp2_with (at_builtin; refine wpList_append_own _ rfl (.tmp 36) (.tmp 38) 53 rfl w2.heap.size 60 i0 (.agg #[.int .i64 0, .int .i64 0, .int .i64 0]) 3 24 Tryz.underlying53 hi hz0 hz1 hz2 rfl (by decide) _ _ _ rfl (World.ownsRow.alloc hO5 _) ⟨wc.heap.size, 0, none⟩ 1 1 [.int .i64 (P : Int), .int .i64 (z : Int), .int .i64 6] rfl rfl (Lay.news_three_at _ wc.heap.size (by simp) _ _ _ _) (Lay.oneCell_three _ _ _) (by unfold maxLen; omega) (by omega) (le_alloc _ hw2c) ?_)
          intro v3 w3 hown3 hgrow3 _
          have hal := below_made wc (.cells #[.int .i64 (P : Int), .int .i64 (z : Int), .int .i64 6] 60)
          have HN : Hid (w3.ownsRow w2.heap.size 60 3 v3 (k + 1) (valsA encZ (blkL A cl F (k + 1)))) := by
            unfold Hid
            rw [HR2.out, valsA_snoc]
            exact hown3
          have hrl : ∀ r, u6.ownBlock = some r → w2.heap.size ≤ r := fun r hr => (hrow r hr).1
          have HSn := Lib.hid ((HS5.out.below hal).grown hgrow3 (fun q => by have := hrl b q.symm; omega))
          have HBn : Hid (Below w.heap.size w w3 ∧ Below w1.heap.size w1 w3 ∧ Below w2.heap.size w2 w3) := ⟨(HB5.out.1.alloc HB5.out.1.size _).grown hgrow3 (le_alloc _ HB5.out.1.size) (fun r hr => by have := hrl r hr; have := HBz.out; omega), (HB5.out.2.1.alloc HB5.out.2.1.size _).grown hgrow3 (le_alloc _ HB5.out.2.1.size) (fun r hr => by have := hrl r hr; have := HBz.out; omega), (HB5.out.2.2.alloc HB5.out.2.2.size _).grown hgrow3 (le_alloc _ HB5.out.2.2.size) (fun r hr => hrl r hr)⟩
          clear hown3 hgrow3 hal hO5 HS5 HB5 hrow hrl
          go_wp2
          go_roundw
          case rel => exact ⟨k + 1, by omega, by go_num, HN.out, HSn.out, HBn.out⟩
          case measure => simp [intOf]; omega
        · rw [show decide (k ∉ F) = true by simp [hkF]] at hlk
          rw [if_neg hkF] at hr1
          have hg5 := grown_setCell wc ⟨g, 2, none⟩ (.int .i64 5)
          have hbg : b ≠ g := by omega
          have HS5 := Lib.hid (hS3.grown hg5 (by simp [hbg]))
          have hO5 := own_kept hO3 hg5 (fun r hr q => by simp at q; have := hrow r hr; omega)
          have hw12 := HSz.out
          have HB5 : Hid (Below w.heap.size w (wc.setCell ⟨g, 2, none⟩ (.int .i64 5)) ∧ Below w1.heap.size w1 (wc.setCell ⟨g, 2, none⟩ (.int .i64 5)) ∧ Below w2.heap.size w2 (wc.setCell ⟨g, 2, none⟩ (.int .i64 5))) := ⟨HB3.out.1.setCell (show w.heap.size ≤ g by omega) _, HB3.out.2.1.setCell (show w1.heap.size ≤ g by omega) _, HB3.out.2.2.setCell (show w2.heap.size ≤ g by omega) _⟩
          have HR2 := Lib.hid hr1
          have hG5 := Hea.heap_setCell_own (o := 2) HG.out (.int .i64 5)
          obtain ⟨f0, f1, f2, f3⟩ := run_cells (g := g) (w := wc.setCell ⟨g, 2, none⟩ (.int .i64 5)) (a := (P : Int)) (n := (z : Int)) (k := 5) hG5
          have hw5c : w2.heap.size ≤ (wc.setCell ⟨g, 2, none⟩ (.int .i64 5)).heap.size := HB5.out.2.2.size
          clear hS3 hO3 hr1 hkF hg5 hG5 hw12 hbg
          go_wp2_with (at_builtin; refine wpList_append_own _ rfl (.tmp 36) (.tmp 38) 53 rfl w2.heap.size 60 i0 (.agg #[.int .i64 0, .int .i64 0, .int .i64 0]) 3 24 Tryz.underlying53 hi hz0 hz1 hz2 rfl (by decide) _ _ _ rfl (World.ownsRow.alloc hO5 _) ⟨wc.heap.size, 0, none⟩ 1 1 [.int .i64 (P : Int), .int .i64 (z : Int), .int .i64 5] rfl rfl (Lay.news_three_at _ wc.heap.size (by simp) _ _ _ _) (Lay.oneCell_three _ _ _) (by unfold maxLen; omega) (by omega) (le_alloc _ hw5c) ?_)
          intro v3 w3 hown3 hgrow3 _
          have hal := below_made (wc.setCell ⟨g, 2, none⟩ (.int .i64 5)) (.cells #[.int .i64 (P : Int), .int .i64 (z : Int), .int .i64 5] 60)
          have HN : Hid (w3.ownsRow w2.heap.size 60 3 v3 (k + 1) (valsA encZ (blkL A cl F (k + 1)))) := by
            unfold Hid
            rw [HR2.out, valsA_snoc]
            exact hown3
          have hrl : ∀ r, u6.ownBlock = some r → w2.heap.size ≤ r := fun r hr => (hrow r hr).1
          have HSn := Lib.hid ((HS5.out.below hal).grown hgrow3 (fun q => by have := hrl b q.symm; omega))
          have HBn : Hid (Below w.heap.size w w3 ∧ Below w1.heap.size w1 w3 ∧ Below w2.heap.size w2 w3) := ⟨(HB5.out.1.alloc HB5.out.1.size _).grown hgrow3 (le_alloc _ HB5.out.1.size) (fun r hr => by have := hrl r hr; have := HBz.out; omega), (HB5.out.2.1.alloc HB5.out.2.1.size _).grown hgrow3 (le_alloc _ HB5.out.2.1.size) (fun r hr => by have := hrl r hr; have := HBz.out; omega), (HB5.out.2.2.alloc HB5.out.2.2.size _).grown hgrow3 (le_alloc _ HB5.out.2.2.size) (fun r hr => hrl r hr)⟩
          clear hown3 hgrow3 hal hO5 HS5 HB5 hrow hrl
          go_wp2
          go_roundw
          case rel => exact ⟨k + 1, by omega, by go_num, HN.out, HSn.out, HBn.out⟩
          case measure => simp [intOf]; omega
    · obtain rfl : k = n := by omega
      have hO := HO.out
      have HPd2 := HPd
      clear HR1 HLe HBk HIn HS
      go_wp2_with fail
      refine (HPd2.out _ HB.out.1).mono ?_
      rintro e w' ⟨rfl, rfl⟩
      have HDn := HDv.out
      by_cases hy0 : 0 < y
      · have hy2 : (0 : Int) < (y : Int) := by omega
        rw [if_pos hy0] at HDn
        obtain ⟨s, hs⟩ : ∃ s, s = A + 1024 := ⟨_, rfl⟩
        have hw1 : IntKind.i64.wrap ((A : Int) + 1024) = (s : Int) := (wrap_id (by omega) (by omega)).trans (by omega)
        obtain ⟨q, hq⟩ : ∃ q, q = s - y := ⟨_, rfl⟩
        have hw2 : IntKind.i64.wrap ((s : Int) - (y : Int)) = (q : Int) := (wrap_id (by omega) (by omega)).trans (by omega)
        rw [← hs, ← hq] at HDn
        have HDm := Lib.hid HDn
        have hw2r := HB.out.2.2.size
        clear hs hq HDn hy0
        go_wp2_with (at_builtin; refine wpList_append_own _ rfl (.tmp 46) (.tmp 54) 53 rfl w2.heap.size 60 i0 (.agg #[.int .i64 0, .int .i64 0, .int .i64 0]) 3 24 Tryz.underlying53 hi hz0 hz1 hz2 rfl (by decide) _ _ _ rfl (World.ownsRow.alloc hO _) ⟨wr.heap.size, 0, none⟩ 1 1 [.int .i64 (q : Int), .int .i64 (y : Int), .int .i64 8] rfl rfl (Lay.news_three _ _ _ _ _) (Lay.oneCell_three _ _ _) (by unfold maxLen; omega) (by omega) (le_alloc _ hw2r) ?_)
        intro v3 w3 hown3 hgrow3 _
        have HBn : Hid (Below w.heap.size w w3) := (HB.out.1.alloc HB.out.1.size _).grown hgrow3 (le_alloc _ HB.out.1.size) (fun r hr => by have := own_at hO r hr; have := HBz.out; omega)
        have hlen : (dvR A cl F).length = k + 1 := by rw [HDm.out, List.length_append, blkL_len]; rfl
        have HN : Hid (ZRow w3 v3 (dvR A cl F)) := by
          refine arow_of_owns (n := k + 1) (base := w2.heap.size) (t := 60) encZ_length rz0 ?_ hlen
          rw [HDm.out, valsA_snoc]
          exact hown3
        clear hown3 hgrow3 hO hlen
        go_wp2
        go_ret2
        exact ⟨_, rfl, HBn.out, HN.out⟩
      · have hy2 : ¬ (0 : Int) < (y : Int) := by omega
        rw [if_neg hy0, List.append_nil] at HDn
        have hlen : (dvR A cl F).length = k := by rw [HDn, blkL_len]
        have HN : Hid (ZRow wr u6 (dvR A cl F)) := by
          refine arow_of_owns (n := k) (base := w2.heap.size) (t := 60) encZ_length rz0 ?_ hlen
          rw [HDn]
          exact hO
        clear hO hlen HDn hy0
        go_wp2
        go_ret2
        exact ⟨_, rfl, HB.out.1, HN.out⟩
end Go.Proofs.YtjjfihoplkddfaaGreatDoor.Reg

namespace Go.Proofs.YtjjfihoplkddfaaGreatDoor.Reg
open Go.RowKit
open Cls (szC blC pdC)
open Sla (pl aT Sl bl_in bl_apart)
open Mem (rd)
set_option linter.unusedVariables false

def S5 (w : World) (o : Nat) (u : Value) (a b c d : Int) : World :=
  ((((w.setCell ⟨o, 0, none⟩ u).setCell ⟨o, 1, none⟩ (.int .i64 a)).setCell ⟨o, 2, none⟩ (.int .i64 b)).setCell ⟨o, 3, none⟩ (.int .i64 c)).setCell ⟨o, 4, none⟩ (.int .i64 d)
def slab0 : Array Value := #[.slice none 0 0, .int .i64 0, .int .i64 0, .int .i64 0, .int .i64 0]
theorem s5_block {w : World} {o : Nat} (h : w.heap[o]? = some (.cells slab0 256 (0, 0))) (u : Value) (a b c d : Int) : (S5 w o u a b c d).heap[o]? = some (.cells #[u, .int .i64 a, .int .i64 b, .int .i64 c, .int .i64 d] 256 (0, 0)) := by
  unfold S5
  have h1 := Hea.heap_setCell_own (o := 0) h u
  have h2 := Hea.heap_setCell_own (o := 1) h1 (.int .i64 a)
  have h3 := Hea.heap_setCell_own (o := 2) h2 (.int .i64 b)
  have h4 := Hea.heap_setCell_own (o := 3) h3 (.int .i64 c)
  exact (Hea.heap_setCell_own (o := 4) h4 (.int .i64 d)).trans (by simp [slab0])
/-- What the walk holds: the config's box, the result's. -/
structure RdV (w W : World) (S N : Nat) : Prop where
  b : Below w.heap.size w W
  c : W.heap[w.heap.size]? = some (.cells #[.int .i64 (S : Int), .int .i64 (N : Int)] 25 (0, 0))
  r : W.heap[w.heap.size + 1]? = some (.cells slab0 256 (0, 0))
theorem RdV.below {w W W' : World} {S N : Nat} (h : RdV w W S N) (hb : Below W.heap.size W W') : RdV w W' S N :=
  ⟨h.b.trans (hb.mono h.b.size), (hb.block _ (Array.getElem?_eq_some_iff.1 h.c).1).trans h.c, (hb.block _ (Array.getElem?_eq_some_iff.1 h.r).1).trans h.r⟩
theorem RdV.cells {w W : World} {S N : Nat} (h : RdV w W S N) : W.cell? ⟨w.heap.size, 0, none⟩ = some (.int .i64 (S : Int)) ∧ W.cell? ⟨w.heap.size, 1, none⟩ = some (.int .i64 (N : Int)) :=
  ⟨(cell_block h.c 0).trans rfl, (cell_block h.c 1).trans rfl⟩
theorem RdV.start (w : World) (S N : Nat) : RdV w ((w.alloc (.cells #[.int .i64 (S : Int), .int .i64 (N : Int)] 25)).alloc (.cells slab0 256)) S N := by
  have z1 : (w.alloc (.cells #[.int .i64 (S : Int), .int .i64 (N : Int)] 25)).heap.size = w.heap.size + 1 := Array.size_push _
  have b1 := below_made w (.cells #[.int .i64 (S : Int), .int .i64 (N : Int)] 25)
  have b2 := below_made (w.alloc (.cells #[.int .i64 (S : Int), .int .i64 (N : Int)] 25)) (.cells slab0 256)
  have n1 := heap_alloc_new w (.cells #[.int .i64 (S : Int), .int .i64 (N : Int)] 25)
  have n2 := heap_alloc_new (w.alloc (.cells #[.int .i64 (S : Int), .int .i64 (N : Int)] 25)) (.cells slab0 256)
  rw [z1] at n2
  exact ⟨b1.trans (b2.mono (by omega)), (b2.block _ (by omega)).trans n1, n2⟩
theorem headC_at {S N j : Nat} (hr : Lay.rightC (S : Int) (N : Int) = true) (hj : j < S) : Lay.headC (S : Int) (N : Int) (j : Int) = 128 + 16 * j := by
  rw [Lay.headC, if_pos ⟨hr, by omega, by omega⟩]
  rfl
set_option maxRecDepth 100000 in
set_option maxHeartbeats 4000000 in
theorem read_ok (u : Value) (l : List Int) (S N j : Nat) (w : World) (ht : Cls.Tab w) (hr : Row .u8 w u l) (hR : Lay.rightC (S : Int) (N : Int) = true) (hl : l.length = Lay.sizeT S N) (hj : j < S) :
    Calls Tryz.prog 250 #[.agg #[.int .i64 (S : Int), .int .i64 (N : Int)], u, .int .i64 (j : Int)] w fun e w' =>
      e = .returned (sV u (aT S N j : Int) (rd l (128 + 16 * j) 2) (rd l (128 + 16 * j + 2) 2) (rd l (128 + 16 * j + 4) 4)) ∧ Below w.heap.size w w' := by
  obtain ⟨q1, q2, q3, q4, q5⟩ := Lay.right_out hR
  have hC : (Lis.newCf S N).Ok := Lis.newCf_ok hR
  obtain ⟨b1, b2, b3, b4⟩ := Sla.ok_base hC
  change 128 + 16 * S ≤ Lay.baseT S N at b1
  change Lay.sizeT S N = Lay.baseT S N + 1024 * S at b3
  change Lay.sizeT S N ≤ 100000 at b4
  have HH := Lib.hid (fun (W : World) (hW : Below w.heap.size w W) => headC_at hR hj ▸ Lay.headAt_any (S : Int) (N : Int) (j : Int) W (tab_keep hW ht) (by omega) (by omega) (by omega) (by omega) (by omega) (by omega))
  have HS := Lib.hid (fun (W : World) (hW : Below w.heap.size w W) => Sla.slabC_at hR hj ▸ Lay.slabAt_any (S : Int) (N : Int) (j : Int) W (tab_keep hW ht) (by omega) (by omega) (by omega) (by omega) (by omega) (by omega))
  obtain ⟨hd, hhd⟩ : ∃ hd, hd = 128 + 16 * j := ⟨_, rfl⟩
  obtain ⟨h2, hh2⟩ : ∃ h2, h2 = hd + 2 := ⟨_, rfl⟩
  obtain ⟨h4, hh4⟩ : ∃ h4, h4 = hd + 4 := ⟨_, rfl⟩
  rw [← hhd] at HH ⊢
  have hn0 := fun (W : World) (hW : Below w.heap.size w W) => number_any u l hd 2 W (hr.mono hW (Nat.le_refl _)) (.inl rfl) (by omega) (by omega)
  have hn2 := fun (W : World) (hW : Below w.heap.size w W) => number_any u l h2 2 W (hr.mono hW (Nat.le_refl _)) (.inl rfl) (by omega) (by omega)
  have hn4 := fun (W : World) (hW : Below w.heap.size w W) => number_any u l h4 4 W (hr.mono hW (Nat.le_refl _)) (.inr rfl) (by omega) (by omega)
  rw [← hh2, ← hh4]
  generalize rd l hd 2 = x0 at hn0 ⊢
  generalize rd l h2 2 = x2 at hn2 ⊢
  generalize rd l h4 4 = x4 at hn4 ⊢
  have HN0 := Lib.hid hn0
  have HN2 := Lib.hid hn2
  have HN4 := Lib.hid hn4
  have hw0 : IntKind.i64.wrap (hd : Int) = (hd : Int) := wrap_id (by omega) (by omega)
  have hw1 : wrap64 (hd : Int) = (hd : Int) := IntWalk.wrap64_in _ (by omega)
  have hw2 : IntKind.i64.wrap ((hd : Int) + 2) = (h2 : Int) := (wrap_id (by omega) (by omega)).trans (by omega)
  have hw4 : IntKind.i64.wrap ((hd : Int) + 4) = (h4 : Int) := (wrap_id (by omega) (by omega)).trans (by omega)
  generalize aT S N j = B at HS ⊢
  obtain ⟨pp, cc, rfl, -⟩ := hr
  have HV2 := Lib.hid (RdV.start w S N)
  obtain ⟨c0, c1⟩ := HV2.out.cells
  unfold slab0 at HV2 c0 c1
  unfold sV
  clear hn0 hn2 hn4 hhd hh2 hh4 q1 q2 q3 q4 q5 hC b1 b2 b3 b4 hR hl hj ht
  go_enter Tryz.func250, Tryz.ntmps250
  go_wp2_with fail
  refine (HH.out _ HV2.out.b).mono ?_
  rintro e w3 ⟨rfl, hb⟩
  have HV3 := Lib.hid (HV2.out.below hb)
  clear hb c0 c1 HV2
  obtain ⟨c0, c1⟩ := HV3.out.cells
  go_wp2_with fail
  refine (HS.out _ HV3.out.b).mono ?_
  rintro e w4 ⟨rfl, hb⟩
  have HV4 := Lib.hid (HV3.out.below hb)
  clear hb c0 c1 HV3
  go_wp2_with fail
  refine (HN0.out _ HV4.out.b).mono ?_
  rintro e w5 ⟨rfl, hb⟩
  have HV5 := Lib.hid (HV4.out.below hb)
  clear hb HV4
  go_wp2_with fail
  refine (HN2.out _ HV5.out.b).mono ?_
  rintro e w6 ⟨rfl, hb⟩
  have HV6 := Lib.hid (HV5.out.below hb)
  clear hb HV5
  go_wp2_with fail
  refine (HN4.out _ HV6.out.b).mono ?_
  rintro e w7 ⟨rfl, hb⟩
  have HV7 := Lib.hid (HV6.out.below hb)
  clear hb HV6
  have hk1 := HV7.out.r
  have f0 : w7.frozen? ⟨w.heap.size + 1, 0, none⟩ = false := by simp [World.frozen?, hk1]
  have f1 : w7.frozen? ⟨w.heap.size + 1, 1, none⟩ = false := by simp [World.frozen?, hk1]
  have f2 : w7.frozen? ⟨w.heap.size + 1, 2, none⟩ = false := by simp [World.frozen?, hk1]
  have f3 : w7.frozen? ⟨w.heap.size + 1, 3, none⟩ = false := by simp [World.frozen?, hk1]
  have f4 : w7.frozen? ⟨w.heap.size + 1, 4, none⟩ = false := by simp [World.frozen?, hk1]
  have d0 : w7.cell? ⟨w.heap.size + 1, 0, none⟩ = some (.slice none 0 0) := (cell_block hk1 0).trans rfl
  have d1 : w7.cell? ⟨w.heap.size + 1, 1, none⟩ = some (.int .i64 0) := (cell_block hk1 1).trans rfl
  have d2 : w7.cell? ⟨w.heap.size + 1, 2, none⟩ = some (.int .i64 0) := (cell_block hk1 2).trans rfl
  have d3 : w7.cell? ⟨w.heap.size + 1, 3, none⟩ = some (.int .i64 0) := (cell_block hk1 3).trans rfl
  have d4 : w7.cell? ⟨w.heap.size + 1, 4, none⟩ = some (.int .i64 0) := (cell_block hk1 4).trans rfl
  have hQ := s5_block hk1 (.slice pp l.length cc) (B : Int) x0 x2 x4
  have HQ : Hid ((S5 w7 (w.heap.size + 1) (.slice pp l.length cc) (B : Int) x0 x2 x4).heap[w.heap.size + 1]? = _) := hQ
  have HBz : Hid (Below w.heap.size w (S5 w7 (w.heap.size + 1) (.slice pp l.length cc) (B : Int) x0 x2 x4)) := by
    unfold S5
    exact ((((HV7.out.b.setCell (show w.heap.size ≤ w.heap.size + 1 by omega) _).setCell (show w.heap.size ≤ w.heap.size + 1 by omega) _).setCell (show w.heap.size ≤ w.heap.size + 1 by omega) _).setCell (show w.heap.size ≤ w.heap.size + 1 by omega) _).setCell (show w.heap.size ≤ w.heap.size + 1 by omega) _
  clear hQ hk1
  go_wp2
  show bodyPost _ _ _ _ _ (S5 w7 (w.heap.size + 1) (.slice pp l.length cc) (B : Int) x0 x2 x4)
  generalize S5 w7 (w.heap.size + 1) (.slice pp l.length cc) (B : Int) x0 x2 x4 = W at HQ HBz ⊢
  have hq := HQ.out
  have q0 : W.cell? ⟨w.heap.size + 1, 0, none⟩ = some (.slice pp l.length cc) := (cell_block hq 0).trans rfl
  have q1 : W.cell? ⟨w.heap.size + 1, 1, none⟩ = some (.int .i64 (B : Int)) := (cell_block hq 1).trans rfl
  have q2 : W.cell? ⟨w.heap.size + 1, 2, none⟩ = some (.int .i64 x0) := (cell_block hq 2).trans rfl
  have q3 : W.cell? ⟨w.heap.size + 1, 3, none⟩ = some (.int .i64 x2) := (cell_block hq 3).trans rfl
  have q4 : W.cell? ⟨w.heap.size + 1, 4, none⟩ = some (.int .i64 x4) := (cell_block hq 4).trans rfl
  refine bodyPost_ret (v := .agg #[.slice pp l.length cc, .int .i64 (B : Int), .int .i64 x0, .int .i64 x2, .int .i64 x4]) (by simp [results, Tryz.results250, go_sem, q0, q1, q2, q3, q4]) rfl ⟨rfl, HBz.out⟩
end Go.Proofs.YtjjfihoplkddfaaGreatDoor.Reg

namespace Go.Proofs.YtjjfihoplkddfaaGreatDoor.Reg
open Go.RowKit
open Cls (szC blC pdC)
open Sla (pl aT Sl bl_in bl_apart)
open Mem (rd)
set_option linter.unusedVariables false

/-- The runs of a slab. -/
theorem blC_some {c : Int} (h : 1 ≤ c) (h9 : c ≤ 9) : 1 ≤ blC c := by
  have hz : ¬ szC c = 0 := fun e => by have := Cls.szC_zero.1 e; omega
  have := Cls.blC_pos hz
  omega
set_option maxRecDepth 100000 in
theorem runs_ok (u : Value) (l : List Int) (A : Nat) (cl lv fr : Int) (P : List RZ) (w : World) (ht : Cls.Tab w) (hr : Row .u8 w u l) (hA : A + 1024 ≤ l.length) (hA16 : A % 16 = 0) (hl : l.length ≤ 1000000) (hc0 : 0 ≤ cl)
    (hP : slR l A cl lv fr = some P) : Calls Tryz.prog 251 #[sV u (A : Int) cl lv fr] w (ROk w P) := by
  obtain ⟨p, c, rfl, h2, h3, h4, h5⟩ := id hr
  obtain ⟨hc, hlt, hb⟩ := box_slab w (u := .slice p l.length c) rfl (A : Int) cl lv fr
  obtain ⟨c0, c1, c2, c3, c4⟩ := hc _ (Below.refl _ _)
  unfold slR at hP
  by_cases h9 : 9 < cl
  · rw [if_pos h9] at hP; cases hP
  rw [if_neg h9] at hP
  by_cases h0 : cl = 0
  · rw [if_pos h0] at hP
    split at hP
    · rename_i hh
      obtain ⟨rfl, rfl, hz⟩ := hh
      injection hP with hP
      subst h0
      have hW := whole_ok (.slice p l.length c) l A (w.alloc (sB (.slice p l.length c) (A : Int) 0 0 0)) (hr.mono hb (Nat.le_refl _)) hA hl hz
      rw [hP] at hW
      have HW := Lib.hid hW
      unfold sV at HW ⊢
      unfold sB at HW c0 c1 c2 c3 c4 hb
      clear hW hP hc h4 h5 hr hz
      go_enter Tryz.func251, Tryz.ntmps251
      go_wp2_with fail
      refine HW.out.mono ?_
      rintro e w1 ⟨u1, rfl, hb1, hz1⟩
      have HB := Lib.hid (hb.trans (hb1.mono hb.size))
      have HZ := Lib.hid hz1
      clear hb1 hz1
      go_wp2
      go_ret2
      exact ⟨_, rfl, HB.out, HZ.out⟩
    · cases hP
  · rw [if_neg h0] at hP
    cases hf : flw l A cl (blC cl + 1) fr [] with
    | none => rw [hf] at hP; cases hP
    | some F =>
      rw [hf] at hP
      simp only at hP
      split at hP
      · cases hP
      · rename_i hh
        injection hP with hP
        have hF : F.length ≠ blC cl := fun q => hh (.inl q)
        have hlv : lv = ((blC cl - F.length : Nat) : Int) := Classical.byContradiction fun q => hh (.inr q)
        have hD := divided_ok (.slice p l.length c) l A cl lv fr F (w.alloc (sB (.slice p l.length c) (A : Int) cl lv fr)) (tab_keep hb ht) (hr.mono hb (Nat.le_refl _)) hA hA16 hl hf hF hlv (blC_some (by omega) (by omega))
        rw [hP] at hD
        have HW := Lib.hid hD
        have h0' : (cl == 0) = false := by simp [h0]
        unfold sV at HW ⊢
        unfold sB at HW c0 c1 c2 c3 c4 hb
        clear hD hP hc h4 h5 hr hf hF hlv hh h0
        go_enter Tryz.func251, Tryz.ntmps251
        go_wp2_with fail
        refine HW.out.mono ?_
        rintro e w1 ⟨u1, rfl, hb1, hz1⟩
        have HB := Lib.hid (hb.trans (hb1.mono hb.size))
        have HZ := Lib.hid hz1
        clear hb1 hz1
        go_wp2
        go_ret2
        exact ⟨_, rfl, HB.out, HZ.out⟩
end Go.Proofs.YtjjfihoplkddfaaGreatDoor.Reg

namespace Go.Proofs.YtjjfihoplkddfaaGreatDoor.Lay
open Go.RowKit
set_option linter.unusedVariables false

set_option maxRecDepth 100000 in
set_option maxHeartbeats 2000000 in
theorem runs_row (s n : Int) (w : World) (ht : Cls.Tab w) (s1 : -9223372036854775808 ≤ s) (s2 : s ≤ 9223372036854775807) (n1 : -9223372036854775808 ≤ n) (n2 : n ≤ 9223372036854775807) :
    Calls Tryz.prog 150 #[.agg #[.int .i64 s, .int .i64 n]] w fun e w' => ∃ u, e = .returned u ∧ Below w.heap.size w w' ∧ w'.ownsRow w.heap.size 60 3 u (Lay.runsC s n).length (valsA Lay.encR (Lay.runsC s n)) := by
  obtain ⟨i0, hi, hz0, hz1, hz2⟩ := info_parts infoRun
  obtain ⟨P, hP, hl, HP⟩ := parts_on s n w ht s1 s2 n1 n2
  rw [← keepT_all s n, ← hP]
  obtain ⟨c1, c2, hlt1, hb⟩ := one_box (Below.refl (W1 w s n).heap.size (W1 w s n))
  unfold W1 at c1 c2 hlt1 hb
  have HI := Lib.hid (fun (k : Nat) (hk : k < 6) x1 x2 x3 he u => index_part P hl (k : Int) k rfl hk x1 x2 x3 he u)
  clear ht s1 s2 n1 n2 hP
  go_enter Tryz.func150, Tryz.ntmps150
  go_wp2_with (go_at_call 153; refine (HP.out _ hb).mono ?_; rintro e w1 ⟨rfl, hw1⟩)
  go_loopw [3, 8] (fun v i wr => ∃ (k : Nat) (K : List (Nat × Nat × Nat)), k ≤ 6 ∧ i = .int .i64 k ∧ Hid (K = keepT P k) ∧ Hid (wr.ownsRow w.heap.size 60 3 v K.length (valsA encR K)) ∧ Hid (Below w.heap.size w wr)) (fun _ i _ => 6 - (intOf i).toNat)
  case atStart => exact ⟨0, [], Nat.zero_le _, rfl, (keepT_zero P).symm, ⟨rfl, .inl ⟨rfl, rfl⟩⟩, hw1⟩
  case round =>
    obtain ⟨k, K, hk, rfl, HK, HO, HB⟩ := hrel
    by_cases hlt : k < 6
    · have hlt1 : (k : Int) < 6 := by omega
      have hsu := keepT_succ P k (by omega)
      have hkl := keepT_length P k
      obtain ⟨x, hx⟩ : ∃ x, x = P.getD k (0, 0, 0) := ⟨_, rfl⟩
      rw [← hx, ← HK.out] at hsu
      rw [← HK.out] at hkl
      obtain ⟨x1, x2, x3⟩ := x
      have hix := HI.out k hlt x1 x2 x3 hx.symm
      by_cases hp : 0 < x2
      · have hp1 : (0 : Int) < (x2 : Int) := by omega
        rw [if_pos hp] at hsu
        have HSU := Lib.hid hsu
        clear hsu hx
        go_wp2_with (at_builtin; refine wpList_append_own _ rfl (.tmp 14) (.tmp 16) 53 rfl w.heap.size 60 i0 (.agg #[.int .i64 0, .int .i64 0, .int .i64 0]) 3 24 Tryz.underlying53 hi hz0 hz1 hz2 rfl (by decide) _ _ _ rfl ((HO.out.alloc _).alloc _) ⟨wr.heap.size + 1, 0, none⟩ 1 1 [.int .i64 (x1 : Int), .int .i64 (x2 : Int), .int .i64 (x3 : Int)] rfl rfl (news_three_at _ _ (size_alloc _ _).symm _ _ _ _) (oneCell_three _ _ _) (by unfold maxLen; omega) (by omega) (by have := HB.out.size; simp; omega) ?_)
        intro v3 w3 hown3 hgrow3 _
        have HB3 := Lib.hid (((HB.out.alloc HB.out.size (.cells #[.int .i64 (x1 : Int), .int .i64 (x2 : Int), .int .i64 (x3 : Int)] 60)).alloc (le_alloc _ HB.out.size) (.cells #[.int .i64 (x1 : Int), .int .i64 (x2 : Int), .int .i64 (x3 : Int)] 60)).grown hgrow3 (by have := HB.out.size; simp; omega) (fun r hr => (HO.out.lt r hr).1))
        have HO3 : Hid (w3.ownsRow w.heap.size 60 3 v3 (K ++ [(x1, x2, x3)]).length (valsA encR (K ++ [(x1, x2, x3)]))) := by
          unfold Hid
          rw [valsA_snoc, List.length_append]
          exact hown3
        have HSU2 := Lib.hid HSU.out.symm
        clear hown3 hgrow3 HSU HO HB
        go_wp2
        go_roundw
        case rel => exact ⟨k + 1, K ++ [(x1, x2, x3)], by omega, by go_num, HSU2, HO3, HB3⟩
        case measure => simp [intOf]; omega
      · have hp1 : ¬ (0 : Int) < (x2 : Int) := by omega
        rw [if_neg hp] at hsu
        have HSU := Lib.hid hsu.symm
        have HO1 := Lib.hid (HO.out.alloc (.cells #[.int .i64 (x1 : Int), .int .i64 (x2 : Int), .int .i64 (x3 : Int)] 60))
        have HB1 := Lib.hid (HB.out.alloc HB.out.size (.cells #[.int .i64 (x1 : Int), .int .i64 (x2 : Int), .int .i64 (x3 : Int)] 60))
        clear hsu hx
        go_wp2
        go_roundw
        case rel => exact ⟨k + 1, K, by omega, by go_num, HSU, HO1, HB1⟩
        case measure => simp [intOf]; omega
    · obtain rfl : k = 6 := by omega
      go_wp2
      go_ret
      have := HK.out
      subst this
      exact ⟨_, rfl, HB.out, HO.out⟩
end Go.Proofs.YtjjfihoplkddfaaGreatDoor.Lay
namespace Go.Proofs.YtjjfihoplkddfaaGreatDoor.Reg
open Go.RowKit
open Cls (szC blC pdC)
open Sla (pl aT Sl bl_in bl_apart)
open Mem (rd)
set_option linter.unusedVariables false

def cstR (r : Nat × Nat × Nat) : RZ := ((r.1 : Int), (r.2.1 : Int), (r.2.2 : Int))
theorem vals_cst (P : List (Nat × Nat × Nat)) : valsA Lay.encR P = valsA encZ (P.map cstR) := by
  induction P with
  | nil => rfl
  | cons x P ih =>
    have e1 : valsA Lay.encR (x :: P) = Lay.encR x ++ valsA Lay.encR P := by simp [valsA]
    have e2 : valsA encZ ((x :: P).map cstR) = encZ (cstR x) ++ valsA encZ (P.map cstR) := by simp [valsA]
    rw [e1, e2, ih]
    rfl
/-- All but the last. -/
theorem own_cut {w : World} {base n g cap : Nat} {t : TypeId} {P : List RZ} {r : RZ} (h : w.ownsRow base t 3 (.slice (some ⟨g, 0, none⟩) n cap) n (valsA encZ (P ++ [r]))) (hn : n = P.length + 1) :
    w.ownsRow base t 3 (.slice (some ⟨g, 0, none⟩) P.length cap) P.length (valsA encZ P) := by
  obtain ⟨h1, h2⟩ := h
  have hl := valsA_length (k := 3) (enc := encZ) encZ_length P
  rcases h2 with ⟨e, h0⟩ | ⟨g', cap', cur, e, hg, hh, hle, hm, hsz, htk⟩
  · cases e
  · injection e with e1 e2 e3
    injection e1 with e1
    injection e1 with e1
    subst e1 e3
    refine ⟨hl, .inr ⟨g, cap, cur, rfl, hg, hh, by omega, hm, hsz, ?_⟩⟩
    rw [valsA_snoc] at htk
    have h3 := congrArg (List.take (P.length * 3)) htk
    rw [List.take_take, Nat.min_eq_left (by omega), ← hl, List.take_left] at h3
    rw [← hl]
    exact h3
theorem slR_ne {l : List Int} {A : Nat} {cl lv fr : Int} {P : List RZ} (hc0 : 0 ≤ cl) (h : slR l A cl lv fr = some P) : P ≠ [] := by
  unfold slR at h
  split at h
  · cases h
  · split at h
    · split at h
      · injection h with h; rw [← h]; simp
      · cases h
    · split at h
      · cases h
      · split at h
        · cases h
        · injection h with h
          rw [← h]
          have := blC_some (c := cl) (by omega) (by omega)
          intro q
          have q2 := congrArg List.length q
          unfold dvR at q2
          rw [List.length_append, List.length_map, List.length_range] at q2
          simp at q2
          omega
theorem zrow_news {w : World} {b o n c : Nat} {P : List RZ} (h : ZRow w (.slice (some ⟨b, o, none⟩) n c) P) : ∀ j v, (valsA encZ P)[j]? = some v → w.cell? ((⟨b, o, none⟩ : Addr).add j) = some v := by
  intro j v hj
  obtain ⟨hlt, -⟩ := List.getElem?_eq_some_iff.1 hj
  rw [valsA_length (k := 3) encZ_length] at hlt
  have e := valsA_get (k := 3) encZ_length rz0 P (j / 3) (by omega) (j % 3) (by omega)
  rw [show j / 3 * 3 + j % 3 = j by omega, hj] at e
  obtain ⟨a, cap, e1, h2, h3, h5⟩ := h
  obtain ⟨b', o', rfl, hl, hc⟩ := h5 (by rintro rfl; simp at hlt)
  injection e1 with e1
  injection e1 with e1
  injection e1 with e1 e2
  subst e1 e2
  have := hc (j / 3) (by omega) (j % 3) v e.symm
  rw [Addr_add]
  rw [show b = b from rfl]
  have h6 : o + j / 3 * 3 + j % 3 = o + j := by omega
  rw [h6] at this
  exact this
theorem zrow_one (P : List RZ) : ∀ u ∈ valsA encZ P, u.oneCell' = true := by
  intro u hu
  unfold valsA at hu
  obtain ⟨r, -, hr⟩ := List.mem_flatMap.1 hu
  exact Lay.oneCell_three r.1 r.2.1 r.2.2 u hr
theorem headR_len (S N : Nat) : (headR S N).length ≤ 5 := by
  unfold headR Lay.runsT
  rw [List.length_map, List.length_dropLast, List.length_append, List.length_append]
  split <;> simp
set_option maxRecDepth 100000 in
set_option maxHeartbeats 4000000 in
theorem survey_ok (u : Value) (l : List Int) (S N : Nat) (P : List RZ) (w : World) (ht : Cls.Tab w) (hr : Row .u8 w u l) (hR : Lay.rightC (S : Int) (N : Int) = true) (hl : l.length = Lay.sizeT S N) (hP : mapS S N l S = some P) :
    Calls Tryz.prog 198 #[.agg #[.int .i64 (S : Int), .int .i64 (N : Int)], u] w (ROk w (headR S N ++ P)) := by
  obtain ⟨i0, hi, hz0, hz1, hz2⟩ := info_parts Lay.infoRun
  obtain ⟨q1, q2, q3, q4, q5⟩ := Lay.right_out hR
  have hC : (Lis.newCf S N).Ok := Lis.newCf_ok hR
  obtain ⟨b1, b2, b3, b4⟩ := Sla.ok_base hC
  change 128 + 16 * S ≤ Lay.baseT S N at b1
  change Lay.baseT S N % 16 = 0 at b2
  change Lay.sizeT S N = Lay.baseT S N + 1024 * S at b3
  change Lay.sizeT S N ≤ 100000 at b4
  obtain ⟨w1, hw1⟩ : ∃ w1, w1 = w.alloc (.cells #[.int .i64 (S : Int), .int .i64 (N : Int)] 25) := ⟨_, rfl⟩
  have hb1 : Below w.heap.size w w1 := by rw [hw1]; exact below_made _ _
  have hbx : w1.heap[w.heap.size]? = some (.cells #[.int .i64 (S : Int), .int .i64 (N : Int)] 25 (0, 0)) := by rw [hw1]; exact heap_alloc_new _ _
  have hlt1 : w.heap.size < w1.heap.size := (Array.getElem?_eq_some_iff.1 hbx).1
  have HBox : Hid (∀ W, Below w1.heap.size w1 W → W.cell? ⟨w.heap.size, 0, none⟩ = some (.int .i64 (S : Int)) ∧ W.cell? ⟨w.heap.size, 1, none⟩ = some (.int .i64 (N : Int))) := fun W hW => by
    have := (hW.block _ hlt1).trans hbx
    exact ⟨(cell_block this 0).trans rfl, (cell_block this 1).trans rfl⟩
  have hru := Lay.runs_row (S : Int) (N : Int) w1 (tab_keep hb1 ht) (by omega) (by omega) (by omega) (by omega)
  have hrc : Lay.runsC (S : Int) (N : Int) = Lay.runsT S N := by rw [Lay.runsC, if_pos hR]; rfl
  obtain ⟨X, r, hX⟩ : ∃ X r, Lay.runsT S N = X ++ [r] := ⟨_, _, rfl⟩
  have hH : headR S N = X.map cstR := by unfold headR; rw [hX, List.dropLast_concat]; rfl
  rw [hrc, vals_cst, hX, List.map_append, List.length_append, List.length_singleton, ← hH] at hru
  have hXl : X.length = (headR S N).length := by rw [hH, List.length_map]
  rw [hXl] at hru
  have hhl := headR_len S N
  have HRu := Lib.hid hru
  have HRd := Lib.hid (fun (j : Nat) (W : World) (hW : Below w.heap.size w W) (hj : j < S) => read_ok u l S N j W (tab_keep hW ht) (hr.mono hW (Nat.le_refl _)) hR hl hj)
  have HRn := Lib.hid (fun (j : Nat) (Q : List RZ) (W : World) (hW : Below w.heap.size w W) (hj : j < S) (hQ : slJ S N l j = some Q) =>
    runs_ok u l (aT S N j) (rd l (128 + 16 * j) 2) (rd l (128 + 16 * j + 2) 2) (rd l (128 + 16 * j + 4) 4) Q W (tab_keep hW ht) (hr.mono hW (Nat.le_refl _)) (by unfold aT; omega) (by unfold aT; omega) (by omega) (rd_bd4 hr _ (.inl rfl)).1 hQ)
  have HLe : Hid (∀ j, j < S → ∃ P' Q, mapS S N l j = some P' ∧ slJ S N l j = some Q ∧ mapS S N l (j + 1) = some (P' ++ Q) ∧ Q.length ≤ 34 ∧ Q ≠ [] ∧ P'.length ≤ 34 * j) := fun j hj => by
    obtain ⟨T, hT⟩ := mapS_less hP (j + 1) (by omega)
    obtain ⟨P', Q, h1, h2, rfl⟩ := mapS_some hT
    exact ⟨P', Q, h1, h2, hT, slR_len h2, slR_ne (rd_bd4 hr _ (.inl rfl)).1 h2, mapS_len h1⟩
  have HP := Lib.hid hP
  have HB1 := Lib.hid hb1
  obtain ⟨c0, c1⟩ := HBox.out w1 (Below.refl _ _)
  generalize headR S N = H at HRu hhl ⊢
  obtain ⟨pp, cc, rfl, -⟩ := id hr
  have hS64 : S ≤ 64 := by omega
  unfold sV at HRd HRn
  generalize cstR r = rr at HRu
  clear hru hrc hX hH hXl hP hb1 hbx ht hr hR hl hC b1 b2 b3 b4 q1 q2 q3 q4 q5
  go_enter Tryz.func198, Tryz.ntmps198
  have HW1 := Lib.hid hw1
  clear hw1
  go_wp2_with fail
  rw [← HW1.out]
  refine HRu.out.mono ?_
  rintro e w2 ⟨v2, rfl, hb2, ho2⟩
  obtain ⟨g, cap, rfl, hcap⟩ := own_some ho2
  obtain ⟨hn, hhn⟩ : ∃ hn, hn = H.length := ⟨_, rfl⟩
  have ho3 := own_cut ho2 rfl
  have hw3 : IntKind.i64.wrap (((H.length + 1 : Nat) : Int) - 1) = (H.length : Int) := (wrap_id (by omega) (by omega)).trans (by omega)
  have hw4 : wrap64 (((H.length + 1 : Nat) : Int) - 1) = (H.length : Int) := (IntWalk.wrap64_in _ (by omega)).trans (by omega)
  have hcp1 : (H.length : Int) ≤ (cap : Int) := by omega
  have hcp0 : (0 : Int) ≤ (H.length : Int) := by omega
  have HO3 := Lib.hid ho3
  have HB2 := Lib.hid hb2
  clear ho2 ho3 hb2 c0 c1 hhn
  obtain ⟨c0, c1⟩ := HBox.out w2 HB2.out
  go_wp2_with fail
  go_loopw [7, 20] (fun v i wr => ∃ (j : Nat) (Q : List RZ), j ≤ S ∧ i = .int .i64 j ∧ Q.length ≤ 34 * j ∧ Hid (mapS S N l j = some Q) ∧ Hid (wr.ownsRow w1.heap.size 60 3 v (H ++ Q).length (valsA encZ (H ++ Q))) ∧ Hid (Below w1.heap.size w1 wr)) (fun _ i _ => S - (intOf i).toNat)
  case atStart => exact ⟨0, [], Nat.zero_le _, rfl, Nat.le_refl _, rfl, by simpa [Hid] using HO3.out, HB2.out⟩
  case round =>
    clear HO3 HB2 c0 c1 hw3 hw4 hcp1 hcp0
    obtain ⟨j, Q, hj, rfl, hQl, HQ, HO, HB⟩ := hrel
    obtain ⟨c0, c1⟩ := HBox.out wr HB.out
    by_cases hlt : j < S
    · have hlt2 : (j : Int) < (S : Int) := by omega
      have hjw : IntKind.i64.wrap ((j : Int) + 1) = ((j + 1 : Nat) : Int) := (wrap_id (by omega) (by omega)).trans (by omega)
      obtain ⟨P', T, hm1, hm2, hm3, hm4, hm5, hm6⟩ := HLe.out j hlt
      rw [HQ.out] at hm1
      injection hm1 with hm1
      subst hm1
      have HM3 := Lib.hid hm3
      have HRn2 := Lib.hid (fun (W : World) (hW : Below w.heap.size w W) => HRn.out j T W hW hlt hm2)
      have hbw := HB1.out.trans (HB.out.mono HB1.out.size)
      have hO := HO.out
      clear hm3 hm2 HQ HO
      go_wp2_with fail
      refine (HRd.out j _ hbw hlt).mono ?_
      rintro e w3 ⟨rfl, hb3⟩
      have hbw3 := hbw.trans (hb3.mono hbw.size)
      have hO3 := ownsRow_stays hO hb3
      have HB3 := Lib.hid (HB.out.trans (hb3.mono HB.out.size))
      clear hb3 hO hbw c0 c1
      obtain ⟨c0, c1⟩ := HBox.out w3 HB3.out
      go_wp2_with fail
      refine (HRn2.out _ hbw3).mono ?_
      rintro e w4 ⟨u4, rfl, hb4, hz4⟩
      have hO4 := ownsRow_stays hO3 hb4
      have HB4 := Lib.hid (HB3.out.trans (hb4.mono HB3.out.size))
      obtain ⟨a4, k4, rfl, -, -, hz5⟩ := id hz4
      obtain ⟨b4, o4, rfl, -, -⟩ := hz5 hm5
      have HZ := Lib.hid (zrow_news hz4)
      have hHQ : (H ++ Q).length ≤ 5 + 34 * j := by rw [List.length_append]; omega
      have hsz4 := HB4.out.size
      clear hb4 hO3 hz4 hz5 hbw3 HB3 c0 c1 hm5
      obtain ⟨hq, hhq⟩ : ∃ hq, hq = (H ++ Q).length := ⟨_, rfl⟩
      rw [← hhq] at hO4 hHQ
      have HHq := Lib.hid hhq
      clear hhq
      go_wp2_with (at_builtin; refine wpList_append_own _ rfl (.tmp 34) (.tmp 35) 53 rfl w1.heap.size 60 i0 (.agg #[.int .i64 0, .int .i64 0, .int .i64 0]) 3 24 Tryz.underlying53 hi hz0 hz1 hz2 rfl (by decide) _ _ _ rfl hO4 ⟨b4, o4, none⟩ T.length k4 (valsA encZ T) rfl (valsA_length (k := 3) encZ_length T) HZ.out (zrow_one T) (by unfold maxLen; omega) (by omega) hsz4 ?_)
      intro v5 w5 hown5 hgrow5 _
      have HN : Hid (w5.ownsRow w1.heap.size 60 3 v5 (H ++ (Q ++ T)).length (valsA encZ (H ++ (Q ++ T)))) := by
        unfold Hid
        rw [← List.append_assoc, show valsA encZ (H ++ Q ++ T) = valsA encZ (H ++ Q) ++ valsA encZ T by simp [valsA], List.length_append, ← HHq.out]
        exact hown5
      have HB5 := Lib.hid (HB4.out.grown hgrow5 hsz4 (fun r hr => (own_at hO4 r hr).1))
      have hQT : (Q ++ T).length ≤ 34 * (j + 1) := by rw [List.length_append]; omega
      clear hown5 hgrow5 hO4 HB4 hsz4
      go_wp2
      go_roundw
      case rel => exact ⟨j + 1, Q ++ T, by omega, by go_num, hQT, HM3.out, HN.out, HB5.out⟩
      case measure => simp [intOf]; omega
    · obtain rfl : j = S := by omega
      have hQP := HQ.out
      rw [HP.out] at hQP
      injection hQP with hQP
      subst hQP
      have HZ : Hid (ZRow wr u7 (H ++ P)) := arow_of_owns encZ_length rz0 HO.out rfl
      have hbw := HB1.out.trans (HB.out.mono HB1.out.size)
      go_wp2
      go_ret2
      exact ⟨_, rfl, hbw, HZ.out⟩
end Go.Proofs.YtjjfihoplkddfaaGreatDoor.Reg

namespace Go.Proofs.YtjjfihoplkddfaaGreatDoor.Reg
open Go.RowKit
open Cls (szC blC pdC)
open Mem (Mm MemC Hm rd blkM)
set_option linter.unusedVariables false

theorem as_nil (X : Value) (w : World) : Calls Tryz.prog 199 #[Value.nilIface, X] w fun e w' => e = .returned (.bool false) ∧ w = w' := by
  go_enter Tryz.func199, Tryz.ntmps199
  go_wp2
  go_ret
  exact ⟨rfl, rfl⟩
theorem made_any (h : Hm) (v : Value) (M : Mm) (w : World) (hm : MemC h w v M) : Calls Tryz.prog 197 #[v] w fun e w' => e = .returned (.bool true) ∧ Below w.heap.size w w' := by
  have HC := Lib.hid (Mem.config_any h v M w hm)
  have h7 := Hea.right7 hm.right
  obtain ⟨s, hs⟩ : ∃ s, s = M.s := ⟨_, rfl⟩
  obtain ⟨n, hn⟩ : ∃ n, n = M.n := ⟨_, rfl⟩
  rw [← hs, ← hn] at HC
  rw [← hs] at h7
  have hq : ∀ W, (Op.equalIn 10000 25 (.agg #[.int .i64 s, .int .i64 n]) (.agg #[.int .i64 0, .int .i64 0])).run Tryz.prog W = .ok false W := fun W => by
    rw [show (10000 : Nat) = 9999 + 1 from rfl, run_equalIn_struct W 9999 25 _ _ (by kernel_rfl) (by kernel_rfl)]
    go_simp
    intro e
    omega
  clear hm hs hn h7
  go_enter Tryz.func197, Tryz.ntmps197
  go_wp2_with fail
  refine HC.out.mono ?_
  rintro e w1 ⟨rfl, hb1⟩
  go_wp2
  go_ret
  exact ⟨rfl, hb1⟩
/-- Runs in new memory, and no error. -/
def MOk (w : World) (P : List RZ) (e : Ending) (w' : World) : Prop := ∃ u, e = .returned (.tuple #[u, .int .i64 0]) ∧ Below w.heap.size w w' ∧ ZRow w' u P ∧ ∀ b, u.ownBlock = some b → w.heap.size ≤ b
set_option maxRecDepth 100000 in
set_option maxHeartbeats 4000000 in
theorem map_ok (h : Hm) (v : Value) (M : Mm) (S N : Nat) (P : List RZ) (w : World) (hm : MemC h w v M) (ht : Cls.Tab w) (hs : M.s = (S : Int)) (hn : M.n = (N : Int)) (hP : mapS S N M.l S = some P) :
    Calls Tryz.prog 110 #[v] w (MOk w (joinZ (headR S N ++ P))) := by
  have hR := hm.right
  rw [hs, hn] at hR
  have hlen := hm.len
  rw [hs, hn] at hlen
  have hsz : Lay.sizeC (S : Int) (N : Int) = Lay.sizeT S N := by rw [Lay.sizeC, if_pos hR]; rfl
  rw [hsz] at hlen
  have HMd := Lib.hid (made_any h v M w hm)
  have hcf := fun (W : World) (hW : Below w.heap.size w W) => Mem.config_any h v M W (hm.below hW)
  rw [hs, hn] at hcf
  have HCf := Lib.hid hcf
  clear hcf
  have HIm := Lib.hid (fun (W : World) (hW : Below w.heap.size w W) => Mem.image_any h v M W (hm.below hW))
  have HSv := Lib.hid (fun (u : Value) (W : World) (hW : Below w.heap.size w W) (hr : Row .u8 W u M.l) => survey_ok u M.l S N P W (tab_keep hW ht) hr hR hlen hP)
  have hpl := mapS_len hP
  have hhl := headR_len S N
  have h64 := Mem.right_64 hR
  have hS := Lay.right_out hR
  have hJl : (headR S N ++ P).length ≤ 1000000 := by rw [List.length_append]; omega
  have HJ := Lib.hid (fun (u : Value) (W : World) (hz : ZRow W u (headR S N ++ P)) => joined_any u (headR S N ++ P) W hz hJl)
  clear hJl
  have HAs := Lib.hid as_nil
  generalize headR S N ++ P = R at HSv HJ ⊢
  obtain ⟨g, rfl⟩ : ∃ g, v = .pointer (some ⟨g, 0, none⟩) := ⟨_, hm.hv⟩
  clear hm hP hlen hsz hpl hhl h64 hS hR hs hn ht
  go_enter Tryz.func110, Tryz.ntmps110
  go_wp2_with fail
  refine HMd.out.mono ?_
  rintro e w1 ⟨rfl, hb1⟩
  have HB1 := Lib.hid hb1
  clear hb1
  go_wp2_with fail
  refine (HCf.out _ HB1.out).mono ?_
  rintro e w2 ⟨rfl, hb2⟩
  have HB2 := Lib.hid (HB1.out.trans (hb2.mono HB1.out.size))
  clear hb2
  go_wp2_with fail
  refine (HIm.out _ HB2.out).mono ?_
  rintro e w3 ⟨u3, rfl, hb3, hr3⟩
  have HB3 := Lib.hid (HB2.out.trans (hb3.mono HB2.out.size))
  have HR3 := Lib.hid hr3.1
  clear hb3 hr3
  obtain ⟨a3, k3, rfl, -⟩ := HR3.out
  go_wp2_with fail
  refine (HSv.out _ _ HB3.out HR3.out).mono ?_
  rintro e w4 ⟨u4, rfl, hb4, hz4⟩
  have HB4 := Lib.hid (HB3.out.trans (hb4.mono HB3.out.size))
  have hal := below_made w4 (.cells #[.string { data := #[] }] 210)
  have HZ4 := Lib.hid hz4
  clear hb4
  obtain ⟨a4, k4, rfl, -⟩ := hz4
  go_wp2_with fail
  refine (HAs.out _ _).mono ?_
  rintro e w5 ⟨rfl, rfl⟩
  go_wp2_with fail
  refine (HJ.out _ _ (HZ4.out.mono hal (Nat.le_refl _))).mono ?_
  rintro e w6 ⟨u6, rfl, hb6, ho6⟩
  have HB6 : Hid (Below w.heap.size w w6) := (HB4.out.trans (hal.mono HB4.out.size)).trans (hb6.mono (Nat.le_trans HB4.out.size hal.size))
  have HZ6 : Hid (ZRow w6 u6 _) := arow_of_owns encZ_length rz0 ho6 rfl
  have HN6 : Hid (∀ b, u6.ownBlock = some b → w.heap.size ≤ b) := fun b hb => Nat.le_trans (Nat.le_trans HB4.out.size hal.size) (ho6.lt b hb).1
  clear hb6 ho6 hal
  go_wp2
  go_ret2
  exact ⟨_, rfl, HB6.out, HZ6.out, HN6.out⟩
end Go.Proofs.YtjjfihoplkddfaaGreatDoor.Reg

namespace Go.Proofs.YtjjfihoplkddfaaGreatDoor.Reg
open Go.RowKit
open Cls (szC blC pdC)
open Sla (pl aT lk Sl Lks FB SlabOk bl_in bl_apart)
open Mem (rd)
open Wat (Rn rl rl_good rl_block)
set_option linter.unusedVariables false

theorem good_nil {x : List Int} {p : Nat} (h : Wat.Good x p []) : p = 0 := by
  generalize hL : ([] : List Rn) = L at h
  cases h with
  | nil => rfl
  | snoc a b c d => simp at hL
theorem good_rl {x : List Int} {p : Nat} {L : List Rn} (h : Wat.Good x p L) : L = rl x p := by
  induction h with
  | nil => rfl
  | snoc h1 h2 h3 h4 ih =>
    rename_i p n L k
    obtain ⟨m, rfl⟩ : ∃ m, n = m + 1 := ⟨n - 1, by omega⟩
    have e0 : x.getD p 0 = k := by have := h3 0 (by omega); rwa [Nat.add_zero] at this
    have hp : p = 0 ∨ x.getD (p - 1) 0 ≠ x.getD p 0 := by
      rcases List.eq_nil_or_concat L with rfl | ⟨M, q, rfl⟩
      · exact .inl (good_nil h1)
      · right
        rw [List.concat_eq_append] at h1 h4
        obtain ⟨g1, g2, g3⟩ := h1.last (r := q) (by simp)
        have g4 := h4 q (by simp)
        have g5 := g3 (q.2.1 - 1) (by omega)
        rw [show q.1 + (q.2.1 - 1) = p - 1 by omega] at g5
        rw [g5, e0]
        exact g4
    have hb := rl_block x p m hp (fun j hj => by rw [h3 j (by omega), e0])
    rw [← ih, e0] at hb
    exact hb.symm
theorem good_inv {x : List Int} {p : Nat} {M : List Rn} {q : Rn} (h : Wat.Good x p (M ++ [q])) : Wat.Good x q.1 M ∧ 1 ≤ q.2.1 ∧ (∀ j, j < q.2.1 → x.getD (q.1 + j) 0 = q.2.2) ∧ (∀ r, M.getLast? = some r → r.2.2 ≠ q.2.2) ∧ p = q.1 + q.2.1 := by
  generalize hL : M ++ [q] = L at h
  cases h with
  | nil => simp at hL
  | snoc a b c d =>
    rename_i p' n' L' k'
    obtain ⟨h1, h2⟩ := List.append_inj' hL rfl
    injection h2 with h2
    subst h1 h2
    exact ⟨a, b, c, d, rfl⟩
/-- Runs one behind the other, each of one kind. -/
inductive Til (x : List Int) : Nat → List RZ → Prop
  | nil : Til x 0 []
  | snoc {p n : Nat} {P : List RZ} {k : Int} : Til x p P → 1 ≤ n → (∀ j, j < n → x.getD (p + j) 0 = k) → Til x (p + n) (P ++ [((p : Int), (n : Int), k)])
def cstW (r : Rn) : RZ := ((r.1 : Int), (r.2.1 : Int), r.2.2)
theorem joinZ_snoc (P : List RZ) (r : RZ) : joinZ (P ++ [r]) = jnZ (joinZ P) r := by
  unfold joinZ
  rw [List.foldl_append]
  rfl
theorem til_join {x : List Int} {p : Nat} {P : List RZ} (h : Til x p P) (hp : p ≤ 1000000) : ∃ L, joinZ P = L.map cstW ∧ Wat.Good x p L := by
  induction h with
  | nil => exact ⟨[], rfl, .nil⟩
  | snoc h1 h2 h3 ih =>
    rename_i p n P k
    obtain ⟨L, hL, hg⟩ := ih (by omega)
    rw [joinZ_snoc, hL]
    rcases List.eq_nil_or_concat L with rfl | ⟨M, q, rfl⟩
    · exact ⟨[(p, n, k)], rfl, Wat.Good.snoc hg h2 h3 (fun r hr => by simp at hr)⟩
    · rw [List.concat_eq_append] at hg ⊢
      obtain ⟨g1, g2, g3⟩ := hg.last (r := q) (by simp)
      rw [List.map_append, List.map_cons, List.map_nil, jnZ_snoc]
      by_cases hk : k = q.2.2
      · have hc : cnZ (cstW q) ((p : Int), (n : Int), k) = true := by
          rw [cnZ_iff, prZ_iff, prZ_iff]
          simp only [cstW]
          omega
        rw [if_pos hc]
        refine ⟨M ++ [(q.1, q.2.1 + n, q.2.2)], by simp [cstW], ?_⟩
        obtain ⟨a, b, c, d, e⟩ := good_inv hg
        have := Wat.Good.snoc (n := q.2.1 + n) (k := q.2.2) a (by omega) (fun j hj => by
          by_cases hjq : j < q.2.1
          · exact c j hjq
          · rw [← hk, show q.1 + j = p + (j - q.2.1) by omega]
            exact h3 _ (by omega)) d
        rw [show q.1 + (q.2.1 + n) = p + n by omega] at this
        exact this
      · have hc : cnZ (cstW q) ((p : Int), (n : Int), k) = false := by
          rw [Bool.eq_false_iff]
          intro q2
          obtain ⟨-, -, -, q3⟩ := cnZ_iff.1 q2
          exact hk q3
        rw [if_neg (by rw [hc]; decide)]
        refine ⟨M ++ [q] ++ [(p, n, k)], by simp [cstW], Wat.Good.snoc hg h2 h3 (fun r hr => ?_)⟩
        simp at hr
        rw [← hr]
        exact fun e => hk e.symm
end Go.Proofs.YtjjfihoplkddfaaGreatDoor.Reg

namespace Go.Proofs.YtjjfihoplkddfaaGreatDoor.Reg
open Go.RowKit
open Cls (szC blC pdC)
open Sla (pl aT lk Sl Lks FB SlabOk bl_in bl_apart St Sb Co)
open Mem (rd Hm)
open Lis (Cf)
set_option linter.unusedVariables false

theorem flw_free {l : List Int} {A : Nat} {c : Int} (hA : 0 < A) (hl : A + 1024 ≤ l.length) (hl2 : l.length ≤ 1000000) : ∀ (f seen : List Nat) (n : Nat), f.Nodup → (∀ k ∈ f, k < blC c ∧ k ∉ seen) → Lks l A c f → f.length + 1 ≤ n →
    flw l A c n (lk A c f : Int) seen = some (f.reverse ++ seen) := by
  intro f
  induction f with
  | nil =>
    intro seen n _ _ _ hn
    obtain ⟨m, rfl⟩ : ∃ m, n = m + 1 := ⟨n - 1, by simp at hn; omega⟩
    rw [flw, if_pos (by rfl)]
    rfl
  | cons k f ih =>
    intro seen n hnd hk hL hn
    obtain ⟨m, rfl⟩ : ∃ m, n = m + 1 := ⟨n - 1, by simp at hn; omega⟩
    obtain ⟨hk1, hk2⟩ := hk k (by simp)
    obtain ⟨hd1, hd2⟩ := List.nodup_cons.1 hnd
    have hin := bl_in hk1
    have hne : ((lk A c (k :: f) : Nat) : Int) ≠ 0 := by
      show ((pl A c k : Nat) : Int) ≠ 0
      unfold pl
      omega
    have hbf : lk A c f ≤ 1000000 := by
      cases f with
      | nil => show 0 ≤ 1000000; omega
      | cons i r =>
        have := bl_in (hk i (by simp)).1
        show pl A c i ≤ 1000000
        unfold pl
        omega
    have hrd : rd l (pl A c k + 4) 4 = (lk A c f : Int) := Sla.fb_rd hL.1 (by omega) (by unfold pl; omega) (by omega) (by omega)
    rw [flw, if_neg hne]
    show (match ixP A c ((pl A c k : Nat) : Int) with | none => none | some k => _) = _
    rw [ixP_at hk1]
    simp only
    rw [if_neg hk2, hrd, ih (k :: seen) m hd2 (fun i hi => ⟨(hk i (by simp [hi])).1, fun q => by
      rcases List.mem_cons.1 q with rfl | q
      · exact hd1 hi
      · exact (hk i (by simp [hi])).2 q⟩) hL.2 (by simp at hn; omega)]
    simp
/-- The runs of a slab. -/
def slT (A : Nat) (s : Sl) : List RZ := if s.c = 0 then [((A : Int), 1024, 7)] else dvR A s.c s.f.reverse
theorem slR_ok {l x : List Int} {A : Nat} {s : Sl} (d : SlabOk l x A s) (hA : 0 < A) (hl : A + 1024 ≤ l.length) (hl2 : l.length ≤ 1000000) (hv : s.c ≠ 0 → s.v ≠ []) :
    slR l A (s.c : Int) (s.v.length : Int) (lk A s.c s.f : Int) = some (slT A s) := by
  have hc9 := d.ok.c
  unfold slR slT
  rw [if_neg (by omega)]
  by_cases h0 : s.c = 0
  · have hb : blC (s.c : Int) = 0 := by rw [h0]; decide
    have hf : s.f = [] := by
      rcases List.eq_nil_or_concat s.f with q | ⟨M, k, q⟩
      · exact q
      · have := d.ok.lt k (by rw [q]; simp)
        omega
    have hv0 : s.v = [] := Sla.zero_v h0
    rw [if_pos (by rw [h0]; rfl), if_pos h0, hv0, hf, if_pos]
    refine ⟨rfl, rfl, zer_iff.2 fun i hi => ?_⟩
    exact (d.p (A + i) (by rw [hb]; omega) (by omega)).2
  · rw [if_neg (by omega), if_neg h0]
    have hfl := flw_free hA hl hl2 s.f [] (blC (s.c : Int) + 1) d.ok.nd (fun k hk => ⟨d.ok.lt k hk, by simp⟩) d.f (by have := d.ok.len; omega)
    rw [List.append_nil] at hfl
    rw [hfl]
    simp only
    have hln := d.ok.len
    have hvp := List.length_pos_iff.2 (hv h0)
    rw [if_neg]
    rw [List.length_reverse]
    omega
theorem til_blocks {x : List Int} {A : Nat} {c : Int} {F : List Nat} {P : List RZ} (hT : Til x A P) (hx : ∀ k, k < blC c → ∀ i, i < szC c → x.getD (pl A c k + i) 0 = if k ∈ F then 6 else 5) :
    ∀ k, k ≤ blC c → Til x (A + k * szC c) (P ++ blkL A c F k) := by
  intro k
  induction k with
  | zero => intro _; rw [Nat.zero_mul, Nat.add_zero, show blkL A c F 0 = [] from rfl, List.append_nil]; exact hT
  | succ k ih =>
    intro hk
    have hin := bl_in (show k < blC c by omega)
    have h1 := ih (by omega)
    rw [blkL_succ, ← List.append_assoc, show A + (k + 1) * szC c = (A + k * szC c) + szC c by rw [Nat.add_mul]; omega]
    exact Til.snoc h1 (by omega) (fun j hj => hx k (by omega) j hj)
theorem til_slab {l x : List Int} {A : Nat} {s : Sl} {P : List RZ} (d : SlabOk l x A s) (hT : Til x A P) : Til x (A + 1024) (P ++ slT A s) := by
  unfold slT
  by_cases h0 : s.c = 0
  · rw [if_pos h0]
    have hb : blC (s.c : Int) = 0 := by rw [h0]; decide
    exact Til.snoc (n := 1024) hT (by omega) (fun j hj => by
      have := (d.p (A + j) (by rw [hb]; omega) (by omega)).1
      rw [if_pos h0] at this
      exact this)
  · rw [if_neg h0]
    have hz : ¬ szC (s.c : Int) = 0 := fun e => by have := Cls.szC_zero.1 e; have := d.ok.c; omega
    have hpe := Sla.pd_end (s.c : Int) hz
    have h1 := til_blocks (F := s.f.reverse) hT (fun k hk i hi => by rw [d.k k hk i hi]; simp) (blC (s.c : Int)) (Nat.le_refl _)
    unfold dvR padR
    rw [← List.append_assoc]
    change Til x (A + 1024) (P ++ blkL A (s.c : Int) s.f.reverse (blC (s.c : Int)) ++ _)
    by_cases hp : 0 < pdC (s.c : Int)
    · rw [if_pos hp, show A + 1024 - pdC (s.c : Int) = A + blC (s.c : Int) * szC (s.c : Int) by omega, show A + 1024 = (A + blC (s.c : Int) * szC (s.c : Int)) + pdC (s.c : Int) by omega]
      exact Til.snoc h1 (by omega) (fun j hj => by
        have := (d.p (A + blC (s.c : Int) * szC (s.c : Int) + j) (by omega) (by omega)).1
        rw [if_neg h0] at this
        exact this)
    · rw [if_neg hp, List.append_nil, show A + 1024 = A + blC (s.c : Int) * szC (s.c : Int) by omega]
      exact h1
theorem til_head {x : List Int} {S N : Nat} (hS : 7 ≤ S) (hN : 32 * S ≤ N) (h2 : N % 2 = 0) (hx : ∀ t, t < Lay.baseT S N → x.getD t 0 = Mem.kindT S N t) : Til x (Lay.baseT S N) (headR S N) := by
  have hk : ∀ t, t < Lay.baseT S N → x.getD t 0 = if t < 8 then 1 else if t < 128 then 2 else if t < 128 + 16 * S then 3 else if t < 128 + 16 * S + 4 * N then 4 else 8 := fun t ht => by
    rw [hx t ht]
    unfold Mem.kindT Lay.slT Lay.endT
    by_cases q1 : t < 8
    · rw [if_pos q1, if_pos q1]
    rw [if_neg q1, if_neg q1]
    by_cases q2 : t < 128
    · rw [if_pos q2, if_pos q2]
    rw [if_neg q2, if_neg q2]
    by_cases q3 : t < 128 + 16 * S
    · rw [if_pos q3, if_pos q3]
    rw [if_neg q3, if_neg q3]
    by_cases q4 : t < 128 + 16 * S + 4 * N
    · rw [if_pos q4, if_pos q4]
    rw [if_neg q4, if_neg q4, if_pos ht]
  have he : Lay.endT S N = 128 + 16 * S + 4 * N := rfl
  have hp := Lay.pad_two (s := S) h2
  have hbt : Lay.baseT S N = Lay.endT S N + Lay.padT S N := rfl
  have t0 : Til x 0 [] := .nil
  have t1 := Til.snoc (n := 8) (k := 1) t0 (by omega) (fun j hj => by rw [hk _ (by omega), if_pos (by omega)])
  have t2 := Til.snoc (n := 120) (k := 2) t1 (by omega) (fun j hj => by rw [hk _ (by omega), if_neg (by omega), if_pos (by omega)])
  have t3 := Til.snoc (n := 16 * S) (k := 3) t2 (by omega) (fun j hj => by rw [hk _ (by omega), if_neg (by omega), if_neg (by omega), if_pos (by omega)])
  have t4 := Til.snoc (n := 4 * N) (k := 4) t3 (by omega) (fun j hj => by rw [hk _ (by omega), if_neg (by omega), if_neg (by omega), if_neg (by omega), if_pos (by omega)])
  rcases hp with ⟨-, hp⟩ | ⟨-, hp⟩
  · have e : headR S N = [(((0 : Nat) : Int), ((8 : Nat) : Int), (1 : Int)), (((0 + 8 : Nat) : Int), ((120 : Nat) : Int), 2), (((0 + 8 + 120 : Nat) : Int), ((16 * S : Nat) : Int), 3), (((0 + 8 + 120 + 16 * S : Nat) : Int), ((4 * N : Nat) : Int), 4)] := by
      unfold headR Lay.runsT
      rw [if_pos hp]
      simp [Lay.slT]
    rw [e, show Lay.baseT S N = 0 + 8 + 120 + 16 * S + 4 * N by omega]
    exact t4
  · have t5 := Til.snoc (n := 8) (k := 8) t4 (by omega) (fun j hj => by rw [hk _ (by omega), if_neg (by omega), if_neg (by omega), if_neg (by omega), if_neg (by omega)])
    have e : headR S N = [(((0 : Nat) : Int), ((8 : Nat) : Int), (1 : Int)), (((0 + 8 : Nat) : Int), ((120 : Nat) : Int), 2), (((0 + 8 + 120 : Nat) : Int), ((16 * S : Nat) : Int), 3), (((0 + 8 + 120 + 16 * S : Nat) : Int), ((4 * N : Nat) : Int), 4), (((0 + 8 + 120 + 16 * S + 4 * N : Nat) : Int), ((8 : Nat) : Int), 8)] := by
      unfold headR Lay.runsT
      rw [if_neg (by omega)]
      simp [Lay.slT, Lay.endT]
    rw [e, show Lay.baseT S N = 0 + 8 + 120 + 16 * S + 4 * N + 8 by omega]
    exact t5
/-- All slabs' runs. -/
def allT (S N : Nat) (T : List Sl) : Nat → List RZ
  | 0 => []
  | j + 1 => allT S N T j ++ slT (aT S N j) (T.getD j Sl.zero)
/-- What the map of such a memory is: what its watch says. -/
theorem st_mapx {h : Hm} {S N : Nat} {l0 l : List Int} {T : List Sl} {W : World} (d : St h S N l0 l T W) : ∃ (C : Cf) (H : List Lis.Hx) (L : List Int) (lk : Int), C.s = S ∧ C.n = N ∧ (h.z = false → C.ft = 0) ∧ Sla.SM h C l W ∧ Sla.Sx l0 C l H L T ∧ Co S N H L T ∧ Mem.MemC h W (Sla.pV h) (C.mm l lk) ∧
    mapS S N l S = some (allT S N T S) ∧ Til C.x C.x.length (headR S N ++ allT S N T S) ∧ C.x.length ≤ 100000 := by
  obtain ⟨H, L, ⟨C, rfl, rfl, h3, h4, h5⟩, d2⟩ := d
  obtain ⟨b1, b2, b3, b4⟩ := Sla.ok_base h5.ok
  obtain ⟨q1, q2, q3, q4, q5⟩ := Lay.right_out h5.ok.right
  obtain ⟨ht, lk0, hm⟩ := id h4.m
  have key : ∀ j, j ≤ C.s → mapS C.s C.n l j = some (allT C.s C.n T j) ∧ Til C.x (Lay.baseT C.s C.n + 1024 * j) (headR C.s C.n ++ allT C.s C.n T j) := by
    intro j
    induction j with
    | zero => intro _; exact ⟨rfl, by rw [show allT C.s C.n T 0 = [] from rfl, List.append_nil, Nat.mul_zero, Nat.add_zero]; exact til_head (by omega) (by omega) (by omega) h5.xlow⟩
    | succ j ih =>
      intro hj
      obtain ⟨i1, i2⟩ := ih (by omega)
      have hh := h5.rep.head j (by omega)
      rw [d2.h j (by omega)] at hh
      simp only [] at hh
      have hsl := h5.sl j (by omega)
      have hr : slJ C.s C.n l j = some (slT (aT C.s C.n j) (T.getD j Sl.zero)) := by
        unfold slJ
        rw [Nat.add_zero] at hh
        rw [hh.1, hh.2.1, hh.2.2]
        exact slR_ok hsl (by unfold aT; omega) (by rw [h5.ll]; unfold aT; omega) (by rw [h5.ll]; omega) (d2.v j (by omega))
      refine ⟨?_, ?_⟩
      · rw [mapS, i1]
        simp only
        rw [hr]
        rfl
      · have := til_slab hsl (P := headR C.s C.n ++ allT C.s C.n T j) i2
        rw [List.append_assoc] at this
        rw [show Lay.baseT C.s C.n + 1024 * (j + 1) = aT C.s C.n j + 1024 by unfold aT; omega]
        exact this
  obtain ⟨k1, k2⟩ := key C.s (Nat.le_refl _)
  refine ⟨C, H, L, lk0, rfl, rfl, h3, h4, h5, d2, hm, k1, ?_, ?_⟩
  · show Til C.x C.x.length _
    rw [h5.xl, b3]
    exact k2
  · show C.x.length ≤ 100000
    rw [h5.xl]
    exact b4
theorem st_map {h : Hm} {S N : Nat} {l0 l : List Int} {T : List Sl} {W : World} (d : St h S N l0 l T W) : ∃ M : Mem.Mm, Mem.MemC h W (Sla.pV h) M ∧ Cls.Tab W ∧ M.s = (S : Int) ∧ M.n = (N : Int) ∧ M.l = l ∧ (h.z = false → M.ft = 0) ∧
    mapS S N l S = some (allT S N T S) ∧ Til M.x M.x.length (headR S N ++ allT S N T S) ∧ M.x.length ≤ 100000 := by
  obtain ⟨C, H, L, lk, rfl, rfl, h3, h4, h5, h6, h7, h8, h9, h10⟩ := st_mapx d
  exact ⟨_, h7, h4.m.1.c, rfl, rfl, rfl, h3, h8, h9, h10⟩
end Go.Proofs.YtjjfihoplkddfaaGreatDoor.Reg

namespace Go.Proofs.YtjjfihoplkddfaaGreatDoor.Reg
open Go.RowKit
open Cls (szC blC pdC)
open Sla (pl aT lk Sl St Wd Ts pV)
open Mem (rd Hm blkM)
set_option linter.unusedVariables false

set_option maxRecDepth 100000 in
theorem sameZ_any (v1 v2 : Value) (P : List RZ) (w : World) (h1 : ZRow w v1 P) (h2 : ZRow w v2 P) :
    Calls Tryz.prog 24 #[v1, v2] w fun e w' => e = .returned (.bool true) ∧ ∃ m, w' = w.drewN m := by
  obtain ⟨a1, k1, rfl, q1, q2, g1⟩ := h1
  obtain ⟨a2, k2, rfl, -, -, g2⟩ := h2
  have G1 := Lib.hid g1
  have G2 := Lib.hid g2
  have hPl : (P.length : Int) ≤ 9223372036854775807 := by omega
  clear g1 g2
  go_enter Tryz.func24, Tryz.ntmps24
  go_wp2
  go_loopw [5] (fun i wr => ∃ k : Nat, k ≤ P.length ∧ i = .int .i64 k ∧ Hid (∃ m, wr = w.drewN m)) (fun i _ => P.length - (intOf i).toNat)
  case atStart => exact ⟨0, Nat.zero_le _, rfl, 0, rfl⟩
  case round =>
    obtain ⟨k, hk, rfl, HW⟩ := hrel
    by_cases hlt : k < P.length
    · have hlt1 : (k : Int) < (P.length : Int) := by omega
      have hlt0 : (0 : Int) ≤ (k : Int) := by omega
      have hbel := Lay.below_drawn (Below.refl w.heap.size w) HW.out
      obtain ⟨b1, o1, rfl, hb1, hc1⟩ := G1.out (by rintro rfl; simp at hlt)
      obtain ⟨b2, o2, rfl, hb2, hc2⟩ := G2.out (by rintro rfl; simp at hlt)
      have c1 : wr.cell? ⟨b1, o1 + k * 3, none⟩ = _ := (hbel.cell (p := ⟨b1, o1 + k * 3, none⟩) hb1).trans (hc1 k hlt 0 _ rfl)
      have c2 := (hbel.cell (p := ⟨b1, o1 + k * 3 + 1, none⟩) hb1).trans (hc1 k hlt 1 _ rfl)
      have c3 := (hbel.cell (p := ⟨b1, o1 + k * 3 + 2, none⟩) hb1).trans (hc1 k hlt 2 _ rfl)
      have c4 : wr.cell? ⟨b2, o2 + k * 3, none⟩ = _ := (hbel.cell (p := ⟨b2, o2 + k * 3, none⟩) hb2).trans (hc2 k hlt 0 _ rfl)
      have c5 := (hbel.cell (p := ⟨b2, o2 + k * 3 + 1, none⟩) hb2).trans (hc2 k hlt 1 _ rfl)
      have c6 := (hbel.cell (p := ⟨b2, o2 + k * 3 + 2, none⟩) hb2).trans (hc2 k hlt 2 _ rfl)
      obtain ⟨x, hx⟩ : ∃ x, x = P.getD k rz0 := ⟨_, rfl⟩
      rw [← hx] at c1 c2 c3 c4 c5 c6
      obtain ⟨x1, x2, x3⟩ := x
      simp only [] at c1 c2 c3 c4 c5 c6
      clear hc1 hc2 hx hbel
      go_wp2_with fail
      go_quiet (fail)
      go_wp2
      go_roundw
      case rel => exact ⟨k + 1, by omega, by go_num, Lay.drewN_more HW.out _⟩
      case measure => simp [intOf]; omega
    · obtain rfl : k = P.length := by omega
      go_wp2
      go_ret
      exact ⟨rfl, HW.out⟩

set_option maxRecDepth 100000 in
theorem equalZ_any (v1 v2 : Value) (P : List RZ) (w : World) (h1 : ZRow w v1 P) (h2 : ZRow w v2 P) :
    Calls Tryz.prog 116 #[v1, v2] w fun e w' => e = .returned (.bool true) ∧ ∃ m, w' = w.drewN m := by
  obtain ⟨a1, k1, rfl, q1, q2, g1⟩ := h1
  obtain ⟨a2, k2, rfl, -, -, g2⟩ := h2
  have G1 := Lib.hid g1
  have G2 := Lib.hid g2
  have hPl : (P.length : Int) ≤ 9223372036854775807 := by omega
  clear g1 g2
  go_enter Tryz.func116, Tryz.ntmps116
  go_wp2
  go_loopw [13] (fun i wr => ∃ k : Nat, k ≤ P.length ∧ i = .int .i64 k ∧ Hid (∃ m, wr = w.drewN m)) (fun i _ => P.length - (intOf i).toNat)
  case atStart => exact ⟨0, Nat.zero_le _, rfl, 0, rfl⟩
  case round =>
    obtain ⟨k, hk, rfl, HW⟩ := hrel
    by_cases hlt : k < P.length
    · have hlt1 : (k : Int) < (P.length : Int) := by omega
      have hlt0 : (0 : Int) ≤ (k : Int) := by omega
      have hbel := Lay.below_drawn (Below.refl w.heap.size w) HW.out
      obtain ⟨b1, o1, rfl, hb1, hc1⟩ := G1.out (by rintro rfl; simp at hlt)
      obtain ⟨b2, o2, rfl, hb2, hc2⟩ := G2.out (by rintro rfl; simp at hlt)
      have c1 : wr.cell? ⟨b1, o1 + k * 3, none⟩ = _ := (hbel.cell (p := ⟨b1, o1 + k * 3, none⟩) hb1).trans (hc1 k hlt 0 _ rfl)
      have c2 := (hbel.cell (p := ⟨b1, o1 + k * 3 + 1, none⟩) hb1).trans (hc1 k hlt 1 _ rfl)
      have c3 := (hbel.cell (p := ⟨b1, o1 + k * 3 + 2, none⟩) hb1).trans (hc1 k hlt 2 _ rfl)
      have c4 : wr.cell? ⟨b2, o2 + k * 3, none⟩ = _ := (hbel.cell (p := ⟨b2, o2 + k * 3, none⟩) hb2).trans (hc2 k hlt 0 _ rfl)
      have c5 := (hbel.cell (p := ⟨b2, o2 + k * 3 + 1, none⟩) hb2).trans (hc2 k hlt 1 _ rfl)
      have c6 := (hbel.cell (p := ⟨b2, o2 + k * 3 + 2, none⟩) hb2).trans (hc2 k hlt 2 _ rfl)
      obtain ⟨x, hx⟩ : ∃ x, x = P.getD k rz0 := ⟨_, rfl⟩
      rw [← hx] at c1 c2 c3 c4 c5 c6
      obtain ⟨x1, x2, x3⟩ := x
      simp only [] at c1 c2 c3 c4 c5 c6
      clear hc1 hc2 hx hbel
      go_wp2_with fail
      go_quiet (fail)
      go_wp2
      go_roundw
      case rel => exact ⟨k + 1, by omega, by go_num, Lay.drewN_more HW.out _⟩
      case measure => simp [intOf]; omega
    · obtain rfl : k = P.length := by omega
      go_wp2
      go_ret
      exact ⟨rfl, HW.out⟩

theorem zrow_of_row {w : World} {u : Value} {L : List Wat.Rn} (h : Wat.RowR w u L) : ZRow w u (L.map cstW) := by
  obtain ⟨a, cap, h1, h2, h3, h5⟩ := h
  refine ⟨a, cap, by rw [List.length_map]; exact h1, by rw [List.length_map]; exact h2, h3, fun hne => ?_⟩
  obtain ⟨b, off, e, hlt, hc⟩ := h5 (by rintro rfl; exact hne rfl)
  refine ⟨b, off, e, hlt, fun i hi j x hx => hc i (by rw [List.length_map] at hi; exact hi) j x ?_⟩
  rw [List.length_map] at hi
  have e2 : (L.map cstW).getD i rz0 = cstW (L.getD i (0, 0, 0)) := by simp [List.getD, hi]
  rw [e2] at hx
  exact hx
/-- The runs of such a memory, as its bytes tell them. -/
def stJ (S N : Nat) (T : List Sl) : List RZ := joinZ (headR S N ++ allT S N T S)
section
variable {h : Hm} {S N : Nat} {l0 l : List Int} {T : List Sl} {W : World}
theorem st_map_any (d : St h S N l0 l T W) : Calls Tryz.prog 110 #[pV h] W (MOk W (stJ S N T)) := by
  obtain ⟨M, h1, h2, h3, h4, h5, h6, h7, -, -⟩ := st_map d
  exact map_ok h (pV h) M S N _ W h1 h2 h3 h4 (by rw [h5]; exact h7)
theorem st_runs_any (d : St h S N l0 l T W) : Calls Tryz.prog 25 #[pV h] W fun e W' => ∃ u, e = .returned u ∧ ZRow W' u (stJ S N T) ∧ Below W.heap.size W W' := by
  obtain ⟨M, h1, h2, h3, h4, h5, h6, h7, h8, h9⟩ := st_map d
  obtain ⟨L, hL, hg⟩ := til_join h8 (by omega)
  rw [good_rl hg] at hL
  refine (Mem.runs_any h (pV h) M W h1).mono ?_
  rintro e W' ⟨u, rfl, hr, hb⟩
  refine ⟨u, rfl, ?_, hb⟩
  have := zrow_of_row hr
  rw [← hL] at this
  exact this
theorem agree_any (d : St h S N l0 l T W) : Calls Tryz.prog 38 #[pV h] W fun e W' => e = .returned (.bool true) ∧ Below W.heap.size W W' := by
  have HM := Lib.hid (st_map_any d)
  have HR := Lib.hid (fun W' (hb : Below W.heap.size W W') => st_runs_any (d.below hb))
  have HE := Lib.hid (fun v1 v2 W' h1 h2 => equalZ_any v1 v2 (stJ S N T) W' h1 h2)
  generalize stJ S N T = J at HM HR HE
  unfold pV at *
  clear d
  go_enter Tryz.func38, Tryz.ntmps38
  go_wp2_with fail
  refine HM.out.mono ?_
  rintro e w1 ⟨u1, rfl, hb1, hz1, -⟩
  have HB1 := Lib.hid hb1
  have HZ1 := Lib.hid hz1
  obtain ⟨a1, k1, rfl, -⟩ := hz1
  clear hb1
  go_wp2_with fail
  refine (HR.out _ HB1.out).mono ?_
  rintro e w2 ⟨u2, rfl, hz2, hb2⟩
  have HB2 := Lib.hid (HB1.out.trans (hb2.mono HB1.out.size))
  have HZ2 := Lib.hid hz2
  have HZ3 := Lib.hid (HZ1.out.mono hb2 (Nat.le_refl _))
  obtain ⟨a2, k2, rfl, -⟩ := hz2
  clear hb2 HZ1
  go_wp2_with fail
  refine (HE.out _ _ _ HZ3.out HZ2.out).mono ?_
  rintro e w3 ⟨rfl, hm3⟩
  have HB3 := Lib.hid (Lay.below_drawn HB2.out hm3)
  clear hm3
  go_wp2
  go_ret
  exact ⟨rfl, HB3.out⟩
end
def X9 : List Sl := (Sla.tkF 7 224 Sla.X0 9).2
theorem ex9 : (Sla.tkF 7 224 Sla.X0 9).1 = (1136, 0) := by kernel_rfl
def exJ : List RZ := [(0, 8, 1), (8, 120, 2), (128, 112, 3), (240, 896, 4), (1136, 512, 5), (1648, 512, 6), (2160, 6144, 7)]
theorem exJ9 : stJ 7 224 X9 = exJ := by kernel_rfl
theorem exTil : tilZ 8304 exJ 0 = true := by decide
theorem exAt : atZ 1136 exJ = 5 := by decide
set_option maxRecDepth 100000 in
set_option maxHeartbeats 4000000 in
theorem maps_any (w : World) (ht : Ts w) : Calls Tryz.prog 33 #[] w fun e w' => e = .returned (.bool true) ∧ Below w.heap.size w w' := by
  have HN := Lib.hid (Sla.start_any 7 224 w (by decide) ht)
  have tk := fun h l0 l W (d : St h 7 224 l0 l Sla.X0 W) => d.take 9
  simp only [ex9] at tk
  have H1 : Hid (∀ h n l0 l W, Wd w h n 7 224 l0 l Sla.X0 W → Calls Tryz.prog 12 #[pV h, .int .i64 9] W fun e W' => e = .returned (.tuple #[.int .i64 1136, .int .i64 0]) ∧ ∃ l', Wd w h n 7 224 l0 l' X9 W') := fun h n l0 l W d => by
    refine (tk h l0 l W d.st).mono ?_
    rintro e W' ⟨l', he, hs, hf, -⟩
    exact ⟨he, l', d.fr hs hf⟩
  have HM := Lib.hid (fun h n l0 l W (d : Wd w h n 7 224 l0 l X9 W) => exJ9 ▸ st_map_any d.st)
  have HA := Lib.hid (fun h n l0 l W (d : Wd w h n 7 224 l0 l X9 W) => agree_any d.st)
  have HT := Lib.hid (fun v W (hz : ZRow W v exJ) => exTil ▸ tiles_any v exJ 8304 W hz)
  have HAt := Lib.hid (fun v W (hz : ZRow W v exJ) => exAt ▸ at_any v exJ 1136 W hz)
  have HCe : Hid (∀ W p k, ZRow W (.slice p 7 k) exJ → ∃ b o, p = some ⟨b, o, none⟩ ∧ b < W.heap.size ∧ (∀ W', Below W.heap.size W W' → (W'.cell? ⟨b, o + 12, none⟩ = some (.int .i64 1136) ∧ W'.cell? ⟨b, o + 13, none⟩ = some (.int .i64 512) ∧ W'.cell? ⟨b, o + 14, none⟩ = some (.int .i64 5)) ∧ (W'.cell? ⟨b, o + 15, none⟩ = some (.int .i64 1648) ∧ W'.cell? ⟨b, o + 16, none⟩ = some (.int .i64 512) ∧ W'.cell? ⟨b, o + 17, none⟩ = some (.int .i64 6)) ∧ W'.cell? ⟨b, o + 19, none⟩ = some (.int .i64 6144))) := fun W p k hz => by
    have hz' := hz
    obtain ⟨a, c, e, h2, h3, h5⟩ := hz
    injection e with e1 _ _
    subst e1
    obtain ⟨b, o, rfl, hlt, hc⟩ := h5 (by simp [exJ])
    refine ⟨b, o, rfl, hlt, fun W' hb => ?_⟩
    have key := fun i v (hv : W.cell? ⟨b, o + i, none⟩ = some v) => (hb.cell (p := ⟨b, o + i, none⟩) hlt).trans hv
    exact ⟨⟨key 12 _ (hc 4 (by decide) 0 _ rfl), key 13 _ (hc 4 (by decide) 1 _ rfl), key 14 _ (hc 4 (by decide) 2 _ rfl)⟩, ⟨key 15 _ (hc 5 (by decide) 0 _ rfl), key 16 _ (hc 5 (by decide) 1 _ rfl), key 17 _ (hc 5 (by decide) 2 _ rfl)⟩, key 19 _ (hc 6 (by decide) 1 _ rfl)⟩
  have HL7 : Hid (exJ.length = 7) := rfl
  generalize exJ = J at HM HT HAt HCe HL7
  rw [show ((7 : Nat) : Int) = 7 from rfl, show ((224 : Nat) : Int) = 224 from rfl] at HN
  change Hid (Calls _ _ _ _ fun e w' => ∃ h, _ ∧ (∀ W, _ → Calls _ _ _ _ fun e W' => ∃ l0, _ ∧ Wd w h w'.heap.size 7 224 l0 l0 Sla.X0 W') ∧ _) at HN
  generalize Sla.X0 = Y0 at HN H1 tk
  generalize X9 = Y9 at H1 HM HA
  clear tk ht
  unfold pV at *
  go_enter Tryz.func33, Tryz.ntmps33
  go_wp2_with fail
  refine HN.out.mono ?_
  rintro e w1 ⟨h, rfl, hB1, hb1⟩
  have HBg := Lib.hid (hB1 w1 (Below.refl _ _))
  clear hB1 hb1 HN
  go_wp2_with fail
  refine HBg.out.mono ?_
  rintro e w2 ⟨l0, rfl, hd2⟩
  have HD2 := Lib.hid hd2
  clear hd2 HBg
  go_wp2_with fail
  refine (H1.out _ _ _ _ _ HD2.out).mono ?_
  rintro e w3 ⟨rfl, l3, hd3⟩
  have HD3 := Lib.hid hd3
  clear hd3 HD2
  go_wp2_with fail
  refine (HM.out _ _ _ _ _ HD3.out).mono ?_
  rintro e w4 ⟨u4, rfl, hb4, hz4, -⟩
  have HD4 := Lib.hid (HD3.out.below hb4)
  have hz := hz4
  obtain ⟨a4, k4, rfl, hk4, -⟩ := hz4
  rw [HL7.out] at hz hk4
  rw [HL7.out]
  obtain ⟨b, o, rfl, hbl, hc⟩ := HCe.out _ _ _ hz
  have HZ := Lib.hid hz
  have HC := Lib.hid hc
  obtain ⟨⟨e0, e1, e2⟩, ⟨e3, e4, e5⟩, e6⟩ := hc w4 (Below.refl _ _)
  clear hz hc hb4 HD3 HM
  go_wp2_with fail
  refine (HT.out _ _ HZ.out).mono ?_
  rintro e w5 ⟨rfl, hb5⟩
  have HD5 := Lib.hid (HD4.out.below hb5)
  have HZ5 := Lib.hid (HZ.out.mono hb5 (Nat.le_refl _))
  clear hb5 HD4 HZ HC e0 e1 e2 e3 e4 e5 e6
  go_wp2_with fail
  refine (HA.out _ _ _ _ _ HD5.out).mono ?_
  rintro e w6 ⟨rfl, hb6⟩
  have HD6 := Lib.hid (HD5.out.below hb6)
  have HZ6 := Lib.hid (HZ5.out.mono hb6 (Nat.le_refl _))
  clear hb6 HD5 HZ5
  go_wp2_with fail
  refine (HAt.out _ _ HZ6.out).mono ?_
  rintro e w7 ⟨rfl, hb7⟩
  have HD7 := Lib.hid (HD6.out.below hb7).b
  clear hb7 HD6 HZ6
  go_wp2
  go_ret
  exact ⟨rfl, HD7.out⟩
end Go.Proofs.YtjjfihoplkddfaaGreatDoor.Reg

namespace Go.Proofs.YtjjfihoplkddfaaGreatDoor.Reg
open Go.RowKit
open Cls (szC blC pdC)
open Sla (pl aT lk Sl St Wd Ts pV OwnI Tkn Kp bl_in)
open Mem (rd Hm blkM)
open Arn (is64 wrL)
set_option linter.unusedVariables false

abbrev Act := Sla.Act
def ActR (w : World) (cs : List Value) (x : Act) : Prop := cs = x.cells ∧ is64 x.k ∧ is64 x.n
abbrev ActRow := GRow 2 ActR Sla.Act.zero
theorem gv_any {w0 W : World} {h : Hm} {n S N : Nat} {l0 l : List Int} {T : List Sl} (d : Wd w0 h n S N l0 l T W) {a : Int} (h64 : is64 a) : Calls Tryz.prog 15 #[pV h, .int .i64 a] W fun e W' => ∃ l' T' er, e = .returned (.int .i64 er) ∧ Wd w0 h n S N l0 l' T' W' ∧ Fr W.heap.size (blkM h) W W' := by
  refine (d.st.give h64).mono ?_
  rintro e W' ⟨l', he, hs, hf, -⟩
  exact ⟨l', _, _, he, d.fr hs hf, hf⟩
set_option maxRecDepth 100000 in
set_option maxHeartbeats 8000000 in
theorem played_gen (P0 : List Int → Prop) (v : Value) (B : List Act) (w : World) (hr : ActRow w v B) (hB : B.length ≤ 200)
    (hN : Calls Tryz.prog 9 #[.agg #[.int .i64 ((7 : Nat) : Int), .int .i64 ((226 : Nat) : Int)]] w fun e w' => ∃ h, e = .returned (pV h) ∧
      (∀ W, Below w'.heap.size w' W → Calls Tryz.prog 11 #[pV h] W fun e W' => ∃ l0, e = .returned (.int .i64 0) ∧ P0 l0 ∧ Wd w h w'.heap.size 7 226 l0 l0 (List.replicate 7 Sl.zero) W') ∧ Below w.heap.size w w') :
    Calls Tryz.prog 34 #[v] w fun e w' => ∃ h n l0 l T, e = .returned (pV h) ∧ P0 l0 ∧ Wd w h n 7 226 l0 l T w' := by
  obtain ⟨i0, hi0, hz0, hz1, hz2⟩ := info_parts Lis.infoInt
  obtain ⟨ad, cap, U, rfl, q2, q3, q4, q5⟩ := hr
  have HC := Lib.hid q5
  have HS := Lib.hid q4
  have HN := Lib.hid hN
  clear hN
  have hL0 : ((B.length : Nat) : Int) ≤ 200 := by omega
  rw [show ((7 : Nat) : Int) = 7 from rfl, show ((226 : Nat) : Int) = 226 from rfl] at HN
  unfold pV at HN
  clear q4 q5
  go_enter Tryz.func34, Tryz.ntmps34
  go_wp2_with fail
  refine HN.out.mono ?_
  rintro e w1 ⟨h, rfl, hB1, hb1⟩
  have HBg := Lib.hid (hB1 w1 (Below.refl _ _))
  clear hB1 hb1 HN
  obtain ⟨n, hn⟩ : ∃ n, n = w1.heap.size := ⟨_, rfl⟩
  rw [← hn] at HBg
  clear hn
  go_wp2_with fail
  refine HBg.out.mono ?_
  rintro e w2 ⟨l0, rfl, hp0, hd2⟩
  have HD2 := Lib.hid hd2
  have HP0 := Lib.hid hp0
  clear hp0
  clear hd2 HBg
  go_wp2
  go_loopw [4, 5] (fun v i wr => ∃ (j : Nat) (A : List Nat) (l : List Int) (T : List Sl), j ≤ B.length ∧ A.length ≤ j ∧ i = .int .i64 j ∧ Hid (Wd w h n 7 226 l0 l T wr) ∧ Hid (OwnI n wr v A) ∧ Hid (∀ x ∈ A, x ≤ 100000)) (fun _ i _ => B.length - (intOf i).toNat)
  case atStart => exact ⟨0, [], l0, _, Nat.zero_le _, Nat.le_refl _, rfl, HD2.out, OwnI.nil _ _, fun x hx => (by cases hx)⟩
  case round =>
    clear HD2
    obtain ⟨j, A, l, T, hj, hjA, rfl, HD, HA, HI⟩ := hrel
    by_cases hlt : j < B.length
    · have hlt1 : (j : Int) < (B.length : Int) := by omega
      have hlt0 : (0 : Int) ≤ (j : Int) := by omega
      have hjw : IntKind.i64.wrap ((j : Int) + 1) = ((j + 1 : Nat) : Int) := (wrap_id (by omega) (by omega)).trans (by omega)
      obtain ⟨rb, off, rfl, hlb, hc⟩ := HC.out (by rintro rfl; simp at hlt)
      obtain ⟨hs1, hs2, hs3⟩ := HS.out j hlt
      have hcw : ∀ W, Below w.heap.size w W → W.cell? ⟨rb, off + j * 2, none⟩ = some (.int .i64 (B.getD j Sla.Act.zero).k) ∧ W.cell? ⟨rb, off + j * 2 + 1, none⟩ = some (.int .i64 (B.getD j Sla.Act.zero).n) := fun W hb => by
        have g0 := hc j hlt 0 (.int .i64 (B.getD j Sla.Act.zero).k) (by rw [hs2]; rfl)
        have g1 := hc j hlt 1 (.int .i64 (B.getD j Sla.Act.zero).n) (by rw [hs2]; rfl)
        exact ⟨(hb.cell (p := ⟨rb, off + j * 2, none⟩) hlb).trans g0, (hb.cell (p := ⟨rb, off + j * 2 + 1, none⟩) hlb).trans g1⟩
      have h64 := hs3.2
      generalize (B.getD j Sla.Act.zero).k = yk at hcw hs3
      generalize (B.getD j Sla.Act.zero).n = yn at hcw h64
      obtain ⟨d0, d1⟩ := hcw _ HD.out.b
      by_cases hk3 : yk < 3
      · have hTk := HD.out.take yn
        unfold pV at hTk
        have HTk := Lib.hid hTk
        clear hs1 hs2 hs3 hc hcw hTk
        go_wp2_with fail
        refine HTk.out.mono ?_
        rintro e w4 (⟨l', x, er, hne, rfl, hd4, hf4, -⟩ | ⟨l', T', jj, k, rfl, htk, hd4, hf4, -, -⟩)
        · have hne1 : (er == 0) = false := by simpa using hne
          have HD4 := Lib.hid hd4
          have HA4 := Lib.hid (HA.out.fr hf4 HD.out.lo)
          clear hne hd4 hf4 HD HA HTk d0 d1
          go_wp2
          go_roundw
          case rel => exact ⟨j + 1, A, l', T, by omega, by omega, by go_num, HD4.out, HA4.out, HI.out⟩
          case measure => simp [intOf]; omega
        · have hA4 := HA.out.fr hf4 HD.out.lo
          have hmem : k ∈ (T'.getD jj Sl.zero).v := (htk.mem k).2 (.inl rfl)
          have hin := bl_in htk.hk
          have hbd := hd4.pl_len htk.hj hmem
          rw [htk.cls] at hbd
          have hll : l'.length ≤ 100000 := by
            obtain ⟨H, L, ⟨C, e1, e2, e3, e4, e5⟩, d2⟩ := hd4.st
            have h1 := e5.ll
            have h2 := Sla.ok_base e5.ok
            omega
          have HWr : Hid (∀ W, Wd w h n 7 226 l0 l' T' W → Calls Tryz.prog 27 #[.pointer (some ⟨h.g, 0, none⟩), .int .i64 (pl (aT 7 226 jj) yn k : Int), .slice (some ⟨W.heap.size, 0, none⟩) 9 9, .int .i64 5] (W.alloc (.cells #[.int .u8 (j : Int), .int .u8 1, .int .u8 2, .int .u8 3, .int .u8 4, .int .u8 5, .int .u8 6, .int .u8 7, .int .u8 8] 5)) fun e W' =>
              e = .returned (.bool true) ∧ (∃ l2, Wd w h n 7 226 l0 l2 T' W') ∧ Fr W.heap.size (blkM h) W W') := fun W hW => by
            have hb := below_made W (.cells #[.int .u8 (j : Int), .int .u8 1, .int .u8 2, .int .u8 3, .int .u8 4, .int .u8 5, .int .u8 6, .int .u8 7, .int .u8 8] 5)
            have hrow : Row .u8 (W.alloc (.cells #[.int .u8 (j : Int), .int .u8 1, .int .u8 2, .int .u8 3, .int .u8 4, .int .u8 5, .int .u8 6, .int .u8 7, .int .u8 8] 5)) (.slice (some ⟨W.heap.size, 0, none⟩) 9 9) [(j : Int), 1, 2, 3, 4, 5, 6, 7, 8] := Row.made W [(j : Int), 1, 2, 3, 4, 5, 6, 7, 8] 5 _ rfl (fun i hi => by
              have : i < 9 := hi
              simp [Lit.wf, IntKind.min, IntKind.max, IntKind.signed, IntKind.bits]
              match i, this with
              | 0, _ => simp; omega
              | 1, _ => simp
              | 2, _ => simp
              | 3, _ => simp
              | 4, _ => simp
              | 5, _ => simp
              | 6, _ => simp
              | 7, _ => simp
              | 8, _ => simp) (by simp)
            have := (hW.below hb).write htk.hj hmem (X := [(j : Int), 1, 2, 3, 4, 5, 6, 7, 8]) (by rw [htk.cls]; show 9 ≤ _; omega) hrow (fun b hb => by simp only [Value.ownBlock, Option.some.injEq] at hb; have := hW.nn; omega)
            rw [htk.cls] at this
            refine this.mono ?_
            rintro e W' ⟨rfl, h1, h2⟩
            exact ⟨rfl, ⟨_, h1⟩, (Fr.of_below hb).trans (h2.mono hb.size (fun _ _ q => q))⟩
          have HLo := Lib.hid HD.out.lo
          have hd4n := hd4.nn
          have HD4 := Lib.hid hd4
          generalize pl (aT 7 226 jj) yn k = P at HWr hbd
          have hP : P ≤ 100000 := by omega
          clear htk hmem hin hd4 hf4 HD HA HTk d0 d1 hbd hll
          go_wp2_with (at_builtin; refine wpList_append_own _ rfl (.tmp 36) (.tmp 38) 32 rfl n 3 i0 (.int .i64 0) 1 8 Tryz.underlying32 hi0 hz0 hz1 hz2 rfl (by decide) _ _ _ rfl (World.ownsRow.alloc hA4 _) ⟨w4.heap.size, 0, none⟩ 1 1 [.int .i64 (P : Int)] rfl rfl (news_one _ _ _ _) (oneCell_one _ _) (by unfold maxLen; omega) (by omega) (by simp; omega) ?_)
          intro v5 w5 hown5 hgrow5 _
          have hb5 : Below n w4 w5 := ((Below.refl n w4).alloc hd4n _).grown hgrow5 (by simp; omega) (fun r hr => (World.ownsRow.lt hA4 r hr).1)
          have HD5 := Lib.hid (HD4.out.low hb5)
          have HA5 : Hid (OwnI n w5 v5 (A ++ [P])) := Sla.OwnI.snoc hown5 rfl
          clear hA4 hown5 hgrow5 hb5 HD4
          go_wp2_with fail
          refine (HWr.out _ HD5.out).mono ?_
          rintro e w6 ⟨rfl, ⟨l2, hd6⟩, hf6⟩
          have HD6 := Lib.hid hd6
          have HA6 := Lib.hid (HA5.out.fr hf6 HLo.out)
          clear hd6 hf6 HD5 HA5 HWr
          go_wp2
          go_roundw
          case rel => exact ⟨j + 1, A ++ [P], l2, T', by omega, by rw [List.length_append, List.length_singleton]; omega, by go_num, HD6.out, HA6.out, fun x hx => by rcases List.mem_append.1 hx with q | q; exact HI.out x q; simp at q; omega⟩
          case measure => simp [intOf]; omega
      · obtain ⟨pa, ca, rfl, hca, hca2⟩ := HA.out.shape
        clear hs1 hs2 hs3 hc hcw
        by_cases hA0 : A.length = 0
        · have hA1 : ¬ (0 : Int) < (A.length : Int) := by omega
          clear hA0
          go_wp2
          go_roundw
          case rel => exact ⟨j + 1, A, l, T, by omega, by omega, by go_num, HD.out, HA.out, HI.out⟩
          case measure => simp [intOf]; omega
        have hpos : (0 : Int) < (A.length : Int) := by omega
        by_cases hn0 : yn < 0
        · have hn1 : ¬ (0 : Int) ≤ yn := by omega
          go_wp2
          go_roundw
          case rel => exact ⟨j + 1, A, l, T, by omega, by omega, by go_num, HD.out, HA.out, HI.out⟩
          case measure => simp [intOf]; omega
        have hn1 : (0 : Int) ≤ yn := by omega
        have hAz : ((A.length : Int) == 0) = false := by rw [beq_eq_false_iff_ne]; omega
        obtain ⟨rm, hrm⟩ : ∃ rm, rm = yn.tmod (A.length : Int) := ⟨_, rfl⟩
        have hr0 : 0 ≤ rm := by rw [hrm]; exact Int.tmod_nonneg _ (by omega)
        have hr1 : rm < A.length := by rw [hrm]; exact Int.tmod_lt_of_pos yn hpos
        obtain ⟨kk, rfl⟩ : ∃ kk : Nat, rm = kk := ⟨rm.toNat, by omega⟩
        have hkA : kk < A.length := by omega
        have hq : yn.tmod (A.length : Int) = (kk : Int) := hrm.symm
        have hkA1 : (kk : Int) < (A.length : Int) := by omega
        have hk0 : (0 : Int) ≤ (kk : Int) := by omega
        obtain ⟨ga, rfl, hga⟩ := HA.out.cells (by rintro rfl; simp at hkA)
        have ka := hga kk hkA
        have hP : A.getD kk 0 ≤ 100000 := HI.out _ (by rw [List.getD, List.getElem?_eq_getElem hkA]; exact List.getElem_mem hkA)
        generalize A.getD kk 0 = P at ka hP
        have hgv := gv_any HD.out (a := (P : Int)) (by unfold is64; omega)
        unfold pV at hgv
        have HGv := Lib.hid hgv
        clear hrm hr0 hr1 hga hgv hA0 hn0
        go_wp2_with fail
        refine HGv.out.mono ?_
        rintro e w4 ⟨l4, T4, er, rfl, hd4, hf4⟩
        have HD4 := Lib.hid hd4
        have HA4 := Lib.hid (HA.out.fr hf4 HD.out.lo)
        clear hd4 hf4 HD HA HGv d0 d1 ka
        go_wp2
        go_roundw
        case rel => exact ⟨j + 1, A, l4, T4, by omega, by omega, by go_num, HD4.out, HA4.out, HI.out⟩
        case measure => simp [intOf]; omega
    · obtain rfl : j = B.length := by omega
      go_wp2
      go_ret
      exact ⟨h, n, l0, l, T, rfl, HP0.out, HD.out⟩
end Go.Proofs.YtjjfihoplkddfaaGreatDoor.Reg

namespace Go.Proofs.YtjjfihoplkddfaaGreatDoor.Reg
open Go.RowKit
open Cls (szC blC pdC)
open Sla (pl aT lk Sl St Wd Ts pV kp kpA SlabOk)
open Wat (Rn)
open Mem (blkM Hm)
set_option linter.unusedVariables false

theorem good_all {x : List Int} {p : Nat} {L : List Rn} (h : Wat.Good x p L) : ∀ q ∈ L, 1 ≤ q.2.1 ∧ q.1 + q.2.1 ≤ p ∧ ∀ j, j < q.2.1 → x.getD (q.1 + j) 0 = q.2.2 := by
  induction h with
  | nil => intro q hq; cases hq
  | snoc h1 h2 h3 h4 ih =>
    intro q hq
    rcases List.mem_append.1 hq with hq | hq
    · obtain ⟨a, b, c⟩ := ih q hq
      exact ⟨a, by omega, c⟩
    · obtain rfl := List.mem_singleton.1 hq
      exact ⟨h2, Nat.le_refl _, h3⟩
theorem til_hit {x : List Int} {p : Nat} {P : List RZ} (h : Til x p P) : ∀ t, t < p → ∃ r ∈ P, x.getD t 0 = r.2.2 := by
  induction h with
  | nil => intro t ht; omega
  | snoc h1 h2 h3 ih =>
    rename_i p n L k
    intro t ht
    by_cases hq : t < p
    · obtain ⟨q, a, b⟩ := ih t hq
      exact ⟨q, List.mem_append.2 (.inl a), b⟩
    · refine ⟨((p : Int), (n : Int), k), by simp, ?_⟩
      have := h3 (t - p) (by omega)
      rwa [show p + (t - p) = t by omega] at this
/-- The kinds that a map names. -/
def K8 (P : List RZ) : Prop := ∀ r ∈ P, 1 ≤ r.2.2 ∧ r.2.2 ≤ 8
theorem K8.append {P Q : List RZ} (h1 : K8 P) (h2 : K8 Q) : K8 (P ++ Q) := fun r hr => (List.mem_append.1 hr).elim (h1 r) (h2 r)
theorem head_k8 (S N : Nat) : K8 (headR S N) := by
  intro r hr
  unfold headR at hr
  obtain ⟨q, hq, rfl⟩ := List.mem_map.1 hr
  have h2 := List.dropLast_subset _ hq
  unfold Lay.runsT at h2
  show (1 : Int) ≤ (q.2.2 : Int) ∧ (q.2.2 : Int) ≤ 8
  split at h2 <;> simp at h2
  · rcases h2 with rfl | rfl | rfl | rfl | rfl <;> simp
  · rcases h2 with rfl | rfl | rfl | rfl | rfl | rfl <;> simp
theorem slab_k8 (A : Nat) (s : Sl) : K8 (slT A s) := by
  intro r hr
  unfold slT at hr
  split at hr
  · simp at hr
    subst hr
    simp
  · unfold dvR at hr
    rcases List.mem_append.1 hr with hr | hr
    · obtain ⟨k, -, rfl⟩ := List.mem_map.1 hr
      unfold blkR
      simp only
      split <;> simp
    · unfold padR at hr
      split at hr
      · simp at hr
        subst hr
        simp
      · cases hr
theorem all_k8 (S N : Nat) (T : List Sl) : ∀ j, K8 (allT S N T j)
  | 0 => fun r hr => by cases hr
  | j + 1 => (all_k8 S N T j).append (slab_k8 _ _)
section
variable {h : Hm} {S N : Nat} {l0 l : List Int} {T : List Sl} {W : World}
theorem live_any (d : St h S N l0 l T W) {j : Nat} (hj : j < S) : Calls Tryz.prog 21 #[pV h, .int .i64 (j : Int)] W fun e W' => ∃ u, e = .returned u ∧ St h S N l0 l T W' ∧ Fr W.heap.size (blkM h) W W' ∧ Row .i64 W' u (Lis.ints (kpA S N j (T.getD j Sl.zero) 5)) ∧ ∀ b, u.ownBlock = some b → W.heap.size ≤ b := by
  obtain ⟨H, L, d1, d2⟩ := d
  have HA := Lib.hid (d1.having hj (d2.hc j hj) 5)
  unfold pV at *
  go_enter Tryz.func21, Tryz.ntmps21
  go_wp2_with fail
  refine HA.out.mono ?_
  rintro e w1 ⟨u, ⟨rfl, q1, q2⟩, q3, q4⟩
  have HQ := Lib.hid (show St h S N l0 l T w1 from ⟨H, L, q1, d2⟩)
  have HQ2 := Lib.hid q2
  have HQ3 := Lib.hid q3
  clear q1 q2 q3 d1 d2 HA
  go_wp2
  go_ret
  exact ⟨u, rfl, HQ.out, HQ2.out, HQ3.out, q4⟩
end
end Go.Proofs.YtjjfihoplkddfaaGreatDoor.Reg

namespace Go.Proofs.YtjjfihoplkddfaaGreatDoor.Reg
open Go.RowKit
open Cls (szC blC pdC)
open Sla (pl aT lk Sl Lks FB SlabOk bl_in bl_apart St Sb Co Wd Ts pV)
open Mem (rd Hm blkM MemC)
open Lis (Cf)
open Arn (wrL)
open Wat (Rn)
set_option linter.unusedVariables false

/-- Runs of whole words. -/
def A4 (P : List RZ) : Prop := ∀ r ∈ P, ∃ a n : Nat, r.1 = (a : Int) ∧ r.2.1 = (n : Int) ∧ a % 4 = 0 ∧ n % 4 = 0
theorem A4.app {P Q : List RZ} (h1 : A4 P) (h2 : A4 Q) : A4 (P ++ Q) := fun r hr => (List.mem_append.1 hr).elim (h1 r) (h2 r)
theorem A4.jn {P : List RZ} {r : RZ} (h1 : A4 P) (h2 : A4 [r]) : A4 (jnZ P r) := by
  rcases List.eq_nil_or_concat P with rfl | ⟨M, q, rfl⟩
  · rw [jnZ_nil]; exact h2
  · rw [List.concat_eq_append] at *
    rw [jnZ_snoc]
    split
    · refine A4.app (fun x hx => h1 x (by simp [hx])) (fun x hx => ?_)
      obtain rfl := List.mem_singleton.1 hx
      obtain ⟨a, n, e1, e2, e3, e4⟩ := h1 q (by simp)
      obtain ⟨b, m, f1, f2, f3, f4⟩ := h2 r (by simp)
      exact ⟨a, n + m, e1, by simp only [e2, f2]; omega, e3, by omega⟩
    · exact h1.app h2
theorem A4.join {P : List RZ} (h : A4 P) : A4 (joinZ P) := by
  have key : ∀ (P Q : List RZ), A4 Q → A4 P → A4 (P.foldl jnZ Q) := by
    intro P
    induction P with
    | nil => intro Q hQ _; exact hQ
    | cons r P ih =>
      intro Q hQ hP
      exact ih _ (hQ.jn (fun x hx => hP x (by simp at hx; simp [hx]))) (fun x hx => hP x (by simp [hx]))
  exact key P [] (fun _ h => by cases h) h
theorem sz4 (c : Int) : szC c % 4 = 0 := by
  unfold szC
  split
  · rename_i h
    rcases (show c = 1 ∨ c = 2 ∨ c = 3 ∨ c = 4 ∨ c = 5 ∨ c = 6 ∨ c = 7 ∨ c = 8 ∨ c = 9 by omega) with rfl | rfl | rfl | rfl | rfl | rfl | rfl | rfl | rfl <;> decide
  · rfl
theorem mul4 {a b : Nat} (h : b % 4 = 0) : (a * b) % 4 = 0 := by rw [Nat.mul_mod, h, Nat.mul_zero]
theorem pd4 (c : Int) : pdC c % 4 = 0 := by
  unfold pdC
  split
  · rfl
  · have := mul4 (a := blC c) (sz4 c)
    omega
theorem head_a4 {S N : Nat} : A4 (headR S N) := by
  intro r hr
  unfold headR at hr
  obtain ⟨q, hq, rfl⟩ := List.mem_map.1 hr
  refine ⟨q.1, q.2.1, rfl, rfl, ?_⟩
  have h2 := List.dropLast_subset _ hq
  unfold Lay.runsT Lay.baseT Lay.endT Lay.slT at h2
  split at h2 <;> simp at h2
  · rename_i hz
    rcases h2 with rfl | rfl | rfl | rfl | rfl <;> simp <;> omega
  · rename_i hz
    have hp : Lay.padT S N % 4 = 0 := by unfold Lay.padT; split <;> rfl
    rcases h2 with rfl | rfl | rfl | rfl | rfl | rfl <;> simp <;> omega
theorem slab_a4 {A : Nat} (hA : A % 4 = 0) (s : Sl) : A4 (slT A s) := by
  intro r hr
  unfold slT at hr
  split at hr
  · simp at hr
    subst hr
    exact ⟨A, 1024, rfl, rfl, hA, by omega⟩
  · unfold dvR at hr
    rcases List.mem_append.1 hr with hr | hr
    · obtain ⟨k, -, rfl⟩ := List.mem_map.1 hr
      unfold blkR
      have := mul4 (a := k) (sz4 s.c)
      exact ⟨_, _, rfl, rfl, by unfold pl; omega, sz4 _⟩
    · unfold padR at hr
      split at hr
      · simp at hr
        subst hr
        have := pd4 s.c
        have hle : pdC (s.c : Int) ≤ 1024 := by unfold pdC; split <;> omega
        exact ⟨_, _, rfl, rfl, by omega, this⟩
      · cases hr
theorem all_a4 {S N : Nat} (hb : Lay.baseT S N % 16 = 0) (T : List Sl) : ∀ j, A4 (allT S N T j)
  | 0 => fun r hr => by cases hr
  | j + 1 => (all_a4 hb T j).app (slab_a4 (by unfold aT; omega) _)

/-- The kinds behind some runs were marked. -/
def mkK (x0 : List Int) (L : List Rn) : List Int := L.foldl (fun x r => wrL x r.1 (List.replicate r.2.1 r.2.2)) x0
theorem mkK_snoc (x0 : List Int) (L : List Rn) (r : Rn) : mkK x0 (L ++ [r]) = wrL (mkK x0 L) r.1 (List.replicate r.2.1 r.2.2) := by simp [mkK]
theorem mkK_take (x0 : List Int) (L : List Rn) (k : Nat) (h : k < L.length) : mkK x0 (L.take (k + 1)) = wrL (mkK x0 (L.take k)) (L.getD k (0, 0, 0)).1 (List.replicate (L.getD k (0, 0, 0)).2.1 (L.getD k (0, 0, 0)).2.2) := by
  rw [List.take_succ_eq_append_getElem h, mkK_snoc]
  have : L.getD k (0, 0, 0) = L[k] := by simp [List.getD, h]
  rw [this]
theorem mkK_len {n : Nat} {x0 : List Int} (h0 : x0.length = n) : ∀ (L : List Rn), (∀ q ∈ L, q.1 + q.2.1 ≤ n) → (mkK x0 L).length = n := by
  intro L
  have key : ∀ (L : List Rn) (x0 : List Int), x0.length = n → (∀ q ∈ L, q.1 + q.2.1 ≤ n) → (L.foldl (fun x r => wrL x r.1 (List.replicate r.2.1 r.2.2)) x0).length = n := by
    intro L
    induction L with
    | nil => intro x0 h0 _; exact h0
    | cons r L ih =>
      intro x0 h0 hq
      refine ih _ ?_ (fun q hq' => hq q (by simp [hq']))
      rw [Arn.wrL_length _ _ _ (by rw [List.length_replicate, h0]; exact hq r (by simp)), h0]
  exact key L x0 h0
theorem good_mk {x : List Int} {p : Nat} {L : List Rn} (h : Wat.Good x p L) {x0 : List Int} (h0 : x0.length = x.length) : p ≤ x.length → (mkK x0 L).length = x.length ∧ ∀ t, (mkK x0 L).getD t 0 = if t < p then x.getD t 0 else x0.getD t 0 := by
  induction h with
  | nil => intro _; exact ⟨h0, fun t => by rw [if_neg (by omega)]; rfl⟩
  | snoc h1 h2 h3 h4 ih =>
    rename_i p n L k
    intro hp
    obtain ⟨i1, i2⟩ := ih (by omega)
    rw [mkK_snoc]
    refine ⟨by rw [Arn.wrL_length _ _ _ (by rw [List.length_replicate, i1]; exact hp), i1], fun t => ?_⟩
    rw [Mem.wr_rep _ _ _ _ _ (by rw [i1]; exact hp), i2]
    by_cases e : p ≤ t ∧ t < p + n
    · rw [if_pos e, if_pos e.2, ← h3 (t - p) (by omega), show p + (t - p) = t by omega]
    · rw [if_neg e]
      by_cases e2 : t < p
      · rw [if_pos e2, if_pos (by omega)]
      · rw [if_neg e2, if_neg (by omega)]
theorem good_whole {x : List Int} {L : List Rn} (h : Wat.Good x x.length L) {x0 : List Int} (h0 : x0.length = x.length) : mkK x0 L = x := by
  obtain ⟨h1, h2⟩ := good_mk h h0 (Nat.le_refl _)
  exact Mem.list_of_getD h1 (fun i hi => by rw [h2, if_pos (by omega)])

/-- Links that are told have the same bytes. -/
theorem lks_eq {l l' : List Int} {A : Nat} {c : Int} : ∀ {f : List Nat}, Lks l A c f → Lks l' A c f → ∀ k ∈ f, ∀ i, i < szC c → l.getD (pl A c k + i) 0 = l'.getD (pl A c k + i) 0
  | [], _, _, k, hk => by cases hk
  | j :: r, h1, h2, k, hk => by
    rcases List.mem_cons.1 hk with rfl | hk
    · intro i hi
      rw [h1.1 i hi, h2.1 i hi]
    · exact lks_eq h1.2 h2.2 k hk
/-- Two memories of the same slabs, whose live blocks have the same bytes, have the same bytes. -/
theorem st_same {h h' : Hm} {S N : Nat} {l0 l l' : List Int} {T : List Sl} {W W' : World} (d : St h S N l0 l T W) (d' : St h' S N l0 l' T W')
    (hv : ∀ j k, j < S → k ∈ (T.getD j Sl.zero).v → ∀ i, i < szC (T.getD j Sl.zero).c → l.getD (pl (aT S N j) (T.getD j Sl.zero).c k + i) 0 = l'.getD (pl (aT S N j) (T.getD j Sl.zero).c k + i) 0) : l = l' := by
  obtain ⟨H0, L0, ⟨C0, q1, q2, q3, q4, q5⟩, e2⟩ := d'
  obtain ⟨H, L, ⟨C, rfl, rfl, h3, h4, h5⟩, d2⟩ := d
  have hr0 := q5.rep
  have hr := h5.rep
  rw [q1] at hr0
  have hHe : H = H0 := by
    refine List.ext_getElem? fun j => ?_
    by_cases hj : j < C.s
    · have a := d2.h j hj
      have b := e2.h j hj
      rw [List.getD, List.getElem?_eq_getElem (by rw [hr.hlen]; exact hj), Option.getD_some] at a
      rw [List.getD, List.getElem?_eq_getElem (by rw [hr0.hlen]; exact hj), Option.getD_some] at b
      rw [List.getElem?_eq_getElem (by rw [hr.hlen]; exact hj), List.getElem?_eq_getElem (by rw [hr0.hlen]; exact hj), a, b]
    · rw [List.getElem?_eq_none (by rw [hr.hlen]; omega), List.getElem?_eq_none (by rw [hr0.hlen]; omega)]
  have hLe : L = L0 := by
    refine Mem.list_of_getD (by rw [hr.len, hr0.len]) (fun j hj => ?_)
    have hj' : j < C.s := by rw [← hr.len]; exact hj
    have a := d2.l j hj'
    have b := e2.l j hj'
    unfold Lis.at_ at a b
    rw [List.getD, List.getElem?_eq_getElem hj, Option.getD_some] at a ⊢
    rw [List.getD, List.getElem?_eq_getElem (by rw [hr0.len]; exact hj'), Option.getD_some] at b ⊢
    rw [a, b]
  subst hHe hLe
  have hbs := Sla.ok_base h5.ok
  have hll : l.length = l'.length := by rw [h5.ll, q5.ll, q1, q2]
  have hrr : Lis.Rep C.s l' l H L := ⟨hr.room, hll, hr.len, hr.hlen, hr.cls, hr.hok, fun t ht => by
    by_cases hb : t < Lay.baseT C.s C.n
    · rw [h5.low t hb ht, q5.low t (by rw [q1, q2]; exact hb) (by rw [q1]; exact ht)]
    · by_cases hs : t < Lay.sizeT C.s C.n
      · have hj : (t - Lay.baseT C.s C.n) / 1024 < C.s := by omega
        generalize hjj : (t - Lay.baseT C.s C.n) / 1024 = j at hj
        have s1 := h5.sl _ hj
        have s2 := q5.sl j (by rw [q1]; exact hj)
        rw [q1, q2] at s2
        have hA1 : aT C.s C.n j ≤ t := by unfold aT; omega
        have hA2 : t < aT C.s C.n j + 1024 := by unfold aT; omega
        by_cases hin : t < aT C.s C.n j + blC (T.getD j Sl.zero).c * szC (T.getD j Sl.zero).c
        · have hz : 0 < szC ((T.getD j Sl.zero).c : Int) := by
            rcases Nat.eq_zero_or_pos (szC ((T.getD j Sl.zero).c : Int)) with e | e
            · rw [e] at hin; omega
            · exact e
          obtain ⟨k, hk⟩ : ∃ k, k = (t - aT C.s C.n j) / szC ((T.getD j Sl.zero).c : Int) := ⟨_, rfl⟩
          obtain ⟨i, hi⟩ : ∃ i, i = (t - aT C.s C.n j) % szC ((T.getD j Sl.zero).c : Int) := ⟨_, rfl⟩
          have hdm := Nat.div_add_mod (t - aT C.s C.n j) (szC ((T.getD j Sl.zero).c : Int))
          rw [← hk, ← hi, Nat.mul_comm] at hdm
          have hil : i < szC ((T.getD j Sl.zero).c : Int) := by rw [hi]; exact Nat.mod_lt _ hz
          have hkl : k < blC ((T.getD j Sl.zero).c : Int) := by
            rw [hk, Nat.div_lt_iff_lt_mul hz]; omega
          have ht2 : t = pl (aT C.s C.n j) (T.getD j Sl.zero).c k + i := by unfold pl; omega
          rw [ht2]
          by_cases hf : k ∈ (T.getD j Sl.zero).f
          · exact lks_eq s1.f s2.f k hf i hil
          · exact hv j k hj ((Sl.mem_v _ _).2 ⟨hkl, hf⟩) i hil
        · rw [(s1.p t (by omega) hA2).2, (s2.p t (by omega) hA2).2]
      · rw [List.getD, List.getD, List.getElem?_eq_none (by rw [h5.ll]; omega), List.getElem?_eq_none (by rw [← hll, h5.ll]; omega)], hr.root, hr.head, hr.nxt, hr.prv⟩
  exact hrr.same hr0 h4.m.bytes q4.m.bytes
end Go.Proofs.YtjjfihoplkddfaaGreatDoor.Reg

namespace Go.Proofs.YtjjfihoplkddfaaGreatDoor.Reg
open Go.RowKit
open Cls (szC blC pdC)
open Sla (pl aT lk Sl St Wd Ts pV kp kpA SlabOk)
open Mem (blkM Hm)
set_option linter.unusedVariables false

theorem arow_fr {α : Type} {k : Nat} {enc : α → List Value} {d : α} {w w' : World} {v : Value} {P : List α} {N : Nat} {S : Nat → Prop} (h : ARow k enc d w v P) (hf : Fr N S w w') (hN : w.heap.size ≤ N) (hs : ∀ b, v.ownBlock = some b → ¬ S b) : ARow k enc d w' v P := by
  obtain ⟨a, cap, h1, h2, h3, h5⟩ := h
  refine ⟨a, cap, h1, h2, h3, fun hne => ?_⟩
  obtain ⟨b, off, e, hlt, hc⟩ := h5 hne
  exact ⟨b, off, e, Nat.lt_of_lt_of_le hlt hf.size, fun i hi j x hx => hf.cell (hc i hi j x hx) (Nat.lt_of_lt_of_le hlt hN) (hs b (by rw [h1, e]; rfl))⟩
theorem mem_getD {X : List Nat} {k : Nat} (h : k < X.length) : X.getD k 0 ∈ X := by
  rw [List.getD, List.getElem?_eq_getElem h]
  exact List.getElem_mem h
/-- What is in hand while the live blocks are looked at. -/
structure AG (w : World) (h : Hm) (n : Nat) (l0 l : List Int) (T : List Sl) (J : List RZ) (u : Value) (W : World) : Prop where
  d : Wd w h n 7 226 l0 l T W
  z : ZRow W u J
  o : ∀ b, u.ownBlock = some b → n ≤ b
theorem AG.below {w W W' : World} {h : Hm} {n : Nat} {l0 l : List Int} {T : List Sl} {J : List RZ} {u : Value} (g : AG w h n l0 l T J u W) (hb : Below W.heap.size W W') : AG w h n l0 l T J u W' := ⟨g.d.below hb, g.z.mono hb (Nat.le_refl _), g.o⟩
theorem AG.live {w W : World} {h : Hm} {n : Nat} {l0 l : List Int} {T : List Sl} {J : List RZ} {u : Value} (g : AG w h n l0 l T J u W) (hJ : ∀ j, j < 7 → ∀ k ∈ (T.getD j Sl.zero).v, atZ ((pl (aT 7 226 j) (T.getD j Sl.zero).c k : Nat) : Int) J = 5) {j : Nat} (hj : j < 7) :
    Calls Tryz.prog 21 #[pV h, .int .i64 (j : Int)] W fun e W' => ∃ (p : Option Addr) (X : List Nat) (c : Nat), e = .returned (.slice p X.length c) ∧ AG w h n l0 l T J u W' ∧ Row .i64 W' (.slice p X.length c) (Lis.ints X) ∧ X.length ≤ 32 ∧ (∀ k, k < X.length → atZ ((X.getD k 0 : Nat) : Int) J = 5) := by
  refine (live_any g.d.st hj).mono ?_
  rintro e W' ⟨v, rfl, q1, q2, q3, q4⟩
  have hl := Sla.kpA_len 7 226 j (T.getD j Sl.zero) 5
  obtain ⟨p, c, rfl, -⟩ := id q3
  rw [Lis.ints_length] at *
  refine ⟨p, _, c, rfl, ⟨g.d.fr q1 q2, arow_fr g.z q2 (Nat.le_refl _) (fun b hb hk => ?_), g.o⟩, q3, hl, fun k hk => ?_⟩
  · have h1 := g.o b hb
    have h2 := g.d.lo.m b hk
    omega
  · have hm := mem_getD hk
    unfold kpA at hm
    obtain ⟨i, hi, e⟩ := List.mem_map.1 hm
    rw [Sla.kp_live] at hi
    unfold kpA
    rw [← e]
    exact hJ j hj i hi
set_option maxRecDepth 100000 in
theorem act_cells {H : Type} {enc : TypeId × Value → H} {w : World} {base : Nat} {spare : Nat → Bool} {held : Bool} {n : Nat} {cs : List Value} {y : DataW H × List MemPlace}
    (h : DataW.trod enc Tryz.prog w base spare held n 78 cs = some y) : ∃ x, ActR w cs x := by
  obtain ⟨xs, n', -, -, hlen, hxs, hf⟩ := DataW.trod_struct Tryz.underlying78 h
  have h2 : cs.length = 2 := hlen.trans (by kernel_rfl)
  have x2 : xs.length = 2 := hxs
  match cs, h2, xs, x2 with
  | [c0, c1], _, [y0, y1], _ =>
    have f0 : DataW.trod enc Tryz.prog w base spare held n' 3 (([c0, c1].drop 0).take (Tryz.prog.cellsOf 3)) = [y0, y1][0]? := hf 0 _ rfl
    have f1 : DataW.trod enc Tryz.prog w base spare held n' 3 (([c0, c1].drop 1).take (Tryz.prog.cellsOf 3)) = [y0, y1][1]? := hf 1 _ rfl
    have q1 : Tryz.prog.cellsOf 3 = 1 := by kernel_rfl
    rw [q1] at f0 f1
    simp only [List.drop, List.take, List.getElem?_cons_zero, List.getElem?_cons_succ] at f0 f1
    obtain ⟨k0, e0, -, w0⟩ := DataW.trod_int Tryz.underlying3 f0
    obtain ⟨k1, e1, -, w1⟩ := DataW.trod_int Tryz.underlying3 f1
    simp at e0 e1
    subst e0 e1
    exact ⟨⟨k0, k1⟩, rfl, Sla.wf64 w0, Sla.wf64 w1⟩
set_option maxRecDepth 100000 in
theorem open_acts {H : Type} {enc : TypeId × Value → H} {w : World} {base : Nat} {spare : Nat → Bool} {held : Bool} {r : Reach} {b0 : Nat} {v : Value} {d : DataW H} {p : List MemPlace}
    (hval : Value.okWide Tryz.prog w r b0 72 v) (h : DataW.Trod enc Tryz.prog w base spare held 72 v d p) : ∃ x : Value × List Act, v = x.1 ∧ ActRow w x.1 x.2 := by
  obtain ⟨a, len, cap, rfl⟩ := WideShapes.okWide_slice Tryz.underlying72 hval
  obtain ⟨fuel, hf⟩ := h
  obtain ⟨L, -, hrow⟩ := open_grow Sla.Act.zero Tryz.underlying72 (show Tryz.prog.cellsOf 78 = 2 by kernel_rfl) (by omega) (fun n cs y hy => act_cells hy) hf
  exact ⟨(_, L), rfl, hrow⟩
end Go.Proofs.YtjjfihoplkddfaaGreatDoor.Reg
