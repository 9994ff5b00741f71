/- The document's taken, with. -/
import Derived.Test.YtkknegnipodcnaaDoorHeaD
namespace Go.Proofs.YtkknegnipodcnaaDoor.Hea
open Go.RowKit Num
set_option linter.unusedVariables false

set_option maxRecDepth 100000 in
theorem refTaken_any (v : Value) (l : List Int) (m n : Nat) (w : World) (hr : Row .u8 w v l) (h : m + n ≤ l.length) (hn1 : 1 ≤ n) (hn8 : n ≤ 8) (hl : l.length ≤ 1000000000) :
    Calls Tryd.prog 34 #[v, .int .i64 (m : Int), .int .i64 (n : Int)] w fun e w' => e = .returned (.int .u64 (rdF l m n)) ∧ w = w' := by
  have hby := hr.bytes
  obtain ⟨ad, cap, rfl, h2, h3, h4, h5⟩ := hr
  obtain ⟨b, off, rfl, hlt, hc⟩ := h5 (by rintro rfl; simp at h; omega)
  have HC := Lib.hid hc
  have HB := Lib.hid hby
  have hR : Hid (rdF l m n = le ((l.drop (m + 0)).take (n - 0))) := rfl
  clear hc hby h5 h4
  go_enter Tryd.func34, Tryd.ntmps34
  go_wp2
  go_loop [7, 8] (fun acc i => ∃ k : Nat, k ≤ n ∧ i = .int .i64 ((k : Int) - 1) ∧ acc = .int .u64 (le ((l.drop (m + k)).take (n - k)))) (fun _ i => (intOf i + 1).toNat)
  case atStart => exact ⟨n, by omega, rfl, by simp [le]⟩
  case round =>
    obtain ⟨k, hk, rfl, rfl⟩ := hrel
    match k, hk with
    | 0, _ =>
      rw [show ((0 : Nat) : Int) - 1 = -1 from rfl]
      go_wp2
      go_ret
      exact ⟨by rw [hR.out, Nat.sub_zero, Nat.add_zero]; rfl, rfl⟩
    | j + 1, hk =>
      rw [show ((j + 1 : Nat) : Int) - 1 = (j : Int) from by omega]
      have hcell := HC.out (m + j) (by omega)
      have hbj := HB.out (m + j)
      obtain ⟨hb1, hb2⟩ := hbj
      have hacc := le_bd ((l.drop (m + (j + 1))).take (n - (j + 1))) (fun i => by
        by_cases hi : i < n - (j + 1)
        · rw [take_getD _ _ _ hi, drop_getD]; exact HB.out _
        · simp [List.getD, List.getElem?_take, hi])
      have hlen : (256 : Int) ^ ((l.drop (m + (j + 1))).take (n - (j + 1))).length ≤ 256 ^ 7 := by
        have := List.length_take_le (n - (j + 1)) (l.drop (m + (j + 1)))
        exact_mod_cast Nat.pow_le_pow_right (by omega) (by omega)
      have hstep : Hid (le ((l.drop (m + j)).take (n - j)) = l.getD (m + j) 0 + 256 * le ((l.drop (m + (j + 1))).take (n - (j + 1)))) := by
        unfold Hid
        rw [show n - j = (n - (j + 1)) + 1 from by omega, take_drop_cons l (m + j) _ (by omega), le_cons]
        rfl
      obtain ⟨acc, hacce⟩ : ∃ acc, acc = le ((l.drop (m + (j + 1))).take (n - (j + 1))) := ⟨_, rfl⟩
      obtain ⟨bj, hbje⟩ : ∃ bj, bj = l.getD (m + j) 0 := ⟨_, rfl⟩
      rw [← hacce] at hacc hstep ⊢
      rw [← hbje] at hstep hcell hb1 hb2
      obtain ⟨ha1, ha2⟩ := hacc
      have ha3 : acc < 72057594037927936 := by
        have : (256 : Int) ^ 7 = 72057594037927936 := by decide
        omega
      clear hacce hbje ha2 hlen
      have hmj : (m : Int) + (j : Int) < (l.length : Int) := by omega
      go_wp2
      go_round
      case rel => exact ⟨j, by omega, rfl, by rw [hstep.out]; go_num⟩
      case measure => simp [intOf]

/-- A block with a field of another number. -/
def withB (b : Blk) (k : Nat) (v : Int) : Blk :=
  match k with
  | 0 => { b with tag := wrap64 v }
  | 1 => { b with cls := wrap64 v }
  | 2 => { b with used := v == 1 }
  | 3 => { b with lab := wrap64 v }
  | 4 => { b with name := v % 4294967296 }
  | 5 => { b with next := v % 4294967296 }
  | 6 => { b with prev := v % 4294967296 }
  | 7 => { b with exp := v }
  | 8 => { b with typ := v % 65536 }
  | 9 => { b with size := wrap64 v }
  | 10 => { b with hash := v % 4294967296 }
  | _ => { b with refs := v % 4294967296 }

theorem u16_mod (v : Int) : IntKind.u16.wrap v = v % 65536 := by simp [IntKind.wrap, IntKind.bits, IntKind.signed]
theorem new_cell (w : World) (a : Obj) (c : Array Value) (T : TypeId) (i : Nat) : ((w.alloc a).alloc (.cells c T)).cell? ⟨w.heap.size + 1, i, none⟩ = c[i]? := by
  have h1 := heap_alloc_new (w.alloc a) (.cells c T)
  have h2 : (w.alloc a).heap.size = w.heap.size + 1 := by simp
  rw [h2] at h1
  exact cell_block h1 i

set_option maxRecDepth 100000 in
set_option maxHeartbeats 4000000 in
theorem refWith_any (b : Blk) (k : Nat) (v : Int) (w : World) (hk : k < 12) (h0 : 0 ≤ v) (h1 : v < 18446744073709551616) : Calls Tryd.prog 33 #[b.agg, .int .i64 (k : Int), .int .u64 v] w fun e w' => e = .returned (withB b k v).agg ∧ Below w.heap.size w w' := by
  obtain ⟨R, hR⟩ : ∃ R, R = (withB b k v).agg := ⟨_, rfl⟩
  rw [← hR]
  have HR := Lib.hid hR
  clear hR
  unfold Blk.agg
  obtain ⟨tag, cls, used, lab, name, next, prev, refs, exp, typ, size, hash⟩ := b
  have hk : k = 0 ∨ k = 1 ∨ k = 2 ∨ k = 3 ∨ k = 4 ∨ k = 5 ∨ k = 6 ∨ k = 7 ∨ k = 8 ∨ k = 9 ∨ k = 10 ∨ k = 11 := by omega
  rcases hk with rfl | rfl | rfl | rfl | rfl | rfl | rfl | rfl | rfl | rfl | rfl | rfl
  all_goals
    go_enter Tryd.func33, Tryd.ntmps33
    go_wp2
    refine bodyPost_ret (v := R) (by rw [HR.out]; simp [results, Tryd.results33, go_sem, new_cell, withB, Blk.agg, u16_mod]) rfl ⟨rfl, below2 _ _ _⟩
end Go.Proofs.YtkknegnipodcnaaDoor.Hea
