/- The landed head in a memory: Put, live or free. The landed head in a memory: what Get leans on. The landed head in a memory: Get. The landed head in a memory: Get; all that is asked of head in a memory. -/
import Derived.Test.YtjjfihoplkddfaaGreatDoorJ13
namespace Go.Proofs.YtjjfihoplkddfaaGreatDoor.Hea
open Go.RowKit Num
open Mem (Mm MemC MRet Hm rd blkM)
set_option linter.unusedVariables false

theorem put_any (h : Hm) (v : Value) (M : Mm) (a : Nat) (b : Blk) (w : World) (ht : Tab w) (hm : MemC h w v M) (hb : b.Ok) (hr : RightP b) (hro : Room M a b.tag) :
    Calls Tryz.prog 138 #[v, .int .i64 (a : Int), b.agg] w fun e w' => ∃ lk, MRet h w v { M with l := Arn.wrL M.l a (encL b), lk := lk } (.int .i64 0) e w' := by
  cases hq : (b.tag == 0) with
  | true => exact put_free h v M a b w ht hm hb hr hro hq
  | false => exact put_live h v M a b w ht hm hb hr hro hq
end Go.Proofs.YtjjfihoplkddfaaGreatDoor.Hea

namespace Go.Proofs.YtjjfihoplkddfaaGreatDoor.Hea
open Go.RowKit Go.Shelf Num
open Mem (Mm MemC MRet Hm rd blkM)
set_option linter.unusedVariables false
attribute [local go_sem] Oper.semAt_some

theorem own_pure {β : Type} (p : β → Prop) : Own (fun s (_ : World) => p s) := fun _ _ _ _ hs _ _ => hs
theorem blk_own' {β : Type} (k : Nat) (o : β → Obj) (ho : ∀ s, (o s).isCells = true) : Own (fun s W => W.heap[k]? = some (o s)) := fun s X Y row hs hg hrow => grown_block hs (ho s) hg hrow
theorem sub_part {L : List Int} {a o n s : Nat} (h : o + n ≤ s) : (((L.drop a).take s).drop o).take n = (L.drop (a + o)).take n := by
  rw [List.drop_take, List.take_take, List.drop_drop, Nat.min_eq_left (by omega)]
theorem enc_num {b : Blk} (hb : b.Ok) (hr : RightP b) {f : Nat} (hf : hasF b.tag f = true) (h12 : f < 12) : rdF (encL b) (whF b.tag f).1.toNat (whF b.tag f).2.toNat = numF b f := by
  obtain ⟨k1, k2, k3, k4, k5, k6, k7, k8, k9, k10, k11⟩ := hb
  simp only [i64, u32, u64, u16] at *
  obtain ⟨tag, cls, used, lab, name, next, prev, refs, exp, typ, size, hash⟩ := b
  simp only [] at *
  have hk : f = 0 ∨ f = 1 ∨ f = 2 ∨ f = 3 ∨ f = 4 ∨ f = 5 ∨ f = 6 ∨ f = 7 ∨ f = 8 ∨ f = 9 ∨ f = 10 ∨ f = 11 := by omega
  rcases hr with ⟨h0, h1, h2, h3, h4, h5, h6, h7, h8, h9, h10⟩ | ⟨h0, h1, h2, h3, h4, h5, h6⟩ | ⟨h0, h1, h2, h3, h4, h5, h6, h7, h8, h9, h10⟩
  · simp only [] at h0 h1 h2 h3 h4 h5 h6 h7 h8 h9 h10
    subst h0 h1 h2 h3
    rcases hk with rfl | rfl | rfl | rfl | rfl | rfl | rfl | rfl | rfl | rfl | rfl | rfl <;> simp [hasF, whF, encL, p1, p4, rdF, le, numF, u64_id] at hf ⊢
    omega
  · simp only [] at h0 h1 h2 h3 h4 h5 h6
    subst h0 h3
    have e1 : IntKind.u64.wrap cls = cls := u64_id (by omega) (by omega)
    have e2 : IntKind.u64.wrap size = size := u64_id (by omega) (by omega)
    rcases hk with rfl | rfl | rfl | rfl | rfl | rfl | rfl | rfl | rfl | rfl | rfl | rfl <;> cases used <;> simp [hasF, whF, encL, p1, p4, p8, p2, rdF, le, numF, u64_id, e1, e2] at hf ⊢ <;> omega
  · simp only [] at h0 h1 h2 h3 h4 h5 h6 h7 h8 h9 h10
    subst h0 h3
    have e1 : IntKind.u64.wrap cls = cls := u64_id (by omega) (by omega)
    have e2 : IntKind.u64.wrap lab = lab := u64_id (by omega) (by omega)
    rcases hk with rfl | rfl | rfl | rfl | rfl | rfl | rfl | rfl | rfl | rfl | rfl | rfl <;> simp [hasF, whF, encL, p1, p4, rdF, le, numF, u64_id, e1, e2] at hf ⊢ <;> omega
theorem ld_num {b : Blk} (hb : b.Ok) (hr : RightP b) {l : List Int} {a : Nat} (hl : (l.drop a).take (encL b).length = encL b) {f : Nat} (hf : hasF b.tag f = true) (h12 : f < 12) : ldF l a b.tag f = numF b f := by
  have hw := wh_fit (right_tag hr) f h12
  have hz := has_two hf
  have hs := (dec_enc hb hr).2
  rw [← enc_num hb hr hf h12]
  unfold ldF rd rdF
  rw [if_neg hz, ← sub_part (s := (encL b).length) (by omega), hl]
/-- A field more is written, into a block of its own. -/
theorem store_own (b : Blk) (hb : b.Ok) (hr : RightP b) (z : Nat) (hz : szF b.tag = z) (pre : List (FT b.tag)) (f : FT b.tag) (g : Nat) (w : World) (hg : w.heap[g]? = some (.cells (vals (EL b (pre.map FT.f))).toArray 5 (0, 0))) :
    Calls Tryz.prog 157 #[.slice (some ⟨g, 0, none⟩) z z, .int .i64 (whF b.tag f.f).1, .int .i64 (whF b.tag f.f).2, .int .u64 (numF b f.f)] w
      fun e w' => e = .returned (.tuple #[.slice (some ⟨w.heap.size, 0, none⟩) z z, .int .i64 0]) ∧ Below w.heap.size w w' ∧ w'.heap[w.heap.size]? = some (.cells (vals (EL b ((pre ++ [f]).map FT.f))).toArray 5 (0, 0)) := by
  have htg := right_tag hr
  have hlen : (EL b (pre.map FT.f)).length = z := by
    rw [EL_length htg _ (by
      intro g hg
      obtain ⟨x, _, rfl⟩ := List.mem_map.1 hg
      exact x.lt), hz]
    rfl
  have hs := sz_bd htg
  have hbd := numF_bd hb f.f
  have hok := field_ok hb hr f.has f.lt
  have hfit := wh_fit htg f.f f.lt
  have hnz := has_two f.has
  unfold ste at hok
  split at hok
  · rename_i hf
    obtain ⟨o, n, hon⟩ : ∃ o n : Nat, whF b.tag f.f = ((o : Int), (n : Int)) := ⟨(whF b.tag f.f).1.toNat, (whF b.tag f.f).2.toNat, by rw [Int.toNat_of_nonneg hfit.1, Int.toNat_of_nonneg hfit.2.1]⟩
    rw [List.map_append, List.map_singleton, EL_snoc]
    rw [hon] at hok hf hfit hnz ⊢
    simp only [Int.toNat_natCast] at hok hf hfit hnz ⊢
    have h := store_ok g 0 z (EL b (pre.map FT.f)) o n (numF b f.f) w (by omega) (by omega) (by omega) (fun i hi => by rw [Nat.zero_add, cell_block hg, List.getElem?_toArray, vals_get _ _ hi]) (Array.getElem?_eq_some_iff.1 hg).1 hbd.1 hbd.2 hf (by omega) (by omega)
      (by rw [List.length_replicate, hz, Int.toNat_natCast] at hok; rw [hlen]; exact hok) (by omega)
    rw [hlen] at h
    exact h
  · cases hok
theorem dec_enc0 {b : Blk} (hb : b.Ok) (hr : RightP b) : decF (encL b) = (b, 0) := by
  obtain ⟨k1, k2, k3, k4, k5, k6, k7, k8, k9, k10, k11⟩ := hb
  simp only [i64, u32, u64, u16] at *
  have hrr : rightF b = true := by unfold rightF; rw [decide_eq_true_eq]; exact hr
  obtain ⟨tag, cls, used, lab, name, next, prev, refs, exp, typ, size, hash⟩ := b
  simp only [] at *
  have key : decB (encL ⟨tag, cls, used, lab, name, next, prev, refs, exp, typ, size, hash⟩) = ⟨tag, cls, used, lab, name, next, prev, refs, exp, typ, size, hash⟩ := by
    rcases hr with ⟨h0, h1, h2, h3, h4, h5, h6, h7, h8, h9, h10⟩ | ⟨h0, h1, h2, h3, h4, h5, h6⟩ | ⟨h0, h1, h2, h3, h4, h5, h6, h7, h8, h9, h10⟩
    · simp only [] at h0 h1 h2 h3 h4 h5 h6 h7 h8 h9 h10
      subst h0 h1 h2 h3 h4 h5 h6 h7 h8 h9 h10
      simp [encL, decB, p1, p4, rdF, le]
      omega
    · simp only [] at h0 h1 h2 h3 h4 h5 h6
      subst h0 h3 h6
      cases used <;> simp [encL, decB, p1, p4, p8, p2, rdF, le] <;> omega
    · simp only [] at h0 h1 h2 h3 h4 h5 h6 h7 h8 h9 h10
      subst h0 h3 h6 h7 h8 h9 h10
      simp [encL, decB, p1, p4, rdF, le]
      omega
  have h0 : (encL ⟨tag, cls, used, lab, name, next, prev, refs, exp, typ, size, hash⟩).getD 0 0 = tag := by simp [encL, p1]
  have h2 : (encL ⟨tag, cls, used, lab, name, next, prev, refs, exp, typ, size, hash⟩).getD 2 0 = if used then 1 else 0 := by simp [encL, p1]
  have hn : encL ⟨tag, cls, used, lab, name, next, prev, refs, exp, typ, size, hash⟩ ≠ [] := by simp [encL, p1]
  have hl : ((encL ⟨tag, cls, used, lab, name, next, prev, refs, exp, typ, size, hash⟩).length : Int) = szF tag := by
    rcases hr with ⟨e, -⟩ | ⟨e, -⟩ | ⟨e, -⟩
    · simp only [] at e
      subst e
      simp [encL, p1, p4, szF]
    · simp only [] at e
      subst e
      simp [encL, p1, p4, p8, p2, szF]
    · simp only [] at e
      subst e
      simp [encL, p1, p4, szF]
  have ht : tag ≤ 2 := by
    rcases hr with ⟨e, -⟩ | ⟨e, -⟩ | ⟨e, -⟩
    all_goals simp only [] at e
    all_goals omega
  rw [decF_rest hn (by rw [h0]; omega) (by rw [h0]; omega), key, h2, hrr]
  rw [if_neg]
  rintro (h | h)
  · split at h <;> omega
  · cases h
end Go.Proofs.YtjjfihoplkddfaaGreatDoor.Hea

namespace Go.Proofs.YtjjfihoplkddfaaGreatDoor.Hea
open Go.RowKit Go.Shelf Num
open Mem (Mm MemC MRet Hm rd blkM)
set_option linter.unusedVariables false
attribute [local go_sem] Oper.semAt_some


set_option maxRecDepth 100000 in
set_option maxHeartbeats 4000000 in
theorem gather_any (h : Hm) (v : Value) (M : Mm) (a : Nat) (b : Blk) (w : World) (ht : Tab w) (hm : MemC h w v M) (hb : b.Ok) (hr : RightP b) (hro : Room M a b.tag) (hpart : (M.l.drop a).take (encL b).length = encL b) :
    Calls Tryz.prog 108 #[v, .int .i64 (a : Int), .int .i64 (kdF b.tag), .int .i64 b.tag] w fun e w' => ∃ g lk, MRet h w v { M with lk := lk } (.tuple #[.slice (some ⟨g, 0, none⟩) (encL b).length (encL b).length, .int .i64 0]) e w' ∧ w.heap.size ≤ g ∧ w'.heap[g]? = some (.cells (vals (encL b)).toArray 5 (0, 0)) := by
  have htg := right_tag hr
  have hsz := sz_bd htg
  have hel := (dec_enc hb hr).2
  have HFs := Lib.hid (fun W => fields_any b.tag W)
  have HSz := Lib.hid (fun W => size_any b.tag W)
  have HWh := Lib.hid (fun f W hT => where_any b.tag f W hT)
  have hld : ∀ (f : FT b.tag) (lk : Int) (W : World), MemC h W v { M with lk := lk } → Calls Tryz.prog 31 #[v, .int .i64 (wrap64 ((a : Int) + (whF b.tag f.f).1)), .int .i64 (whF b.tag f.f).2, .int .i64 (kdF b.tag)] W
      fun e w' => ∃ lk', MRet h W v { M with lk := lk' } (.int .u64 (numF b f.f)) e w' := fun f lk W hw => by
    have h1 := ld_room h v _ a b.tag f.f W hw (room_lk hro _ lk) (has_two f.has)
    rw [show ({ M with l := M.l, lk := lk } : Mm).l = M.l from rfl, ld_num hb hr hpart f.has f.lt] at h1
    exact h1
  obtain ⟨z, hz⟩ : ∃ z : Nat, szF b.tag = z := ⟨(szF b.tag).toNat, by omega⟩
  have hsto := store_own b hb hr z hz
  have HE0 : Hid (EL b [] = List.replicate z 0) := by unfold Hid EL; rw [hz]; rfl
  have HEnd := Lib.hid (EL_end hb hr)
  have HEl : Hid ((encL b).length = z) := by unfold Hid; omega
  obtain ⟨kd, hkd⟩ : ∃ kd, kd = kdF b.tag := ⟨_, rfl⟩
  obtain ⟨ft, hft⟩ : ∃ ft, ft = M.ft := ⟨_, rfl⟩
  have hfa : ∀ lk W, MemC h W v { M with lk := lk } → Calls Tryz.prog 19 #[v] W fun e w' => e = .returned (.int .i64 ft) ∧ Below W.heap.size W w' := fun lk W hw => by
    have := Mem.faults_any h v _ W hw
    rw [hft]
    exact this
  rw [← hkd] at hld ⊢
  rw [hz] at HSz hsz
  obtain ⟨nf, hnf⟩ : ∃ nf, nf = numF b := ⟨_, rfl⟩
  obtain ⟨wh, hwh⟩ : ∃ wh, wh = whF b.tag := ⟨_, rfl⟩
  rw [← hnf, ← hwh] at hld hsto
  rw [← hwh] at HWh
  have HLd := Lib.hid hld
  have HSt := Lib.hid hsto
  have HFa := Lib.hid hfa
  have HTab := Lib.hid (fun W (hf : Fr w.heap.size (blkM h) w W) => ht.fr hm hf)
  have HMl := Lib.hid hm.lt
  have HOrd : Hid (3 < w.heap.size ∧ 5 < w.heap.size ∧ ¬ blkM h 3 ∧ ¬ blkM h 5) := ⟨ht.lt.1, ht.lt.2, not_blk hm ht.ord_cell, not_blk hm ht.pl_cell⟩
  have HFSt := Lib.hid (fun n hn Bn W h1 h2 h3 => fields_stops n hn Bn b.tag W h1 h2 h3)
  obtain ⟨BB, hBB⟩ : ∃ BB : World → Prop, BB = fun W => Blks [(w.heap.size, .cells #[.pointer (some ⟨h.g, 0, none⟩)] 26 (0, 0)), (w.heap.size + 1, .cells #[.int .i64 (a : Int)] 3 (0, 0)), (w.heap.size + 2, .cells #[.int .i64 kd] 3 (0, 0)), (w.heap.size + 3, .cells #[.int .i64 b.tag] 3 (0, 0)), (w.heap.size + 4, .cells #[.slice none 0 0] 57 (0, 0)), (w.heap.size + 5, .cells #[.int .i64 0] 30 (0, 0))] W ∧ Below w.heap.size w W := ⟨_, rfl⟩
  have HBB : Hid (∀ W V, BB W → Below W.heap.size W V → BB V) := fun W V h hb => by rw [hBB] at h ⊢; exact ⟨h.1.below hb, h.2.trans (hb.mono h.2.size)⟩
  have HBel : Hid (∀ W, BB W → Below w.heap.size w W ∧ w.heap.size + 6 ≤ W.heap.size) := fun W h => by rw [hBB] at h; exact ⟨h.2, (Array.getElem?_eq_some_iff.1 (h.1 _ (.tail _ (.tail _ (.tail _ (.tail _ (.tail _ (.head _)))))))).1⟩
  have HBl : Hid (∀ W, BB W → Blks [(w.heap.size, .cells #[.pointer (some ⟨h.g, 0, none⟩)] 26 (0, 0)), (w.heap.size + 1, .cells #[.int .i64 (a : Int)] 3 (0, 0)), (w.heap.size + 2, .cells #[.int .i64 kd] 3 (0, 0)), (w.heap.size + 3, .cells #[.int .i64 b.tag] 3 (0, 0)), (w.heap.size + 4, .cells #[.slice none 0 0] 57 (0, 0)), (w.heap.size + 5, .cells #[.int .i64 0] 30 (0, 0))] W) := fun W h => by rw [hBB] at h; exact h.1
  have HCt : Hid (∀ W, BB W → W.cell? ⟨w.heap.size + 3, 0, none⟩ = some (.int .i64 b.tag)) := fun W h => by
    rw [hBB] at h
    exact (cell_block (h.1 _ (.tail _ (.tail _ (.tail _ (.head _))))) 0).trans rfl
  have HCv : Hid (∀ W, BB W → W.cell? ⟨w.heap.size, 0, none⟩ = some (.pointer (some ⟨h.g, 0, none⟩))) := fun W h => by
    rw [hBB] at h
    exact (cell_block (h.1 _ (.head _)) 0).trans rfl
  have HMem : Hid (∀ W, BB W → MemC h W v M) := fun W h => by
    rw [hBB] at h
    exact hm.below h.2
  have HX : Hid (BB ((((((w.alloc (.cells #[.pointer (some ⟨h.g, 0, none⟩)] 26)).alloc (.cells #[.int .i64 (a : Int)] 3)).alloc (.cells #[.int .i64 kd] 3)).alloc (.cells #[.int .i64 b.tag] 3)).alloc (.cells #[.slice none 0 0] 57)).alloc (.cells #[.int .i64 0] 30))) := by
    unfold Hid
    rw [hBB]
    have b1 := below_made w (.cells #[.pointer (some ⟨h.g, 0, none⟩)] 26)
    have k1 := heap_alloc_new w (.cells #[.pointer (some ⟨h.g, 0, none⟩)] 26)
    have b2 := below_made (w.alloc (.cells #[.pointer (some ⟨h.g, 0, none⟩)] 26)) (.cells #[.int .i64 (a : Int)] 3)
    have k2 := heap_alloc_new (w.alloc (.cells #[.pointer (some ⟨h.g, 0, none⟩)] 26)) (.cells #[.int .i64 (a : Int)] 3)
    have b3 := below_made ((w.alloc (.cells #[.pointer (some ⟨h.g, 0, none⟩)] 26)).alloc (.cells #[.int .i64 (a : Int)] 3)) (.cells #[.int .i64 kd] 3)
    have k3 := heap_alloc_new ((w.alloc (.cells #[.pointer (some ⟨h.g, 0, none⟩)] 26)).alloc (.cells #[.int .i64 (a : Int)] 3)) (.cells #[.int .i64 kd] 3)
    have b4 := below_made (((w.alloc (.cells #[.pointer (some ⟨h.g, 0, none⟩)] 26)).alloc (.cells #[.int .i64 (a : Int)] 3)).alloc (.cells #[.int .i64 kd] 3)) (.cells #[.int .i64 b.tag] 3)
    have k4 := heap_alloc_new (((w.alloc (.cells #[.pointer (some ⟨h.g, 0, none⟩)] 26)).alloc (.cells #[.int .i64 (a : Int)] 3)).alloc (.cells #[.int .i64 kd] 3)) (.cells #[.int .i64 b.tag] 3)
    have b5 := below_made ((((w.alloc (.cells #[.pointer (some ⟨h.g, 0, none⟩)] 26)).alloc (.cells #[.int .i64 (a : Int)] 3)).alloc (.cells #[.int .i64 kd] 3)).alloc (.cells #[.int .i64 b.tag] 3)) (.cells #[.slice none 0 0] 57)
    have k5 := heap_alloc_new ((((w.alloc (.cells #[.pointer (some ⟨h.g, 0, none⟩)] 26)).alloc (.cells #[.int .i64 (a : Int)] 3)).alloc (.cells #[.int .i64 kd] 3)).alloc (.cells #[.int .i64 b.tag] 3)) (.cells #[.slice none 0 0] 57)
    have b6 := below_made (((((w.alloc (.cells #[.pointer (some ⟨h.g, 0, none⟩)] 26)).alloc (.cells #[.int .i64 (a : Int)] 3)).alloc (.cells #[.int .i64 kd] 3)).alloc (.cells #[.int .i64 b.tag] 3)).alloc (.cells #[.slice none 0 0] 57)) (.cells #[.int .i64 0] 30)
    have k6 := heap_alloc_new (((((w.alloc (.cells #[.pointer (some ⟨h.g, 0, none⟩)] 26)).alloc (.cells #[.int .i64 (a : Int)] 3)).alloc (.cells #[.int .i64 kd] 3)).alloc (.cells #[.int .i64 b.tag] 3)).alloc (.cells #[.slice none 0 0] 57)) (.cells #[.int .i64 0] 30)
    simp only [World.size_alloc] at b1 b2 b3 b4 b5 b6 k1 k2 k3 k4 k5 k6
    refine ⟨?_, ((((b1.trans (b2.mono (by omega))).trans (b3.mono (by omega))).trans (b4.mono (by omega))).trans (b5.mono (by omega))).trans (b6.mono (by omega))⟩
    intro p hp
    simp only [List.mem_cons, List.not_mem_nil, or_false] at hp
    rcases hp with rfl | rfl | rfl | rfl | rfl | rfl
    · exact (b6.block _ (by simp only []; omega)).trans ((b5.block _ (by simp only []; omega)).trans ((b4.block _ (by simp only []; omega)).trans ((b3.block _ (by simp only []; omega)).trans ((b2.block _ (by simp only []; omega)).trans k1))))
    · exact (b6.block _ (by simp only []; omega)).trans ((b5.block _ (by simp only []; omega)).trans ((b4.block _ (by simp only []; omega)).trans ((b3.block _ (by simp only []; omega)).trans k2)))
    · exact (b6.block _ (by simp only []; omega)).trans ((b5.block _ (by simp only []; omega)).trans ((b4.block _ (by simp only []; omega)).trans k3))
    · exact (b6.block _ (by simp only []; omega)).trans ((b5.block _ (by simp only []; omega)).trans k4)
    · exact (b6.block _ (by simp only []; omega)).trans k5
    · exact k6
  obtain rfl := hm.hv
  clear hBB hb hr ht htg hnf hkd hld hsto hfa hro hm hpart hz hel hft hwh
  have ct := HCt.out _ HX.out
  obtain ⟨i0, hi, hz0, hz1, hz2⟩ := info_parts infoU8
  have hm6 := below_made ((((((w.alloc (.cells #[.pointer (some ⟨h.g, 0, none⟩)] 26)).alloc (.cells #[.int .i64 (a : Int)] 3)).alloc (.cells #[.int .i64 kd] 3)).alloc (.cells #[.int .i64 b.tag] 3)).alloc (.cells #[.slice none 0 0] 57)).alloc (.cells #[.int .i64 0] 30)) (.cells (madeCells #[.int .u8 0] z) 5)
  have hm7 := hm6.trans ((below_made (((((((w.alloc (.cells #[.pointer (some ⟨h.g, 0, none⟩)] 26)).alloc (.cells #[.int .i64 (a : Int)] 3)).alloc (.cells #[.int .i64 kd] 3)).alloc (.cells #[.int .i64 b.tag] 3)).alloc (.cells #[.slice none 0 0] 57)).alloc (.cells #[.int .i64 0] 30)).alloc (.cells (madeCells #[.int .u8 0] z) 5)) (.cells #[.slice (some ⟨w.heap.size + 6, 0, none⟩) z z] 57)).mono (by simp))
  have HV7 := Lib.hid (HBB.out _ _ HX.out hm7)
  have HG7 : Hid ((((((((w.alloc (.cells #[.pointer (some ⟨h.g, 0, none⟩)] 26)).alloc (.cells #[.int .i64 (a : Int)] 3)).alloc (.cells #[.int .i64 kd] 3)).alloc (.cells #[.int .i64 b.tag] 3)).alloc (.cells #[.slice none 0 0] 57)).alloc (.cells #[.int .i64 0] 30)).alloc (.cells (madeCells #[.int .u8 0] z) 5)).heap[w.heap.size + 6]? = some (.cells (madeCells #[.int .u8 0] z) 5 (0, 0))) := by
    have := heap_alloc_new ((((((w.alloc (.cells #[.pointer (some ⟨h.g, 0, none⟩)] 26)).alloc (.cells #[.int .i64 (a : Int)] 3)).alloc (.cells #[.int .i64 kd] 3)).alloc (.cells #[.int .i64 b.tag] 3)).alloc (.cells #[.slice none 0 0] 57)).alloc (.cells #[.int .i64 0] 30)) (.cells (madeCells #[.int .u8 0] z) 5)
    simp only [World.size_alloc] at this
    exact this
  have HL7 : Hid (((((((((w.alloc (.cells #[.pointer (some ⟨h.g, 0, none⟩)] 26)).alloc (.cells #[.int .i64 (a : Int)] 3)).alloc (.cells #[.int .i64 kd] 3)).alloc (.cells #[.int .i64 b.tag] 3)).alloc (.cells #[.slice none 0 0] 57)).alloc (.cells #[.int .i64 0] 30)).alloc (.cells (madeCells #[.int .u8 0] z) 5)).alloc (.cells #[.slice (some ⟨w.heap.size + 6, 0, none⟩) z z] 57)).heap[w.heap.size + 7]? = some (.cells #[.slice (some ⟨w.heap.size + 6, 0, none⟩) z z] 57 (0, 0))) := by
    have := heap_alloc_new (((((((w.alloc (.cells #[.pointer (some ⟨h.g, 0, none⟩)] 26)).alloc (.cells #[.int .i64 (a : Int)] 3)).alloc (.cells #[.int .i64 kd] 3)).alloc (.cells #[.int .i64 b.tag] 3)).alloc (.cells #[.slice none 0 0] 57)).alloc (.cells #[.int .i64 0] 30)).alloc (.cells (madeCells #[.int .u8 0] z) 5)) (.cells #[.slice (some ⟨w.heap.size + 6, 0, none⟩) z z] 57)
    simp only [World.size_alloc] at this
    exact this
  have HG8 : Hid (((((((((w.alloc (.cells #[.pointer (some ⟨h.g, 0, none⟩)] 26)).alloc (.cells #[.int .i64 (a : Int)] 3)).alloc (.cells #[.int .i64 kd] 3)).alloc (.cells #[.int .i64 b.tag] 3)).alloc (.cells #[.slice none 0 0] 57)).alloc (.cells #[.int .i64 0] 30)).alloc (.cells (madeCells #[.int .u8 0] z) 5)).alloc (.cells #[.slice (some ⟨w.heap.size + 6, 0, none⟩) z z] 57)).heap[w.heap.size + 6]? = some (.cells (madeCells #[.int .u8 0] z) 5 (0, 0))) := ((below_made (((((((w.alloc (.cells #[.pointer (some ⟨h.g, 0, none⟩)] 26)).alloc (.cells #[.int .i64 (a : Int)] 3)).alloc (.cells #[.int .i64 kd] 3)).alloc (.cells #[.int .i64 b.tag] 3)).alloc (.cells #[.slice none 0 0] 57)).alloc (.cells #[.int .i64 0] 30)).alloc (.cells (madeCells #[.int .u8 0] z) 5)) (.cells #[.slice (some ⟨w.heap.size + 6, 0, none⟩) z z] 57)).block _ (by simp)).trans HG7.out
  have HZ7 : Hid (((((((((w.alloc (.cells #[.pointer (some ⟨h.g, 0, none⟩)] 26)).alloc (.cells #[.int .i64 (a : Int)] 3)).alloc (.cells #[.int .i64 kd] 3)).alloc (.cells #[.int .i64 b.tag] 3)).alloc (.cells #[.slice none 0 0] 57)).alloc (.cells #[.int .i64 0] 30)).alloc (.cells (madeCells #[.int .u8 0] z) 5)).alloc (.cells #[.slice (some ⟨w.heap.size + 6, 0, none⟩) z z] 57)).heap.size = w.heap.size + 8) := by unfold Hid; simp
  clear hm6 hm7 HG7
  have cv := HCv.out _ HV7.out
  refine (callsIn_wide (n := 6)).1 ?_
  refine callsIn_of_wp_marks Tryz.func108 rfl trivial ?_ rfl
  simp only [Tryz.ntmps108, List.size_toArray, List.length_cons, List.length_nil, Nat.reduceAdd, Nat.reduceSub, Array.replicate_succ, Array.replicate_zero, List.push_toArray, List.append_toArray, List.nil_append, List.cons_append]
  refine wpIn_wide.2 ?_
  go_wp2_with fail
  refine (HSz.out _).mono ?_
  rintro e w1 ⟨rfl, rfl⟩
  go_wp2_with (refine wpList_make_row rfl (.tmp 17) (.tmp 17) 57 rfl 5 i0 (.int .u8 0) 1 Tryz.underlying57 hi hz0 hz1 hz2 .i64 .i64 z rfl rfl (by omega) (by omega) ?_)
  refine (HFa.out M.lk _ (HMem.out _ HV7.out)).mono ?_
  rintro e w2 ⟨rfl, hb2⟩
  have HV8 := Lib.hid (HBB.out _ _ HV7.out hb2)
  have hz7 := HZ7.out
  have hz2 := hb2.size
  have hG9 := (hb2.block (w.heap.size + 6) (by omega)).trans HG8.out
  have hL9 := (hb2.block (w.heap.size + 7) (by omega)).trans HL7.out
  have hFb := heap_alloc_new w2 (.cells #[.int .i64 ft] 3)
  have hb9 := below_made w2 (.cells #[.int .i64 ft] 3)
  have HV9 := Lib.hid (HBB.out _ _ HV8.out hb9)
  obtain ⟨W9, hW9⟩ : ∃ W9, W9 = w2.alloc (.cells #[.int .i64 ft] 3) := ⟨_, rfl⟩
  have hz9 : W9.heap.size = w2.heap.size + 1 := by rw [hW9]; simp
  rw [← hW9] at hFb HV9 hb9
  have HG9 := Lib.hid ((hb9.block (w.heap.size + 6) (by omega)).trans hG9)
  have HL9 := Lib.hid ((hb9.block (w.heap.size + 7) (by omega)).trans hL9)
  have HW9 := Lib.hid hW9
  clear hb2 hb9 hG9 hL9 HG8 HL7 HX HV7 HV8 HZ7 ct cv hW9
  have ct := HCt.out _ HV9.out
  rw [HW9.out] at ct
  have hsz2 : w.heap.size + 8 ≤ w2.heap.size := by omega
  clear hz7 hz2
  go_wp2_with fail
  rw [← HW9.out] at ct ⊢
  refine (HFs.out _).mono ?_
  rintro e w5 ⟨rfl, rfl⟩
  have hb5 := below_made W9 (.cells #[.int .i64 b.tag] 3)
  have HV5 := Lib.hid (HBB.out _ _ HV9.out hb5)
  have hTb := heap_alloc_new W9 (.cells #[.int .i64 b.tag] 3)
  have hL0 := HBl.out _ HV5.out
  have hBl : Blks [(w.heap.size, .cells #[.pointer (some ⟨h.g, 0, none⟩)] 26 (0, 0)), (w.heap.size + 1, .cells #[.int .i64 (a : Int)] 3 (0, 0)), (w.heap.size + 2, .cells #[.int .i64 kd] 3 (0, 0)), (w.heap.size + 3, .cells #[.int .i64 b.tag] 3 (0, 0)), (w.heap.size + 4, .cells #[.slice none 0 0] 57 (0, 0)), (w.heap.size + 5, .cells #[.int .i64 0] 30 (0, 0)), (w2.heap.size, .cells #[.int .i64 ft] 3 (0, 0)), (w2.heap.size + 1, .cells #[.int .i64 b.tag] 3 (0, 0))] (W9.alloc (.cells #[.int .i64 b.tag] 3)) := by
    intro p hp
    simp only [List.mem_cons, List.not_mem_nil, or_false] at hp
    rcases hp with rfl | rfl | rfl | rfl | rfl | rfl | rfl | rfl
    · exact hL0 _ (.head _)
    · exact hL0 _ (.tail _ (.head _))
    · exact hL0 _ (.tail _ (.tail _ (.head _)))
    · exact hL0 _ (.tail _ (.tail _ (.tail _ (.head _))))
    · exact hL0 _ (.tail _ (.tail _ (.tail _ (.tail _ (.head _)))))
    · exact hL0 _ (.tail _ (.tail _ (.tail _ (.tail _ (.tail _ (.head _))))))
    · exact (hb5.block _ (by simp only []; omega)).trans hFb
    · rw [← hz9]
      exact hTb
  have HBe := Lib.hid (HBel.out _ HV5.out).1
  have hz5 : (W9.alloc (.cells #[.int .i64 b.tag] 3)).heap.size = w2.heap.size + 2 := by simp [hz9]
  have HM5 := Lib.hid (HMem.out _ HV5.out)
  have hR5 : ∃ g, (w.heap.size ≤ g ∧ g ≠ w.heap.size + 7) ∧ Boxed (W9.alloc (.cells #[.int .i64 b.tag] 3)) (w.heap.size + 7) 57 (.slice (some ⟨g, 0, none⟩) z z) ∧ (W9.alloc (.cells #[.int .i64 b.tag] 3)).heap[g]? = some (.cells (vals (EL b (([] : List (FT b.tag)).map FT.f))).toArray 5 (0, 0)) := by
    refine ⟨w.heap.size + 6, ⟨by omega, by omega⟩, (hb5.block _ (by omega)).trans HL9.out, ?_⟩
    rw [List.map_nil, HE0.out, ← zeros_cells]
    exact (hb5.block _ (by omega)).trans HG9.out
  have hTl := HOrd.out
  clear hb5 hTb hFb ct hL0
  go_wp2_with fail
  rw [hz9] at *
  obtain ⟨W0, hW0⟩ : ∃ W0, W0 = W9.alloc (.cells #[.int .i64 b.tag] 3) := ⟨_, rfl⟩
  rw [← hW0] at hBl HBe hz5 HV5 HM5 hR5 ⊢
  have HT0 := Lib.hid (HTab.out _ (Fr.of_below HBe.out))
  clear hW0 HV9 HG9 HL9 HV5
  refine wpIn_wide (n := 6) |>.1 ?_
  obtain ⟨LL, hLL⟩ : ∃ LL : List (Nat × Obj), LL = [(w.heap.size, .cells #[.pointer (some ⟨h.g, 0, none⟩)] 26 (0, 0)), (w.heap.size + 1, .cells #[.int .i64 (a : Int)] 3 (0, 0)), (w.heap.size + 2, .cells #[.int .i64 kd] 3 (0, 0)), (w.heap.size + 3, .cells #[.int .i64 b.tag] 3 (0, 0)), (w.heap.size + 4, .cells #[.slice none 0 0] 57 (0, 0)), (w.heap.size + 5, .cells #[.int .i64 0] 30 (0, 0)), (w2.heap.size, .cells #[.int .i64 ft] 3 (0, 0)), (w2.heap.size + 1, .cells #[.int .i64 b.tag] 3 (0, 0))] := ⟨_, rfl⟩
  rw [← hLL] at hBl
  have hLc : (LL.all fun p => p.2.isCells) = true := by rw [hLL]; rfl
  have HLs : Hid (∀ p ∈ LL, w.heap.size ≤ p.1 ∧ p.1 ≠ w.heap.size + 7) := fun p hp => by
    rw [hLL] at hp
    simp only [List.mem_cons, List.not_mem_nil, or_false] at hp
    rcases hp with rfl | rfl | rfl | rfl | rfl | rfl | rfl | rfl <;> (simp only []; omega)
  have HLL := Lib.hid hLL
  have hT0 : W0.cell? ⟨w2.heap.size + 1, 0, none⟩ = some (.int .i64 b.tag) := (cell_block (hBl _ (by rw [hLL]; exact (.tail _ (.tail _ (.tail _ (.tail _ (.tail _ (.tail _ (.tail _ (.head _)))))))))) 0).trans rfl
  clear hLL
  refine wpIn_rangeFunc_ownH rfl (by omega) (gf := 245) (lb := #[.pointer (some ⟨w2.heap.size + 1, 0, none⟩)]) rfl trivial (enters_of Tryz.func245 (by kernel_rfl) rfl)
    (HFSt.out 5 (by omega) (w2.heap.size + 1) W0 (by omega) hT0 HT0.out) (fun h k => h.trans k) (KpS.put (SF.lt HT0.out (by omega))) (Below.refl _ _) (fun _ => rfl)
    (fun pre W => (∃ lk, MemC h W (.pointer (some ⟨h.g, 0, none⟩)) { M with lk := lk }) ∧ (∃ g, (w.heap.size ≤ g ∧ g ≠ w.heap.size + 7) ∧ Boxed W (w.heap.size + 7) 57 (.slice (some ⟨g, 0, none⟩) z z) ∧ W.heap[g]? = some (.cells (vals (EL b (pre.map FT.f))).toArray 5 (0, 0))) ∧ Blks LL W ∧ Fr w.heap.size (blkM h) w W)
    (fun _ _ _ => False)
    (OwnFrom.and (Own.from (own_ex fun lk => memC_own h _ (fun _ : List (FT b.tag) => { M with lk := lk })) _) (OwnFrom.and (Own.from (own_ex fun g => own_and (own_pure _) (own_and (boxed_own (w.heap.size + 7) 57 (fun _ : List (FT b.tag) => .slice (some ⟨g, 0, none⟩) z z)) (blk_own' g (fun pre : List (FT b.tag) => .cells (vals (EL b (pre.map FT.f))).toArray 5 (0, 0)) (fun _ => rfl)))) _) (OwnFrom.and (Own.from (blks_own LL hLc) _) (ownFrom_fr _ (Nat.le_refl _) (by omega)))))
    (fun _ _ _ _ _ hs _ _ => hs)
    ⟨⟨_, HM5.out⟩, hR5, hBl, Fr.of_below HBe.out⟩
    (fun f a' W => a' = { tmps := #[.pointer (some ⟨h.g, 0, none⟩), .int .i64 (a : Int), .int .i64 kd, .int .i64 b.tag, .pointer (some ⟨w.heap.size, 0, none⟩), .pointer (some ⟨w.heap.size + 1, 0, none⟩), .pointer (some ⟨w.heap.size + 2, 0, none⟩), .pointer (some ⟨w.heap.size + 3, 0, none⟩), .pointer (some ⟨w.heap.size + 4, 0, none⟩), .pointer (some ⟨w.heap.size + 5, 0, none⟩), .pointer (some ⟨w.heap.size + 7, 0, none⟩), .pointer (some ⟨w2.heap.size, 0, none⟩), .int .i64 (f.f : Int), undef, undef, undef, .int .i64 b.tag, .int .i64 (z : Int), .slice (some ⟨w.heap.size + 6, 0, none⟩) z z, .pointer (some ⟨h.g, 0, none⟩), .int .i64 ft, .int .i64 b.tag, .func (.func 245) #[] #[.pointer (some ⟨w2.heap.size + 1, 0, none⟩)], .int .i64 (f.f : Int), undef, undef, undef, undef, undef, undef, undef, undef, undef, undef, undef, undef, undef, undef, undef, undef, undef, undef, undef, undef, undef, undef, undef, undef, undef, undef], defers := [] })
    (fun f a' _ X Y row hs hg hr => hs)
    ?assign ?body ?done ?stop
  case assign =>
    rintro l pre f W K hi hK
    gi_wp2
    exact hK _ _ (KeepsFrom.refl _ _) (KpS.refl _ _) hi rfl
  case body =>
    rintro l pre f a' W hl ⟨rr, hr⟩ ⟨⟨lk, hmc⟩, ⟨g, ⟨hg1, hg2⟩, bL, bG⟩, hbl, hfr⟩ rfl hlt
    have HTW := Lib.hid (HTab.out _ hfr)
    have HW1 := Lib.hid (HWh.out (f.f : Int) W HTW.out)
    have HL1 := Lib.hid (fun V (hv : MemC h V (.pointer (some ⟨h.g, 0, none⟩)) { M with lk := lk }) => HLd.out f lk V hv)
    have HS1 := Lib.hid (fun V (hv : V.heap[g]? = some (.cells (vals (EL b (pre.map FT.f))).toArray 5 (0, 0))) => HSt.out pre f g V hv)
    have HC0 : Hid (∀ V, Blks LL V → V.cell? ⟨w.heap.size, 0, none⟩ = some (.pointer (some ⟨h.g, 0, none⟩)) ∧ V.cell? ⟨w.heap.size + 1, 0, none⟩ = some (.int .i64 (a : Int)) ∧ V.cell? ⟨w.heap.size + 2, 0, none⟩ = some (.int .i64 kd) ∧ V.cell? ⟨w.heap.size + 3, 0, none⟩ = some (.int .i64 b.tag) ∧ V.cell? ⟨w2.heap.size, 0, none⟩ = some (.int .i64 ft)) := fun V hv => by
      rw [HLL.out] at hv
      exact ⟨(cell_block (hv _ (.head _)) 0).trans rfl, (cell_block (hv _ (.tail _ (.head _))) 0).trans rfl, (cell_block (hv _ (.tail _ (.tail _ (.head _)))) 0).trans rfl, (cell_block (hv _ (.tail _ (.tail _ (.tail _ (.head _))))) 0).trans rfl, (cell_block (hv _ (.tail _ (.tail _ (.tail _ (.tail _ (.tail _ (.tail _ (.head _)))))))) 0).trans rfl⟩
    have HFr : Hid (∀ V U, Below W.heap.size W V → Fr V.heap.size (blkM h) V U → Fr W.heap.size (blkM h) W U) := fun V U h1 h2 => (Fr.of_below h1).trans (h2.mono h1.size (fun _ _ h => h))
    have HBf : Hid (∀ U, Fr W.heap.size (blkM h) W U → Blks LL U) := fun U h1 => hbl.fr h1 (fun p hp => ⟨(Array.getElem?_eq_some_iff.1 (hbl p hp)).1, fun hk => by have := HMl.out _ hk; have := HLs.out p hp; omega⟩)
    have HGf : Hid (∀ U, Fr W.heap.size (blkM h) W U → U.heap[g]? = some (.cells (vals (EL b (pre.map FT.f))).toArray 5 (0, 0))) := fun U h1 => (h1.block g (Array.getElem?_eq_some_iff.1 bG).1 (fun hk => by have := HMl.out _ hk; omega)).trans bG
    have HLf : Hid (∀ U, Fr W.heap.size (blkM h) W U → Boxed U (w.heap.size + 7) 57 (.slice (some ⟨g, 0, none⟩) z z)) := fun U h1 => (h1.block (w.heap.size + 7) bL.lt (fun hk => by have := HMl.out _ hk; omega)).trans bL
    obtain ⟨d0, d1, d2, d3, d4⟩ := HC0.out _ hbl
    obtain ⟨F, hF⟩ : ∃ F, F = f.f := ⟨_, rfl⟩
    obtain ⟨x, y, hxy⟩ : ∃ x y, wh (f.f : Int) = (x, y) := ⟨_, _, rfl⟩
    obtain ⟨nv, hnv⟩ : ∃ nv, nv = nf f.f := ⟨_, rfl⟩
    rw [hxy] at HW1 HS1 HL1
    rw [← hnv] at HS1 HL1
    rw [← hF] at HW1 ⊢
    clear hF hxy hnv
    gi_wp2_with (refine ⟨trivial, ?_⟩; gi_at_call 145; refine (CallsIn.inRound l (callsIn_wide.2 HW1.out)).mono ?_; rintro e wq ⟨rfl, hb1⟩; obtain ⟨e0, e1, e2, e3, e4⟩ := HC0.out _ (HBf.out _ (HFr.out _ _ hb1 (Fr.refl _ _ _))); clear d0 d1 d2 d3 d4)
    refine ⟨trivial, ?_⟩
    refine (CallsIn.inRound l (callsIn_wide.2 (HL1.out wq (hmc.below hb1)))).mono ?_
    rintro e w4 ⟨lk4, hq4⟩
    obtain ⟨rfl, hqm, hqf0⟩ := hq4
    have hqf := HFr.out _ _ hb1 hqf0
    have HC2 : Hid (∀ V U, Fr W.heap.size (blkM h) W V → Below V.heap.size V U → Fr W.heap.size (blkM h) W U) := fun V U h1 h2 => h1.below h2 h1.size
    have HC3 : Hid (∀ V, Fr W.heap.size (blkM h) W V → V.cell? ⟨w.heap.size, 0, none⟩ = some (.pointer (some ⟨h.g, 0, none⟩)) ∧ V.cell? ⟨w2.heap.size, 0, none⟩ = some (.int .i64 ft)) := fun V h1 => by
      have q := HC0.out _ (HBf.out _ h1)
      exact ⟨q.1, q.2.2.2.2⟩
    have c7 := HC3.out _ hqf.drew
    clear e0 e1 e2 e3 e4 hqf0
    gi_wp2_with fail
    refine wpIn_round_held (S := fun w' => w'.cell? ⟨w.heap.size, 0, none⟩ = some (.pointer (some ⟨h.g, 0, none⟩)) ∧ w'.cell? ⟨w2.heap.size, 0, none⟩ = some (.int .i64 ft)) (by kernel_rfl) (noDefer_ok (by kernel_rfl)) (by rintro ⟨a, w, h⟩; exact h) c7 (fun hHeld => ?_)
    refine wpAnyH_take (i := 0) (v := ?v0) rfl (by kernel_rfl) (by kernel_rfl) (by kernel_rfl) (fun _ _ _ h => h) (Or.inl ⟨by rfl, ?y0⟩) (by assumption) ?r0
    case y0 => (intro w hSw; (try dsimp only at hSw); obtain ⟨s1, s2⟩ := hSw; go_simp; all_goals (with_reducible rfl))
    try simp only [Act.put, List.getElem_toArray, List.getElem_cons_zero, List.setIfInBounds_toArray, List.set_cons_zero, List.set_cons_succ]
    refine wpAnyH_take (i := 2) (v := ?v2) rfl (by kernel_rfl) (by kernel_rfl) (by kernel_rfl) (fun _ _ _ h => h) (Or.inl ⟨by rfl, ?y2⟩) (by assumption) ?r2
    case y2 => (intro w hSw; (try dsimp only at hSw); obtain ⟨s1, s2⟩ := hSw; go_simp; all_goals (with_reducible rfl))
    try simp only [Act.put, List.getElem_toArray, List.getElem_cons_zero, List.getElem_cons_succ, List.setIfInBounds_toArray, List.set_cons_zero, List.set_cons_succ]
    refine wpAnyH_ready (rs := [1]) (by kernel_rfl) (by simp) ?_
    refine AllReadyH.cons rfl (fun K hK => ?_) AllReadyH.nil
    go_simp
    go_at_call 19
    refine (HFa.out _ _ (hqm.below (Below.refl _ _).drew)).mono ?_
    rintro e w5 ⟨rfl, hb5⟩
    have c5 := HC3.out _ (HC2.out _ _ hqf.drew hb5)
    go_wp2_with fail
    refine hK.out _ _ c5 (fun hHeld => ?_)
    clear hK K
    try simp only [Act.put, List.getElem_toArray, List.getElem_cons_zero, List.getElem_cons_succ, List.setIfInBounds_toArray, List.set_cons_zero, List.set_cons_succ]
    refine wpAnyH_take (i := 3) (v := ?v3) rfl (by kernel_rfl) (by kernel_rfl) (by kernel_rfl) (fun _ _ _ h => h) (Or.inl ⟨by rfl, ?y3⟩) (by assumption) ?r3
    case y3 => (intro w hSw; (try dsimp only at hSw); obtain ⟨s1, s2⟩ := hSw; go_simp; all_goals (with_reducible rfl))
    try simp only [Act.put, List.getElem_toArray, List.getElem_cons_zero, List.getElem_cons_succ, List.setIfInBounds_toArray, List.set_cons_zero, List.set_cons_succ]
    refine wpAnyH_done (by kernel_rfl) ?_ _
    have hqf5 := HC2.out _ _ hqf.drew hb5
    have m5 := (hqm.below (Below.refl _ _).drew).below hb5
    have hg5 := HGf.out _ hqf5
    have b5 := (HLf.out _ hqf5).cell
    have HQ5 := Lib.hid hqf5
    have HM6 := Lib.hid m5
    have HG5 := Lib.hid hg5
    clear hqf5 m5 hg5 hqm hqf c7 c5 hb5
    gi_wp2_with (refine ⟨trivial, ?_⟩; gi_at_call 157; refine (CallsIn.inRound l (callsIn_wide.2 (HS1.out _ HG5.out))).mono ?_; rintro e w6 ⟨rfl, hb6, hg6⟩; have l6 := (HLf.out _ (HC2.out _ _ HQ5.out hb6)).cell; have f6 := (HLf.out _ (HC2.out _ _ HQ5.out hb6)).frozen)
    have hqf6 := HC2.out _ _ HQ5.out hb6
    have hs5 := HQ5.out.size
    have hblt := bL.lt
    have hlt2 : w2.heap.size + 1 < W.heap.size := (Array.getElem?_eq_some_iff.1 (hbl _ (by rw [HLL.out]; exact (.tail _ (.tail _ (.tail _ (.tail _ (.tail _ (.tail _ (.tail _ (.head _))))))))))).1
    refine ⟨(keepsFrom_fr hqf6 (Nat.le_refl _) (fun k hB hk => by have := HMl.out k hk; omega)).trans ((KeepsOthers.setCell _ _ _).from _), KpS.setCell (KpS.fr hqf6 (fun k hk => ⟨SF.lt HTW.out hlt2 k hk, ?_⟩)) (p := ⟨w.heap.size + 7, 0, none⟩) (fun hk => ?_) _, ⟨lk4, ?_⟩, ⟨w5.heap.size, ⟨by omega, by omega⟩, (HLf.out _ hqf6).set _, ?_⟩, ?_, (hfr.trans (hqf6.mono hfr.size (fun _ _ h => h))).setCell (p := ⟨w.heap.size + 7, 0, none⟩) (.inl (by show w.heap.size ≤ w.heap.size + 7; omega)) _⟩
    · intro hbk
      rcases hk with e | e | e
      · rw [e] at hbk
        have := HMl.out _ hbk
        omega
      · rw [e] at hbk
        exact hTl.2.2.1 hbk
      · rw [e] at hbk
        exact hTl.2.2.2 hbk
    · rcases hk with e | e | e
      · exact absurd (show w.heap.size + 7 = w2.heap.size + 1 from e) (by omega)
      · exact absurd (show w.heap.size + 7 = 3 from e) (by omega)
      · exact absurd (show w.heap.size + 7 = 5 from e) (by omega)
    · have hf1 : Fr (w.heap.size + 7) (fun _ => False) w6 (w6.setCell ⟨w.heap.size + 7, 0, none⟩ (.slice (some ⟨w5.heap.size, 0, none⟩) z z)) := (Fr.refl _ _ _).setCell (p := ⟨w.heap.size + 7, 0, none⟩) (.inl (Nat.le_refl _)) _
      exact (HM6.out.below hb6).stay hf1 (fun k hk => ⟨by have := HMl.out k hk; omega, fun h => h⟩)
    · exact (Below.heap_setCell w6 ⟨w.heap.size + 7, 0, none⟩ _ w5.heap.size (by show w5.heap.size ≠ w.heap.size + 7; omega)).trans hg6
    · intro p hp
      exact (Below.heap_setCell w6 ⟨w.heap.size + 7, 0, none⟩ _ p.1 (HLs.out p hp).2).trans (HBf.out _ hqf6 p hp)
  case done =>
    rintro D ys W hD rfl ⟨⟨lk, hmc⟩, ⟨g, ⟨hg1, hg2⟩, bL, bG⟩, hbl, hfr⟩ hK
    have hbl2 := hbl
    rw [HLL.out] at hbl2
    have b4 := hbl2 _ (.tail _ (.tail _ (.tail _ (.tail _ (.head _)))))
    have b5 := hbl2 _ (.tail _ (.tail _ (.tail _ (.tail _ (.tail _ (.head _))))))
    have cS4 : W.cell? ⟨w.heap.size + 4, 0, none⟩ = some (.slice none 0 0) := (cell_block b4 0).trans rfl
    have fS4 : W.frozen? ⟨w.heap.size + 4, 0, none⟩ = false := frozen_block b4 0
    have cS5 : W.cell? ⟨w.heap.size + 5, 0, none⟩ = some (.int .i64 0) := (cell_block b5 0).trans rfl
    have fS5 : W.frozen? ⟨w.heap.size + 5, 0, none⟩ = false := frozen_block b5 0
    have cL := bL.cell
    obtain ⟨SLv, hSLv⟩ : ∃ SLv, SLv = Value.slice (some ⟨g, 0, none⟩) z z := ⟨_, rfl⟩
    clear hbl2
    go_wp2
    rw [← hSLv]
    have k4 := (KeepsOthers.setCell W ⟨w.heap.size + 4, 0, none⟩ SLv).same D _ hK rfl
    have hK' := (KeepsOthers.setCell (W.setCell ⟨w.heap.size + 4, 0, none⟩ SLv) ⟨w.heap.size + 5, 0, none⟩ (.int .i64 0)).same D _ k4 rfl
    refine ⟨by simp, .inl ⟨_, _, rfl, run_takeDeferred hK', ?_⟩⟩
    have n4 := World.cell?_setCell_same' W ⟨w.heap.size + 4, 0, none⟩ SLv (by rw [cS4]; rfl)
    have o4 : ((W.setCell ⟨w.heap.size + 4, 0, none⟩ SLv).setCell ⟨w.heap.size + 5, 0, none⟩ (.int .i64 0)).cell? ⟨w.heap.size + 4, 0, none⟩ = some SLv := (World.cell?_setCell_other _ _ _ _ (by simp)).trans n4
    have n5 := World.cell?_setCell_same' (W.setCell ⟨w.heap.size + 4, 0, none⟩ SLv) ⟨w.heap.size + 5, 0, none⟩ (.int .i64 0) (by rw [World.cell?_setCell_other _ _ _ _ (by simp), cS5]; rfl)
    have q4 := cell_kept o4 (grownBy_putObj' _ D (.deferred none)) (fun r e => by cases e; exact ⟨_, hK', rfl⟩)
    have q5 := cell_kept n5 (grownBy_putObj' _ D (.deferred none)) (fun r e => by cases e; exact ⟨_, hK', rfl⟩)
    have hf1 : Fr (w.heap.size + 4) (fun _ => False) W ((W.setCell ⟨w.heap.size + 4, 0, none⟩ SLv).setCell ⟨w.heap.size + 5, 0, none⟩ (.int .i64 0)) := ((Fr.refl _ _ _).setCell (p := ⟨w.heap.size + 4, 0, none⟩) (.inl (Nat.le_refl _)) _).setCell (p := ⟨w.heap.size + 5, 0, none⟩) (.inl (by show w.heap.size + 4 ≤ w.heap.size + 5; omega)) _
    have m1 := hmc.stay hf1 (fun k hk => ⟨by have := HMl.out k hk; omega, fun h => h⟩)
    have m2 := (memC_own h _ (fun _ : Unit => { M with lk := lk })) () _ _ _ m1 (grownBy_putObj' _ D (.deferred none)) (fun r e => by cases e; exact ⟨_, hK', rfl⟩)
    have hf2 : Fr w.heap.size (blkM h) w _ := ((hfr.setCell (p := ⟨w.heap.size + 4, 0, none⟩) (.inl (by show w.heap.size ≤ w.heap.size + 4; omega)) SLv).setCell (p := ⟨w.heap.size + 5, 0, none⟩) (.inl (by show w.heap.size ≤ w.heap.size + 5; omega)) (.int .i64 0)).trans (Fr.of_grown (grownBy_putObj' _ D (.deferred none)) (by simp; exact hfr.size) (fun k e => by cases e; exact .inl (by omega)))
    have hgne : g ≠ w.heap.size + 4 ∧ g ≠ w.heap.size + 5 := by
      rw [HLL.out] at hbl
      constructor
      · rintro rfl
        rw [b4] at bG
        injection bG with bG
        injection bG with bG
        exact absurd (congrArg Array.size bG) (by rw [flT_map, HEnd.out]; simp [vals, HEl.out]; omega)
      · rintro rfl
        rw [b5] at bG
        injection bG with bG
        injection bG with bG
        exact absurd (congrArg Array.size bG) (by rw [flT_map, HEnd.out]; simp [vals, HEl.out]; omega)
    have hg3 : ((W.setCell ⟨w.heap.size + 4, 0, none⟩ SLv).setCell ⟨w.heap.size + 5, 0, none⟩ (.int .i64 0)).heap[g]? = some (.cells (vals (encL b)).toArray 5 (0, 0)) := by
      rw [flT_map, HEnd.out] at bG
      exact (Below.heap_setCell _ ⟨w.heap.size + 5, 0, none⟩ _ g hgne.2).trans ((Below.heap_setCell _ ⟨w.heap.size + 4, 0, none⟩ _ g hgne.1).trans bG)
    rw [HEl.out]
    refine ⟨.tuple #[SLv, .int .i64 0], ?_, g, ⟨lk, by rw [hSLv], m2, hf2⟩, hg1, grown_block hg3 rfl (grownBy_putObj' _ D (.deferred none)) (fun r e => by cases e; exact ⟨_, hK', rfl⟩)⟩
    simp [results, Tryz.f108, go_sem, q4, q5]
  case stop =>
    rintro D c pre W _ _ h _
    exact h.elim
end Go.Proofs.YtjjfihoplkddfaaGreatDoor.Hea

namespace Go.Proofs.YtjjfihoplkddfaaGreatDoor.Hea
open Go.RowKit Num
open Mem (Mm MemC MRet Hm rd blkM)
set_option linter.unusedVariables false

set_option maxRecDepth 100000 in
set_option maxHeartbeats 4000000 in
theorem get_any (h : Hm) (v : Value) (M : Mm) (a : Nat) (b : Blk) (w : World) (ht : Tab w) (hm : MemC h w v M) (hb : b.Ok) (hr : RightP b) (hro : Room M a b.tag) (hpart : (M.l.drop a).take (encL b).length = encL b) :
    Calls Tryz.prog 32 #[v, .int .i64 (a : Int)] w fun e w' => ∃ lk, MRet h w v { M with lk := lk } (.tuple #[b.agg, .int .i64 0]) e w' := by
  have htg := right_tag hr
  have hsz := sz_bd htg
  have hel := (dec_enc hb hr).2
  have hbl0 := below_made w (.cells (cellsA Blk.zero) 68)
  have hblk := heap_alloc_new w (.cells (cellsA Blk.zero) 68)
  have h0 : M.l.getD a 0 = b.tag := by
    have h1 : ((M.l.drop a).take (encL b).length).getD 0 0 = M.l.getD a 0 := by rw [take_getD _ _ _ (by omega), drop_getD, Nat.add_zero]
    rw [← h1, hpart]
    rfl
  have hby : ∀ i, 0 ≤ (encL b).getD i 0 ∧ (encL b).getD i 0 < 256 := fun i => by
    rw [← hpart]
    have hbM := hm.ar.2.2.2.2.1
    by_cases hi : i < (encL b).length
    · rw [take_getD _ _ _ hi, drop_getD]
      exact hbM _
    · rw [hpart]
      simp [List.getD, List.getElem?_eq_none (show (encL b).length ≤ i by omega)]
  have hkd : kdF b.tag = 6 ∨ kdF b.tag = 5 := by unfold kdF; split <;> simp
  have HMade := Lib.hid (hmade_any h v M _ (hm.below hbl0))
  have HK := Lib.hid (fun W (hw : MemC h W v M) => kindOf_room h v M a b.tag W hw hro (fun _ => h0))
  have HTag := Lib.hid (fun W => isTag_any b.tag W)
  rw [show decide (0 ≤ b.tag ∧ b.tag ≤ 2) = true from decide_eq_true htg] at HTag
  have HGa := Lib.hid (fun lk W (hT : Tab W) (hw : MemC h W v { M with lk := lk }) => gather_any h v { M with lk := lk } a b W hT hw hb hr (room_lk hro M.l lk) hpart)
  have hde : ∀ (g : Nat) (W : World), Tab W → W.heap[g]? = some (.cells (vals (encL b)).toArray 5 (0, 0)) → Calls Tryz.prog 109 #[.slice (some ⟨g, 0, none⟩) (encL b).length (encL b).length] W fun e w' => e = .returned (.tuple #[b.agg, .int .i64 0]) ∧ Below W.heap.size W w' := fun g W hT hg => by
    have := decode_any _ (encL b) W hT (row_of_block hg hby (by omega)) (by omega)
    rw [dec_enc0 hb hr] at this
    exact this
  have HDe := Lib.hid hde
  have HTab := Lib.hid (fun W (hf : Fr w.heap.size (blkM h) w W) => ht.fr hm hf)
  have HMl := Lib.hid hm.lt
  have HM := Lib.hid hm
  have HCe : Hid (∀ g (W : World), W.heap[g]? = some (.cells (vals (encL b)).toArray 5 (0, 0)) → W.cell? ⟨g, 0, none⟩ = some (.int .u8 b.tag)) := fun g W hg => by
    rw [cell_block hg, List.getElem?_toArray, vals_get _ _ (by omega)]
    rfl
  obtain ⟨z, hz⟩ : ∃ z, z = (encL b).length := ⟨_, rfl⟩
  have hz1 : 1 ≤ z := by omega
  rw [← hz] at HGa HDe
  obtain ⟨kd, hk⟩ : ∃ kd, kd = kdF b.tag := ⟨_, rfl⟩
  rw [← hk] at HK HGa hkd
  have HBlk := Lib.hid hblk
  have HBl0 := Lib.hid hbl0
  have hw0 : wrap64 b.tag = b.tag := w64 htg.1 (by omega)
  have hne : (b.tag != b.tag) = false := by simp
  unfold Blk.agg at HDe ⊢
  unfold cellsA Blk.zero at HMade
  obtain ⟨tg, htge⟩ : ∃ tg, tg = b.tag := ⟨_, rfl⟩
  clear ht hm hb hr hro hpart hsz hel hbl0 hblk h0 hby hde hz hk htg htge tg
  rcases hkd with rfl | rfl
  all_goals
    go_enter Tryz.func32, Tryz.ntmps32
    go_wp2_with fail
    refine HMade.out.mono ?_
    rintro e w1 ⟨rfl, hb1⟩
    have hb01 : Below w.heap.size w w1 := HBl0.out.trans (hb1.mono HBl0.out.size)
    have HB1 := Lib.hid hb01
    have HN1 := Lib.hid ((hb1.block w.heap.size (by simp)).trans HBlk.out)
    clear hb1 hb01
    go_wp2_with fail
    refine (HK.out _ (HM.out.below HB1.out)).mono ?_
    rintro e w2 ⟨lk1, hq1⟩
    obtain ⟨rfl, hm2, hf2⟩ := hq1
    have hf02 : Fr w.heap.size (blkM h) w w2 := (Fr.of_below HB1.out).trans (hf2.mono HB1.out.size (fun _ _ h => h))
    have HF2 := Lib.hid hf02
    have HM2 := Lib.hid hm2
    have HN2 := Lib.hid ((hf2.block w.heap.size (Array.getElem?_eq_some_iff.1 HN1.out).1 (fun hk => by have := HMl.out _ hk; omega)).trans HN1.out)
    clear hf02 hm2 hf2
    go_wp2_with fail
    refine (HTag.out _).mono ?_
    rintro e w2b ⟨rfl, rfl⟩
    go_wp2_with fail
    refine (HGa.out lk1 _ (HTab.out _ HF2.out) HM2.out).mono ?_
    rintro e w3 ⟨g, lk3, hq3, hg3, hg4⟩
    obtain ⟨rfl, hm3, hf3⟩ := hq3
    have hf03 : Fr w.heap.size (blkM h) w w3 := HF2.out.trans (hf3.mono HF2.out.size (fun _ _ h => h))
    have HF3 := Lib.hid hf03
    have HM3 := Lib.hid hm3
    have HN3 := Lib.hid ((hf3.block w.heap.size (Array.getElem?_eq_some_iff.1 HN2.out).1 (fun hk => by have := HMl.out _ hk; omega)).trans HN2.out)
    have HG3 := Lib.hid hg4
    have e0 := HCe.out g w3 hg4
    clear hf03 hm3 hf3 hg3 hg4
    go_wp2_with fail
    refine (HDe.out g _ (HTab.out _ HF3.out) HG3.out).mono ?_
    rintro e w4 ⟨rfl, hb4⟩
    have hk1 := (hb4.block w.heap.size (Array.getElem?_eq_some_iff.1 HN3.out).1).trans HN3.out
    have hf4 : Fr w.heap.size (blkM h) w w4 := HF3.out.below hb4 HF3.out.size
    have hm4 := HM3.out.below hb4
    obtain ⟨c0, c1, c2, c3, c4, c5, c6, c7, c8, c9, c10, c11⟩ := cells_of hk1
    have f := free_of hk1
    have f0 := f 0
    have f1 := f 1
    have f2 := f 2
    have f3 := f 3
    have f4 := f 4
    have f5 := f 5
    have f6 := f 6
    have f7 := f 7
    have f8 := f 8
    have f9 := f 9
    have f10 := f 10
    have f11 := f 11
    have HQ := Lib.hid (cells_of (s12_block hk1 b))
    have hfs : Fr w.heap.size (fun _ => False) w4 (S12 w4 w.heap.size b) := Fr.of_below (s12_below (Below.refl _ _) (Nat.le_refl _) b)
    have hms := hm4.stay hfs (fun k hk => ⟨HMl.out k hk, fun h => h⟩)
    have HE : Hid (MemC h (S12 w4 w.heap.size b) v { M with lk := lk3 } ∧ Fr w.heap.size (blkM h) w (S12 w4 w.heap.size b)) := ⟨hms, hf4.trans (hfs.mono (Nat.le_refl _) (fun _ _ h => h.elim))⟩
    clear hk1 hf4 hm4 f hfs hms hb4 e0
    go_wp2
    show bodyPost _ _ _ _ _ (S12 w4 w.heap.size b)
    generalize S12 w4 w.heap.size b = W at HQ HE ⊢
    obtain ⟨q0, q1, q2, q3, q4, q5, q6, q7, q8, q9, q10, q11⟩ := HQ.out
    refine bodyPost_ret (v := .tuple #[b.agg, .int .i64 0]) (by simp [results, Tryz.results32, go_sem, q0, q1, q2, q3, q4, q5, q6, q7, q8, q9, q10, q11, Blk.agg]) rfl ⟨lk3, rfl, HE.out.1, HE.out.2⟩
end Go.Proofs.YtjjfihoplkddfaaGreatDoor.Hea
