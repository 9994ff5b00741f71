/- What IndexFinds keeps: who is in, who is out; rows that grow, and one out of a row. What IndexFinds keeps, as one; who is in is found. What IndexFinds keeps: steps. -/
import Derived.Test.YtcpfnmphcndmjaaGreatDoorJ23
import Derived.Deep.RegionHeld3
namespace Go.Proofs.YtcpfnmphcndmjaaGreatDoor.Ind
open Go.RowKit Num
open Pro
open Mem (Mm MemC MRet Hm rd blkM)
open Sla (Sl St Lv pl aT pV Lo tkF Ts X0)
open Arn (wrL is64)
set_option linter.unusedVariables false
set_option maxRecDepth 100000

/-! ### Who is in, who is out -/
structure Fi (E : List Nat) (B : Nat → Bk) (K : Nat → Nat) (A C : List Rb) : Prop where
  a : ∀ c ∈ A, ∃ x : Nat, c.pos = (x : Int) ∧ x ∈ E ∧ B x = c.bk ∧ In 224 K x
  c : ∀ c ∈ C, ∃ x : Nat, c.pos = (x : Int) ∧ x ∈ E ∧ ¬ In 224 K x
  all : ∀ i, i < 224 → K i ≠ 0 → ∃ c ∈ A, c.pos = (K i : Int)
  nd : (A.map (·.pos)).Nodup
  fw : ∀ c ∈ A, c.few ∧ c.Ty
section
variable {E : List Nat} {B : Nat → Bk} {K K' : Nat → Nat} {A C : List Rb} {a k : Nat} {b c : Rb}
theorem Fi.nil (E : List Nat) (B : Nat → Bk) (h : ∀ i, i < 224 → K i = 0) : Fi E B K [] [] := ⟨fun c hc => (by cases hc), fun c hc => (by cases hc), fun i hi hk => absurd (h i hi) hk, List.nodup_nil, fun c hc => (by cases hc)⟩
theorem Fi.new (F : Fi E B K A C) (ha : a ∉ E) (b : Bk) : Fi (a :: E) (upB B a b) K A C := by
  refine ⟨fun c hc => ?_, fun c hc => ?_, F.all, F.nd, F.fw⟩
  · obtain ⟨x, h1, h2, h3, h4⟩ := F.a c hc
    exact ⟨x, h1, List.mem_cons_of_mem _ h2, by rw [upB_ne _ _ (by rintro rfl; exact ha h2)]; exact h3, h4⟩
  · obtain ⟨x, h1, h2, h3⟩ := F.c c hc
    exact ⟨x, h1, List.mem_cons_of_mem _ h2, h3⟩
theorem Fi.ins (F : Fi E B K A C) (ha : a ∉ E) (ha0 : a ≠ 0) (h0 : ∀ x ∈ E, x ≠ 0) (hf : b.few) (ht : b.Ty) (hp : is64 (a : Int)) (hin : ∀ y, y ≠ 0 → (In 224 K' y ↔ y = a ∨ In 224 K y)) : Fi (a :: E) (upB B a b.bk) K' (A ++ [{ b with pos := (a : Int) }]) C := by
  refine ⟨fun c hc => ?_, fun c hc => ?_, fun i hi hk => ?_, ?_, fun c hc => ?_⟩
  · rcases List.mem_append.1 hc with hc | hc
    · obtain ⟨x, h1, h2, h3, h4⟩ := F.a c hc
      exact ⟨x, h1, List.mem_cons_of_mem _ h2, by rw [upB_ne _ _ (by rintro rfl; exact ha h2)]; exact h3, (hin x (h0 x h2)).2 (.inr h4)⟩
    · obtain rfl := List.mem_singleton.1 hc
      exact ⟨a, rfl, .head _, upB_at _ _ _, (hin a ha0).2 (.inl rfl)⟩
  · obtain ⟨x, h1, h2, h3⟩ := F.c c hc
    refine ⟨x, h1, List.mem_cons_of_mem _ h2, fun q => ?_⟩
    rcases (hin x (h0 x h2)).1 q with rfl | q
    · exact ha h2
    · exact h3 q
  · rcases (hin _ hk).1 ⟨i, hi, rfl⟩ with q | ⟨j, hj, q⟩
    · exact ⟨_, List.mem_append_right _ (.head _), by show ((a : Nat) : Int) = _; rw [q]⟩
    · obtain ⟨c, hc, hp⟩ := F.all j hj (by rw [q]; exact hk)
      exact ⟨c, List.mem_append_left _ hc, by rw [hp, q]⟩
  · rw [List.map_append, List.nodup_append]
    refine ⟨F.nd, by simp, fun p hp q hq => ?_⟩
    obtain ⟨c, hc, rfl⟩ := List.mem_map.1 hp
    obtain rfl : q = (a : Int) := by simpa using hq
    obtain ⟨x, h1, h2, -⟩ := F.a c hc
    intro e
    have : x = a := by omega
    exact ha (this ▸ h2)
  · rcases List.mem_append.1 hc with hc | hc
    · exact F.fw c hc
    · obtain rfl := List.mem_singleton.1 hc
      exact ⟨hf, ⟨hp, ht.name, ht.typ, ht.hash, ht.lab⟩⟩
theorem getR (A : List Rb) {k : Nat} (hk : k < A.length) : A.getD k Rb.zero = A[k] := by simp [List.getD, hk]
theorem memR {A : List Rb} {k : Nat} (hk : k < A.length) : A.getD k Rb.zero ∈ A := by rw [getR A hk]; exact List.getElem_mem hk
theorem nd_erase {A : List Rb} {k : Nat} (hk : k < A.length) (h : (A.map (·.pos)).Nodup) {c : Rb} (hc : c ∈ A.eraseIdx k) : c ∈ A ∧ c.pos ≠ (A.getD k Rb.zero).pos := by
  refine ⟨List.mem_of_mem_eraseIdx hc, fun e => ?_⟩
  rw [List.Nodup, List.pairwise_iff_getElem] at h
  obtain ⟨j, hj, rfl⟩ := List.getElem_of_mem hc
  rw [List.length_eraseIdx_of_lt hk] at hj
  rw [getR A hk, List.getElem_eraseIdx] at e
  split at e
  · rename_i q
    exact h j k (by simp; omega) (by simp; omega) q (by simpa using e)
  · rename_i q
    exact h k (j + 1) (by simp; omega) (by simp; omega) (by omega) (by simpa using e.symm)
theorem Fi.del (F : Fi E B K A C) (hk : k < A.length) {x : Nat} (hx : (A.getD k Rb.zero).pos = (x : Int)) (h0 : ∀ x ∈ E, x ≠ 0) (hin : ∀ y, y ≠ 0 → (In 224 K' y ↔ y ≠ x ∧ In 224 K y)) : Fi E B K' (A.eraseIdx k) (C ++ [A.getD k Rb.zero]) := by
  refine ⟨fun c hc => ?_, fun c hc => ?_, fun i hi hki => ?_, ?_, fun c hc => F.fw c (List.mem_of_mem_eraseIdx hc)⟩
  · obtain ⟨g1, g2⟩ := nd_erase hk F.nd hc
    obtain ⟨y, h1, h2, h3, h4⟩ := F.a c g1
    exact ⟨y, h1, h2, h3, (hin y (h0 y h2)).2 ⟨fun e => g2 (by rw [h1, hx, e]), h4⟩⟩
  · rcases List.mem_append.1 hc with hc | hc
    · obtain ⟨y, h1, h2, h3⟩ := F.c c hc
      exact ⟨y, h1, h2, fun q => h3 ((hin y (h0 y h2)).1 q).2⟩
    · obtain rfl := List.mem_singleton.1 hc
      obtain ⟨y, h1, h2, -⟩ := F.a _ (memR hk)
      have : y = x := by omega
      subst this
      exact ⟨y, h1, h2, fun q => ((hin y (h0 y h2)).1 q).1 rfl⟩
  · obtain ⟨h1, j, hj, h2⟩ := (hin _ hki).1 ⟨i, hi, rfl⟩
    obtain ⟨c, hc, hp⟩ := F.all j hj (by rw [h2]; exact hki)
    refine ⟨c, ?_, by rw [hp, h2]⟩
    obtain ⟨m, hm, rfl⟩ := List.getElem_of_mem hc
    have hmk : m ≠ k := by
      rintro rfl
      rw [getR A hk] at hx
      omega
    rw [List.mem_iff_getElem]
    rcases Nat.lt_or_gt_of_ne hmk with q | q
    · exact ⟨m, by rw [List.length_eraseIdx_of_lt hk]; omega, by rw [List.getElem_eraseIdx, dif_pos q]⟩
    · refine ⟨m - 1, by rw [List.length_eraseIdx_of_lt hk]; omega, ?_⟩
      rw [List.getElem_eraseIdx, dif_neg (by omega)]
      congr 1
      omega
  · exact F.nd.sublist ((List.eraseIdx_sublist _ _).map _)
theorem bs_inj {s t : ByteArray} (h : bs s = bs t) : s = t := by rw [← strOfNums_bs s, h, strOfNums_bs]
/-- Who is like a block has its key, and its label. -/
theorem rb_like (hc : c.few) (hb : b.few) (h1 : c.bk.tag = b.bk.tag) (h2 : (c.bk.name : Int) = b.name) (h3 : (c.bk.typ : Int) = b.typ) (h4 : (c.bk.hash : Int) = b.hash) (h5 : b.node = true → c.bk.lab = bs b.lab) : c = { b with pos := c.pos } := by
  obtain ⟨p, nd, nm, ty, lb, hs⟩ := c
  obtain ⟨p', nd', nm', ty', lb', hs'⟩ := b
  have e1 : nd = nd' := by
    unfold Bk.tag Rb.bk at h1
    simp only at h1
    cases nd <;> cases nd' <;> simp_all
  have e2 : nm = nm' := by have : (nm : Int) = nm' := h2; omega
  have e3 : ty = ty' := by have : (ty : Int) = ty' := h3; omega
  have e4 : hs = hs' := by have : (hs : Int) = hs' := h4; omega
  have e5 : lb = lb' := by
    cases hn : nd' with
    | true => exact bs_inj (h5 hn)
    | false =>
      have q1 := hc.2 (by rw [← hn]; exact e1)
      have q2 := hb.2 hn
      simp only at q1 q2
      rw [q1, q2]
  rw [e1, e2, e3, e4, e5]
end

/-! ### Rows that grow -/
section
variable {n : Nat} {W W' : World} {u u' v v' : Value} {A A' C C' : List Rb} {h : Hm}
theorem valsR_one (L : List Rb) : ∀ x ∈ valsA encR L, x.oneCell' = true := by
  intro x hx
  unfold valsA at hx
  obtain ⟨c, hc, hx⟩ := List.mem_flatMap.1 hx
  simp [encR] at hx
  rcases hx with rfl | rfl | rfl | rfl | rfl | rfl <;> rfl
theorem grown_two {r : Option Nat} {W1 W2 : World} (h1 : W.grownBy W1 r) (h2 : W1.grownBy W2 r) : W.grownBy W2 r :=
  ⟨h2.os.trans h1.os, h2.tape.trans h1.tape, h2.output.trans h1.output, Nat.le_trans h1.size h2.size, fun i hi hr => (h2.block i (Nat.lt_of_lt_of_le hi h1.size) hr).trans (h1.block i hi hr)⟩
theorem grown_al {r : Option Nat} {o : Obj} (hg : (W.alloc o).grownBy W' r) : W.grownBy W' r := grown_two ⟨(below_made W o).os, (below_made W o).tape, (below_made W o).output, (below_made W o).size, fun k hk _ => (below_made W o).block k hk⟩ hg
theorem push_run (c : Rb) (d : OwnR n W u A) (hn : n ≤ W.heap.size) (hA : A.length ≤ 1000) :
    ∃ u' W', (Builtin.append_ #[47, 47] 47 #[u, .slice (some ⟨W.heap.size, 0, none⟩) 1 1]).run Tryz.prog (W.alloc (.cells #[.int .i64 c.pos, .bool c.node, .int .u32 (c.name : Int), .int .u16 (c.typ : Int), .string c.lab, .int .u32 (c.hash : Int)] 33)) = .ok u' W' ∧
      OwnR n W' u' (A ++ [c]) ∧ W.grownBy W' u.ownBlock ∧ (u'.ownBlock = u.ownBlock ∨ ∃ b, u'.ownBlock = some b ∧ W.heap.size ≤ b) := by
  obtain ⟨i0, hi, hz0, hz1, hz2⟩ := info_parts infoR
  have hb := below_made W (.cells #[.int .i64 c.pos, .bool c.node, .int .u32 (c.name : Int), .int .u16 (c.typ : Int), .string c.lab, .int .u32 (c.hash : Int)] 33)
  have hnew : ∀ j x, (valsA encR [c])[j]? = some x → (W.alloc (.cells #[.int .i64 c.pos, .bool c.node, .int .u32 (c.name : Int), .int .u16 (c.typ : Int), .string c.lab, .int .u32 (c.hash : Int)] 33)).cell? ((⟨W.heap.size, 0, none⟩ : Addr).add j) = some x := fun j x hx => by
    rw [Addr_add, Nat.zero_add, cell_block (heap_alloc_new W _) j, ← hx]
    simp [valsA, encR]
  obtain ⟨u', W', h1, h2, h3, -, h5⟩ := run_append_own_at (P := Tryz.prog) (w := W.alloc (.cells #[.int .i64 c.pos, .bool c.node, .int .u32 (c.name : Int), .int .u16 (c.typ : Int), .string c.lab, .int .u32 (c.hash : Int)] 33)) n 47 47 33 i0 _ 6 48 Tryz.underlying47 hi hz0 hz1 hz2 rfl (by decide) u A.length (valsA encR A) (d.below hb) ⟨W.heap.size, 0, none⟩ 1 1 (valsA encR [c]) rfl hnew (valsR_one _) (by unfold maxLen; omega) (by omega) (by rw [size_al]; omega)
  refine ⟨u', W', h1, ?_, grown_al h3, ?_⟩
  · unfold OwnR
    rw [List.length_append, show valsA encR (A ++ [c]) = valsA encR A ++ valsA encR [c] by simp [valsA]]
    exact h2
  · rcases h5 with q | q
    · exact .inl q
    · exact .inr ⟨_, q, by rw [size_al]; omega⟩
theorem cells_partR {w : World} {g off c lo m : Nat} {L : List Rb} (h : RRow w (.slice (some ⟨g, off, none⟩) L.length c) L) (hlo : lo + m ≤ L.length) :
    ∀ j u, (valsA encR ((L.drop lo).take m))[j]? = some u → w.cell? ((⟨g, off + lo * 6, none⟩ : Addr).add j) = some u := by
  intro j u hj
  have hl : ((L.drop lo).take m).length = m := by rw [List.length_take, List.length_drop]; omega
  have hj2 := (List.getElem?_eq_some_iff.1 hj).1
  rw [valsA_length encR_len, hl] at hj2
  obtain ⟨a, cap, e, -, -, h5⟩ := h
  injection e with e1 e2 e3
  obtain ⟨b, o, e4, -, hc⟩ := h5 (by rintro rfl; simp at hlo; omega)
  rw [← e1] at e4
  injection e4 with e4
  injection e4 with e5 e6
  subst e5 e6
  have hi : j / 6 < m := by omega
  have hg := valsA_get encR_len Rb.zero ((L.drop lo).take m) (j / 6) (by omega) (j % 6) (by omega)
  rw [show j / 6 * 6 + j % 6 = j by omega, hj] at hg
  have hd : ((L.drop lo).take m).getD (j / 6) Rb.zero = L.getD (lo + j / 6) Rb.zero := by
    simp [List.getD, hi]
  rw [hd] at hg
  have := hc (lo + j / 6) (by omega) (j % 6) u hg.symm
  rw [Addr_add, ← this]
  congr 2
  omega
theorem app_part {w0 : World} {g off c lo m n cp : Nat} {L X : List Rb} {ty : TypeId} (h : RRow w0 (.slice (some ⟨g, off, none⟩) L.length c) L) (hlo : lo + m ≤ L.length) (hL : L.length ≤ 1000) (hn : n ≤ 1000) (hX : X.length = n) (hb : Below w0.heap.size w0 W)
    (ho : W.ownsRow w0.heap.size 33 6 v n (valsA encR X)) (ad : Addr) (had : m = 0 ∨ ad = ⟨g, off + lo * 6, none⟩) :
    ∃ v' W', (Builtin.append_ #[47, 47] ty #[v, .slice (some ad) m cp]).run Tryz.prog W = .ok v' W' ∧
      W'.ownsRow w0.heap.size 33 6 v' (n + m) (valsA encR (X ++ (L.drop lo).take m)) ∧ Below w0.heap.size w0 W' := by
  obtain ⟨i0, hi, hz0, hz1, hz2⟩ := info_parts infoR
  have hl : ((L.drop lo).take m).length = m := by rw [List.length_take, List.length_drop]; omega
  have hc := cells_partR (ARow.mono h hb (Nat.le_refl _)) hlo
  have hnews : ∀ j u, (valsA encR ((L.drop lo).take m))[j]? = some u → W.cell? (ad.add j) = some u := by
    intro j u hj
    rcases had with q | q
    · have hj2 := (List.getElem?_eq_some_iff.1 hj).1
      rw [valsA_length encR_len, hl] at hj2
      omega
    · rw [q]; exact hc j u hj
  obtain ⟨v', W', h1, h2, h3, -, -⟩ := run_append_own_at (P := Tryz.prog) (w := W) w0.heap.size 47 ty 33 i0 _ 6 48 Tryz.underlying47 hi hz0 hz1 hz2 rfl (by decide) v n (valsA encR X) ho ad m cp (valsA encR ((L.drop lo).take m)) (by rw [valsA_length encR_len, hl]) hnews (valsR_one _) (by unfold maxLen; omega) (by omega) hb.size
  refine ⟨v', W', h1, ?_, hb.grown h3 hb.size (fun r hr => (ho.lt r hr).1)⟩
  rw [show valsA encR (X ++ (L.drop lo).take m) = valsA encR X ++ valsA encR ((L.drop lo).take m) by simp [valsA]]
  exact h2
theorem own_eraseR {b i : Nat} (hi : i < A.length) (h : W.ownsRow b 33 6 v (0 + i + (A.length - (i + 1))) (valsA encR ([] ++ (A.drop 0).take i ++ (A.drop (i + 1)).take (A.length - (i + 1))))) : OwnR b W v (A.eraseIdx i) := by
  have h1 : 0 + i + (A.length - (i + 1)) = (A.eraseIdx i).length := by rw [List.length_eraseIdx_of_lt hi]; omega
  have h2 : [] ++ (A.drop 0).take i ++ (A.drop (i + 1)).take (A.length - (i + 1)) = A.eraseIdx i := by
    have e : (A.drop (i + 1)).take (A.length - (i + 1)) = A.drop (i + 1) := List.take_of_length_le (by rw [List.length_drop]; omega)
    rw [e, List.eraseIdx_eq_take_drop_succ]
    simp
  rw [h1, h2] at h
  exact h
/-- A new row in the place of the first one. -/
theorem Ow2.anew (d : Ow2 n W u v A C) (hb : Below W.heap.size W W') (ho : OwnR W.heap.size W' u' A') (hn : n ≤ W.heap.size) : Ow2 n W' u' v A' C :=
  ⟨ho.lower hn, d.c.below hb, fun b h1 h2 => by have := ho.base b h1; have := d.c.lt b h2; omega⟩
end
end Go.Proofs.YtcpfnmphcndmjaaGreatDoor.Ind

namespace Go.Proofs.YtcpfnmphcndmjaaGreatDoor.Ind
open Go.RowKit Num
open Pro
open Mem (Mm MemC MRet Hm rd blkM)
open Sla (Sl St Lv pl aT pV Lo tkF Ts X0)
open Arn (wrL is64)
set_option linter.unusedVariables false
set_option maxRecDepth 100000

structure Fs (w0 : World) (h : Hm) (n : Nat) (T : List Sl) (E : List Nat) (B : Nat → Bk) (lb : List Int) (K : Nat → Nat) (u v : Value) (A C : List Rb) (k : Nat) (W : World) : Prop where
  d : Wi w0 h n T E B lb K W
  o : Ow2 n W u v A C
  f : Fi E B K A C
  ka : A.length ≤ k
  kc : C.length ≤ k
section
variable {h : Hm} {l lb lb' : List Int} {T T' : List Sl} {w0 w w' W W' : World} {n a x y k k' : Nat} {E : List Nat} {B : Nat → Bk} {K K' : Nat → Nat} {e : Ending} {u v u' v' : Value} {A A' C C' : List Rb} {b c : Rb}
theorem Fs.below (F : Fs w0 h n T E B lb K u v A C k W) (hb : Below W.heap.size W W') : Fs w0 h n T E B lb K u v A C k W' := ⟨F.d.below hb, F.o.below hb, F.f, F.ka, F.kc⟩
theorem Fs.next (F : Fs w0 h n T E B lb K u v A C k W) (hk : k ≤ k') : Fs w0 h n T E B lb K u v A C k' W := ⟨F.d, F.o, F.f, Nat.le_trans F.ka hk, Nat.le_trans F.kc hk⟩
theorem Fs.same (F : Fs w0 h n T E B lb K u v A C k W) (hd : Wi w0 h n T' E B lb' K W') (hf : Fr W.heap.size (blkM h) W W') : Fs w0 h n T' E B lb' K u v A C k W' := ⟨hd, F.o.fr hf F.d.lo, F.f, F.ka, F.kc⟩
theorem Wi.e0 (d : Wi w0 h n T E B lb K W) : ∀ x ∈ E, x ≠ 0 := fun x hx => by have := d.facts hx; omega
/-- A new block that isn't in. -/
theorem Fs.new (F : Fs w0 h n T E B lb K u v A C k W) (ha : a ∉ E) (b : Bk) (hd : Wi w0 h n T' (a :: E) (upB B a b) lb' K W') (hf : Fr W.heap.size (blkM h) W W') : Fs w0 h n T' (a :: E) (upB B a b) lb' K u v A C k W' := ⟨hd, F.o.fr hf F.d.lo, F.f.new ha b, F.ka, F.kc⟩
theorem Fs.kne (F : Fs w0 h n T E B lb K u v A C k W) (ha : a ∉ E) (h0 : a ≠ 0) : ∀ i, i < 224 → K i ≠ a := fun i hi => (F.d.kne ha i hi).resolve_right h0
theorem in_ins (d : Wi w0 h n T E B lb K W) (hx : x ≠ 0) (hn : ∀ i, i < 224 → K i ≠ x) (hz : ∃ z, z < 224 ∧ K z = 0) : ∀ y, y ≠ 0 → (In 224 (insF 224 (hmB B) K x) y ↔ y = x ∨ In 224 K y) := by
  obtain ⟨z, hz, hk⟩ := hz
  exact (ok_ins d.ok hx (hom_lt _) hn hz hk).2
/-- Where the k-th block lies. -/
theorem Fs.kth (F : Fs w0 h n T E B lb K u v A C k W) {i : Nat} (hi : i < A.length) : ∃ x : Nat, (A.getD i Rb.zero).pos = (x : Int) ∧ x ∈ E ∧ B x = (A.getD i Rb.zero).bk ∧ In 224 K x := F.f.a _ (memR hi)
theorem Fs.delete (F : Fs w0 h n T E B lb K u v A C k W) {i : Nat} (hi : i < A.length) :
    Calls Tryz.prog 11 #[pV h, .int .i64 (A.getD i Rb.zero).pos] W fun e W' => e = .returned (.int .i64 0) ∧ Fr W.heap.size (blkM h) W W' ∧ ∃ K', Wi w0 h n T E B lb K' W' ∧ Fi E B K' (A.eraseIdx i) (C ++ [A.getD i Rb.zero]) := by
  obtain ⟨x, h1, h2, -, h4⟩ := F.kth hi
  rw [h1]
  refine (F.d.delete h2).mono ?_
  rintro e W' ⟨hf, ⟨he, hn, -⟩ | ⟨j, he, hj, hkj, hW⟩⟩
  · obtain ⟨j, hj, hk⟩ := h4
    exact absurd hk (hn j hj)
  · have hx0 := F.d.e0 x h2
    have := (ok_del F.d.ok hj (by omega)).2
    rw [hkj] at this
    exact ⟨he, hf, _, hW, F.f.del hi h1 F.d.e0 this⟩
/-- Like a block that is in. -/
def Lk (A : List Rb) (b : Rb) (p : Nat) : Prop := (∃ c ∈ A, c.pos = (p : Int)) ∧ ∀ c ∈ A, c.pos = (p : Int) → c = { b with pos := (p : Int) }
theorem Fs.like (F : Fs w0 h n T E B lb K u v A C k W) (hb : b ∈ A) {P : Nat → Bool} (hP : ∀ c ∈ A, ∀ x : Nat, B x = c.bk → (P x = true ↔ (c.bk.tag = b.bk.tag ∧ (c.bk.name : Int) = b.name ∧ (c.bk.typ : Int) = b.typ ∧ (c.bk.hash : Int) = b.hash ∧ (b.node = true → c.bk.lab = bs b.lab)))) :
    ∃ p, bkP K (slF 224 (hmB B) K (b.hash % 224) P) = (p, true) ∧ Lk A b p := by
  obtain ⟨x, h1, h2, h3, i, hi, hk⟩ := F.f.a b hb
  have hx0 := F.d.e0 x h2
  have hPx : P (K i) = true := by rw [hk]; exact (hP b hb x h3).2 ⟨rfl, rfl, rfl, rfl, fun _ => rfl⟩
  have hh : hmB B (K i) = b.hash % 224 := by rw [hk]; unfold hmB hom; rw [h3]; rfl
  obtain ⟨q, hq⟩ := slF_found F.d.ok hi (by omega) hPx
  obtain ⟨h4, h5, h6⟩ := slF_some (F.d.ok.home hi (by omega)) hq
  rw [hh] at hq
  rw [hq]
  refine ⟨K q, rfl, F.f.all q h4 h5, fun c hc hp => ?_⟩
  obtain ⟨y, g1, g2, g3, -⟩ := F.f.a c hc
  have hy : y = K q := by omega
  subst hy
  obtain ⟨r1, r2, r3, r4, r5⟩ := (hP c hc _ g3).1 h6
  rw [← hp]
  exact rb_like (F.f.fw c hc).1 (F.f.fw b hb).1 r1 r2 r3 r4 r5
theorem Fs.entry (F : Fs w0 h n T E B lb K u v A C k W) (hb : b ∈ A) (hn : b.node = false) :
    Calls Tryz.prog 24 #[pV h, .int .u32 (b.name : Int), .int .u16 (b.typ : Int), .int .u32 (b.hash : Int)] W fun e W' => ∃ p : Nat, e = .returned (.tuple #[.int .i64 (p : Int), .bool true]) ∧ Lk A b p ∧ Fs w0 h n T E B lb K u v A C k W' ∧ Fr W.heap.size (blkM h) W W' := by
  have ht : b.bk.tag = 1 := by unfold Bk.tag Rb.bk; simp only; rw [hn]; rfl
  obtain ⟨p, h1, h2⟩ := F.like (P := keyB (fx h T E B lb) 1 (b.name : Int) (b.typ : Int) (b.hash : Int)) hb (fun c hc x hx => by
    unfold keyB
    rw [show (fx h T E B lb).B x = c.bk from hx, ht, decide_eq_true_iff]
    exact ⟨fun q => ⟨q.1, q.2.1, q.2.2.1, q.2.2.2, fun z => by rw [hn] at z; cases z⟩, fun q => ⟨q.1, q.2.1, q.2.2.1, q.2.2.2.1⟩⟩)
  refine (F.d.entry (b.name : Int) (b.typ : Int) b.hash (F.f.fw b hb).2.hash).mono ?_
  rintro e W' ⟨he, hW, hf⟩
  rw [h1] at he
  exact ⟨p, he, h2, F.same hW hf, hf⟩
theorem Fs.entryX (F : Fs w0 h n T E B lb K u v A C k W) (hb : b ∈ A) :
    Calls Tryz.prog 24 #[pV h, .int .u32 (b.name : Int), .int .u16 (b.typ : Int), .int .u32 (b.hash : Int)] W fun e W' => ∃ (p : Nat) (o : Bool), e = .returned (.tuple #[.int .i64 (p : Int), .bool o]) ∧ Fs w0 h n T E B lb K u v A C k W' ∧ Fr W.heap.size (blkM h) W W' :=
  (F.d.entry (b.name : Int) (b.typ : Int) b.hash (F.f.fw b hb).2.hash).mono fun e W' q => ⟨_, _, q.1, F.same q.2.1 q.2.2, q.2.2⟩
theorem Fs.node (F : Fs w0 h n T E B lb K u v A C k W) (hb : b ∈ A) (hn : b.node = true) :
    Calls Tryz.prog 25 #[pV h, .int .u32 (b.name : Int), .string b.lab, .int .u32 (b.hash : Int)] W fun e W' => ∃ p : Nat, e = .returned (.tuple #[.int .i64 (p : Int), .bool true]) ∧ Lk A b p ∧ Fs w0 h n T E B lb K u v A C k W' ∧ Fr W.heap.size (blkM h) W W' := by
  have ht : b.bk.tag = 2 := by unfold Bk.tag Rb.bk; simp only; rw [hn]; rfl
  have hty : b.typ = 0 := ((F.f.fw b hb).1.1 hn).2.2
  obtain ⟨p, h1, h2⟩ := F.like (P := fun x => keyB (fx h T E B lb) 2 (b.name : Int) 0 (b.hash : Int) x && decide (((fx h T E B lb).B x).lab = bs b.lab)) hb (fun c hc x hx => by
    unfold keyB
    rw [show (fx h T E B lb).B x = c.bk from hx, ht, Bool.and_eq_true, decide_eq_true_iff, decide_eq_true_iff, hty]
    exact ⟨fun q => ⟨q.1.1, q.1.2.1, q.1.2.2.1, q.1.2.2.2, fun _ => q.2⟩, fun q => ⟨⟨q.1, q.2.1, q.2.2.1, q.2.2.2.1⟩, q.2.2.2.2 hn⟩⟩)
  refine (Node_any F.d.ix (b.name : Int) b.lab b.hash (F.f.fw b hb).2.hash).mono ?_
  intro e W' q
  have he := q.1
  rw [show (slF 224 (hmX (fx h T E B lb)) K (b.hash % 224) fun x => keyB (fx h T E B lb) 2 (b.name : Int) 0 (b.hash : Int) x && decide (((fx h T E B lb).B x).lab = bs b.lab)) = (slF 224 (hmB B) K (b.hash % 224) fun x => keyB (fx h T E B lb) 2 (b.name : Int) 0 (b.hash : Int) x && decide (((fx h T E B lb).B x).lab = bs b.lab)) from rfl, h1] at he
  exact ⟨p, he, h2, F.same (F.d.same q) q.2.2, q.2.2⟩
theorem Fs.placeA (F : Fs w0 h n T E B lb K u v A C k W) (hb : b ∈ A) :
    Calls Tryz.prog 18 #[pV h, .int .i64 b.pos] W fun e W' => ∃ p : Nat, e = .returned (.tuple #[.int .i64 (p : Int), .bool true]) ∧ Fs w0 h n T E B lb K u v A C k W' ∧ Fr W.heap.size (blkM h) W W' := by
  obtain ⟨x, h1, h2, h3, i, hi, hk⟩ := F.f.a b hb
  have hx0 := F.d.e0 x h2
  have hs := slF_one F.d.ok hi (by omega)
  rw [hk] at hs
  rw [h1]
  refine (F.d.place h2).mono ?_
  rintro e W' ⟨he, hW, hf⟩
  rw [show isP (x : Int) = fun y => decide (y = x) from funext fun y => decide_eq_decide.2 ⟨fun q => by omega, fun q => by omega⟩, hs] at he
  exact ⟨i, he, F.same hW hf, hf⟩
theorem Fs.placeC (F : Fs w0 h n T E B lb K u v A C k W) (hb : b ∈ C) :
    Calls Tryz.prog 18 #[pV h, .int .i64 b.pos] W fun e W' => ∃ p : Nat, e = .returned (.tuple #[.int .i64 (p : Int), .bool false]) ∧ Fs w0 h n T E B lb K u v A C k W' := by
  obtain ⟨x, h1, h2, h3⟩ := F.f.c b hb
  have hs := slF_none (hm := hmB B) (K := K) (hom_lt (B x)) (x := x) (fun i hi q => h3 ⟨i, hi, q⟩)
  rw [h1]
  refine (F.d.place h2).mono ?_
  rintro e W' ⟨he, hW, hf⟩
  rw [show isP (x : Int) = fun y => decide (y = x) from funext fun y => decide_eq_decide.2 ⟨fun q => by omega, fun q => by omega⟩, show hmB B x = hom (B x) from rfl, hs] at he
  exact ⟨0, he, F.same hW hf⟩
theorem Fs.alike (F : Fs w0 h n T E B lb K u v A C k W) (hk : k ≤ 1000) {p : Nat} (hl : Lk A b p) :
    Calls Tryz.prog 26 #[u, .int .i64 (p : Int), b.agg] W fun e W' => e = .returned (.bool true) ∧ Fs w0 h n T E B lb K u v A C k W' :=
  (alike_any u A (p : Int) b W F.o.a.row (Nat.le_trans F.ka hk) hl.1 hl.2).mono fun e W' q => ⟨q.1, F.below q.2⟩
theorem RRow.kth {g c : Nat} (d : RRow W (.slice (some ⟨g, 0, none⟩) A.length c) A) {i : Nat} (hi : i < A.length) (hb : b = A.getD i Rb.zero) : W.cell? ⟨g, i * 6, none⟩ = some (.int .i64 b.pos) ∧ W.cell? ⟨g, i * 6 + 1, none⟩ = some (.bool b.node) ∧ W.cell? ⟨g, i * 6 + 2, none⟩ = some (.int .u32 (b.name : Int)) ∧ W.cell? ⟨g, i * 6 + 3, none⟩ = some (.int .u16 (b.typ : Int)) ∧ W.cell? ⟨g, i * 6 + 4, none⟩ = some (.string b.lab) ∧ W.cell? ⟨g, i * 6 + 5, none⟩ = some (.int .u32 (b.hash : Int)) := by
  obtain ⟨g', o, e, -, hc⟩ := d.at hi
  injection e with e
  injection e with e1 e2
  subst e1 e2
  rw [← hb] at hc
  simp only [Nat.zero_add] at hc
  exact ⟨hc 0 _ rfl, hc 1 _ rfl, hc 2 _ rfl, hc 3 _ rfl, hc 4 _ rfl, hc 5 _ rfl⟩
end
end Go.Proofs.YtcpfnmphcndmjaaGreatDoor.Ind

namespace Go.Proofs.YtcpfnmphcndmjaaGreatDoor.Ind
open Go.RowKit Num
open Pro
open Mem (Mm MemC MRet Hm rd blkM)
open Sla (Sl St Lv pl aT pV Lo tkF Ts X0)
open Arn (wrL is64)
set_option linter.unusedVariables false
set_option maxRecDepth 100000

section
variable {h : Hm} {l lb lb' : List Int} {T T' : List Sl} {w0 w w' W W' : World} {n a x y k k' : Nat} {E : List Nat} {B : Nat → Bk} {K K' : Nat → Nat} {e : Ending} {u v u' v' : Value} {A A' C C' : List Rb} {b c : Rb}
/-- A block is taken, and filled; it may be that none is left. -/
theorem Fs.block (F : Fs w0 h n T E B lb K u v A C k W) (b : Rb) (hb : b.Ty) (hf : b.few) : Calls Tryz.prog 20 #[pV h, b.agg] W fun e W' => ∃ a : Nat, e = .returned ({ b with pos := (a : Int) } : Rb).agg ∧ Ow2 n W' u v A C ∧
    ((a = 0 ∧ ∃ lb', Fs w0 h n T E B lb' K u v A C k W') ∨ (a ≠ 0 ∧ a ∉ E ∧ ∃ lb' T', Wi w0 h n T' (a :: E) (upB B a b.bk) lb' K W')) := by
  refine (F.d.block b hb hf).mono ?_
  rintro e W' ⟨a, he, hfr, ⟨h0, -, lb', hd⟩ | ⟨h0, hE, -, lb', hd⟩⟩
  · exact ⟨a, he, F.o.fr hfr F.d.lo, .inl ⟨h0, lb', F.same hd hfr⟩⟩
  · exact ⟨a, he, F.o.fr hfr F.d.lo, .inr ⟨h0, hE, lb', _, hd⟩⟩
theorem Wi.insertF (d : Wi w0 h n T' (a :: E) (upB B a b.bk) lb' K W) (o : Ow2 n W u v A C) (F : Fi E B K A C) (ha : a ∉ E) (h0 : a ≠ 0) (hf : b.few) (ht : b.Ty) (ka : A.length ≤ k) (kc : C.length ≤ k) :
    Calls Tryz.prog 13 #[pV h, .int .i64 (a : Int)] W fun e W' => Fr W.heap.size (blkM h) W W' ∧
      ((e = .returned (.int .i64 5) ∧ Fs w0 h n T' (a :: E) (upB B a b.bk) lb' K u v A C k W') ∨
       (e = .returned (.int .i64 0) ∧ ∃ K', Wi w0 h n T' (a :: E) (upB B a b.bk) lb' K' W' ∧ Ow2 n W' u v A C ∧ Fi (a :: E) (upB B a b.bk) K' (A ++ [{ b with pos := (a : Int) }]) C)) := by
  have hn : ∀ i, i < 224 → K i ≠ a := fun i hi q => by
    by_cases hk : K i = 0
    · exact h0 (by omega)
    · obtain ⟨c, hc, hp⟩ := F.all i hi hk
      obtain ⟨x, h1, h2, -⟩ := F.a c hc
      exact ha (by have : x = a := by omega
                   exact this ▸ h2)
  have hfc := d.facts (.head _)
  refine (d.insertN (.head _) hn).mono ?_
  rintro e W' ⟨hfr, ⟨he, hW⟩ | ⟨he, hz, hW⟩⟩
  · exact ⟨hfr, .inl ⟨he, hW, o.fr hfr d.lo, F.new ha b.bk, ka, kc⟩⟩
  · exact ⟨hfr, .inr ⟨he, _, hW, o.fr hfr d.lo, F.ins ha h0 (fun x hx => by have := d.facts (List.mem_cons_of_mem _ hx); omega) hf ht (by unfold is64; omega) (in_ins d h0 hn hz)⟩⟩
theorem Wi.pushA (d : Wi w0 h n T E B lb K W) (o : Ow2 n W u v A C) (F : Fi E B K (A ++ [c]) C) (ka : A.length ≤ k) (kc : C.length ≤ k) (hk : k ≤ 1000) :
    ∃ u' W', (Builtin.append_ #[47, 47] 47 #[u, .slice (some ⟨W.heap.size, 0, none⟩) 1 1]).run Tryz.prog (W.alloc (.cells #[.int .i64 c.pos, .bool c.node, .int .u32 (c.name : Int), .int .u16 (c.typ : Int), .string c.lab, .int .u32 (c.hash : Int)] 33)) = .ok u' W' ∧
      Fs w0 h n T E B lb K u' v (A ++ [c]) C (k + 1) W' := by
  obtain ⟨u', W', h1, h2, h3, h4⟩ := push_run c o.a d.nn (by omega)
  exact ⟨u', W', h1, d.low (grown_low h3 d.nn o.a.base), o.setA h3 h2 h4, F, by simp; omega, by omega⟩
theorem Wi.pushC (d : Wi w0 h n T E B lb K W) (o : Ow2 n W u v A C) (kc : C.length ≤ 1000) :
    ∃ v' W', (Builtin.append_ #[47, 47] 47 #[v, .slice (some ⟨W.heap.size, 0, none⟩) 1 1]).run Tryz.prog (W.alloc (.cells #[.int .i64 c.pos, .bool c.node, .int .u32 (c.name : Int), .int .u16 (c.typ : Int), .string c.lab, .int .u32 (c.hash : Int)] 33)) = .ok v' W' ∧
      Wi w0 h n T E B lb K W' ∧ Ow2 n W' u v' A (C ++ [c]) := by
  obtain ⟨v', W', h1, h2, h3, h4⟩ := push_run c o.c d.nn kc
  exact ⟨v', W', h1, d.low (grown_low h3 d.nn o.c.base), o.setC h3 h2 h4⟩
theorem Wi.anew (d : Wi w0 h n T E B lb K W) (o : Ow2 n W u v A C) (F : Fi E B K A' C) (hb : Below W.heap.size W W') (ho : OwnR W.heap.size W' u' A') (ka : A'.length ≤ k) (kc : C.length ≤ k) : Fs w0 h n T E B lb K u' v A' C k W' :=
  ⟨d.below hb, o.anew hb ho d.nn, F, ka, kc⟩
end
end Go.Proofs.YtcpfnmphcndmjaaGreatDoor.Ind
