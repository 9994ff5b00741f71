/- Plain mathematics of mix: steps over integers. -/
import Derived.Test.YtojicajdhlahfaaFoldM
namespace Go.Proofs.Ytojicajdhlahfaa.Mix

/-- Bit by bit unlike. -/
def xr (a b : Int) : Int := ((a.toNat ^^^ b.toNat : Nat) : Int)
theorem xr_bd32 {a b : Int} (h1 : a < 4294967296) (h2 : b < 4294967296) : 0 ≤ xr a b ∧ xr a b < 4294967296 := by
  have : a.toNat ^^^ b.toNat < 2 ^ 32 := Nat.xor_lt_two_pow (by omega) (by omega)
  unfold xr
  omega
theorem xr_bd8 {a b : Int} (h1 : a < 256) (h2 : b < 256) : 0 ≤ xr a b ∧ xr a b < 256 := by
  have : a.toNat ^^^ b.toNat < 2 ^ 8 := Nat.xor_lt_two_pow (by omega) (by omega)
  unfold xr
  omega
theorem nat_xor_bit (a b : Nat) : (a ^^^ b) % 2 = (a + b) % 2 := by
  have := @Nat.xor_mod_two_eq_one a b
  omega
theorem xr_bit {a b : Int} (h1 : 0 ≤ a) (h2 : 0 ≤ b) (j : Nat) : xr a b / 2 ^ j % 2 = (a / 2 ^ j + b / 2 ^ j) % 2 := by
  obtain ⟨A, rfl⟩ := Int.eq_ofNat_of_zero_le h1
  obtain ⟨B, rfl⟩ := Int.eq_ofNat_of_zero_le h2
  have e1 : (A ^^^ B) / 2 ^ j % 2 = (A / 2 ^ j + B / 2 ^ j) % 2 := by rw [Nat.xor_div_two_pow, nat_xor_bit]
  have e2 := congrArg (fun n : Nat => (n : Int)) e1
  simpa [xr] using e2
/-- What one more bit adds. -/
theorem xr_go {a b : Int} (h1 : 0 ≤ a) (h2 : 0 ≤ b) (j : Nat) (p : Int) (hp : p = 2 ^ j) :
    (a / p % 2 = b / p % 2 → xr a b / (p * 2) * (p * 2) = xr a b / p * p) ∧ (¬ a / p % 2 = b / p % 2 → xr a b / (p * 2) * (p * 2) + p = xr a b / p * p) := by
  have hb := xr_bit h1 h2 j
  rw [← hp] at hb
  have hpos : 0 ≤ p := by rw [hp]; exact Int.pow_nonneg (by decide)
  have hd : xr a b / (p * 2) = xr a b / p / 2 := (Int.ediv_ediv_of_nonneg hpos).symm
  rw [hd]
  obtain ⟨q, hq⟩ : ∃ q, q = xr a b / p := ⟨_, rfl⟩
  rw [← hq] at hb ⊢
  obtain ⟨t, ht⟩ : ∃ t, t = q / 2 := ⟨_, rfl⟩
  rw [← ht]
  have e : t * (p * 2) = 2 * t * p := by rw [Int.mul_comm p 2, ← Int.mul_assoc, Int.mul_comm t 2]
  rw [e]
  constructor
  · intro h
    rw [show q = 2 * t by omega]
  · intro h
    rw [show q = 2 * t + 1 by omega, Int.add_mul, Int.one_mul]
theorem xr_split {h b : Int} (h1 : 0 ≤ h) (h2 : 0 ≤ b) (h3 : b < 256) : xr h b = h - h % 256 + xr (h % 256) b := by
  obtain ⟨A, rfl⟩ := Int.eq_ofNat_of_zero_le h1
  obtain ⟨B, rfl⟩ := Int.eq_ofNat_of_zero_le h2
  have e1 : (A ^^^ B) / 2 ^ 8 = A / 2 ^ 8 ^^^ B / 2 ^ 8 := Nat.xor_div_two_pow
  have e2 : (A ^^^ B) % 2 ^ 8 = A % 2 ^ 8 ^^^ B % 2 ^ 8 := Nat.xor_mod_two_pow
  rw [show B / 2 ^ 8 = 0 by omega, Nat.xor_zero] at e1
  rw [show B % 2 ^ 8 = B by omega] at e2
  unfold xr
  rw [show ((A : Int) % 256).toNat = A % 2 ^ 8 by omega, Int.toNat_natCast, Int.toNat_natCast, ← e2]
  omega
theorem xr_xr {h b : Int} (h1 : 0 ≤ h) (h2 : 0 ≤ b) : xr (xr h b) b = h := by
  obtain ⟨A, rfl⟩ := Int.eq_ofNat_of_zero_le h1
  obtain ⟨B, rfl⟩ := Int.eq_ofNat_of_zero_le h2
  simp [xr, Nat.xor_assoc]

/-- A step with a byte, and the way back. -/
def stp (h b : Int) : Int := xr h b * 16777619 % 4294967296
def bck (h b : Int) : Int := xr (h * 899433627 % 4294967296) b
theorem stp_bd (h b : Int) : 0 ≤ stp h b ∧ stp h b < 4294967296 := by unfold stp; omega
theorem bck_bd {h b : Int} (h2 : b < 256) : 0 ≤ bck h b ∧ bck h b < 4294967296 := xr_bd32 (by omega) (by omega)
theorem bck_stp {h b : Int} (h1 : 0 ≤ h) (h2 : h < 4294967296) (h3 : 0 ≤ b) (h4 : b < 256) : bck (stp h b) b = h := by
  have hb := @xr_bd32 h b h2 (by omega)
  have e : stp h b * 899433627 % 4294967296 = xr h b := by unfold stp; omega
  unfold bck
  rw [e, xr_xr h1 h3]
theorem stp_bck {h b : Int} (h1 : 0 ≤ h) (h2 : h < 4294967296) (h3 : 0 ≤ b) (h4 : b < 256) : stp (bck h b) b = h := by
  unfold stp bck
  rw [xr_xr (by omega) h3]
  omega
theorem stp_inj {g h b : Int} (g1 : 0 ≤ g) (g2 : g < 4294967296) (h1 : 0 ≤ h) (h2 : h < 4294967296) (h3 : 0 ≤ b) (h4 : b < 256) : stp g b = stp h b ↔ g = h :=
  ⟨fun e => by rw [← bck_stp g1 g2 h3 h4, e, bck_stp h1 h2 h3 h4], fun e => by rw [e]⟩

/-- Steps with bytes. -/
def run (h : Int) (l : List Int) : Int := l.foldl stp h
theorem run_bd {h : Int} (h1 : 0 ≤ h) (h2 : h < 4294967296) (l : List Int) : 0 ≤ run h l ∧ run h l < 4294967296 := by
  induction l generalizing h with
  | nil => exact ⟨h1, h2⟩
  | cons b l ih => exact ih (stp_bd h b).1 (stp_bd h b).2
theorem run_append (h : Int) (l m : List Int) : run h (l ++ m) = run (run h l) m := by simp [run, List.foldl_append]
theorem run_drop (h : Int) (l : List Int) (k : Nat) (hk : k < l.length) : run h (l.drop k) = run (stp h (l.getD k 0)) (l.drop (k + 1)) := by
  have e : l.getD k 0 = l[k] := by simp [List.getD, hk]
  rw [List.drop_eq_getElem_cons hk, e]
  rfl
theorem run_end (h : Int) (l : List Int) (k : Nat) (hk : l.length ≤ k) : run h (l.drop k) = h := by rw [List.drop_eq_nil_of_le hk]; rfl
theorem run_inj {g h : Int} (g1 : 0 ≤ g) (g2 : g < 4294967296) (h1 : 0 ≤ h) (h2 : h < 4294967296) (l : List Int) (hl : ∀ i, 0 ≤ l.getD i 0 ∧ l.getD i 0 < 256) : run g l = run h l ↔ g = h := by
  induction l generalizing g h with
  | nil => exact Iff.rfl
  | cons b l ih =>
    have hb := hl 0
    simp only [List.getD_cons_zero] at hb
    exact (ih (stp_bd g b).1 (stp_bd g b).2 (stp_bd h b).1 (stp_bd h b).2 (fun i => by have := hl (i + 1); simpa using this)).trans (stp_inj g1 g2 h1 h2 hb.1 hb.2)
theorem run_take_drop (h : Int) (l : List Int) (k : Nat) : run (run h (l.take k)) (l.drop k) = run h l := by rw [← run_append, List.take_append_drop]

/-- A label's number, out of its bytes; labels'; a key's; a slot. -/
def labL (p : Int) (l : List Int) : Int := stp (run p (Fold.low l)) 46
def chnL (l : List (List Int)) : Int := l.foldr (fun s h => labL h s) 2166136261
def key (n t : Int) : Int := stp (stp n (t % 256)) (t / 256)
def hom (h s : Int) : Int := if s < 1 then 0 else h % s
theorem labL_bd (p : Int) (l : List Int) : 0 ≤ labL p l ∧ labL p l < 4294967296 := stp_bd _ _
theorem chnL_bd (l : List (List Int)) : 0 ≤ chnL l ∧ chnL l < 4294967296 := by
  cases l with
  | nil => exact ⟨by decide, by decide⟩
  | cons s l => exact labL_bd _ _
theorem chnL_cons (s : List Int) (l : List (List Int)) : chnL (s :: l) = labL (chnL l) s := rfl
theorem key_bd (n t : Int) : 0 ≤ key n t ∧ key n t < 4294967296 := stp_bd _ _
theorem key_inj {g h t : Int} (g1 : 0 ≤ g) (g2 : g < 4294967296) (h1 : 0 ≤ h) (h2 : h < 4294967296) (h3 : 0 ≤ t) (h4 : t < 65536) : key g t = key h t ↔ g = h :=
  (stp_inj (stp_bd g _).1 (stp_bd g _).2 (stp_bd h _).1 (stp_bd h _).2 (by omega) (by omega)).trans (stp_inj g1 g2 h1 h2 (by omega) (by omega))
end Go.Proofs.Ytojicajdhlahfaa.Mix
