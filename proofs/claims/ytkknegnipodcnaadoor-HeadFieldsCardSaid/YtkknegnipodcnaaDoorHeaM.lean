/- Plain mathematics of heads of blocks: their fields, which may be, their bytes. -/
import Derived.Test.YtkknegnipodcnaaDoorNumD
import Derived.Test.YtkknegnipodcnaaDoorKit5
namespace Go.Proofs.YtkknegnipodcnaaDoor.Hea
open Go.RowKit Num
set_option linter.unusedVariables false

structure Blk where
  tag : Int
  cls : Int
  used : Bool
  lab : Int
  name : Int
  next : Int
  prev : Int
  refs : Int
  exp : Int
  typ : Int
  size : Int
  hash : Int
def Blk.zero : Blk := ⟨0, 0, false, 0, 0, 0, 0, 0, 0, 0, 0, 0⟩
def Blk.cells (b : Blk) : List Value := [.int .i64 b.tag, .int .i64 b.cls, .bool b.used, .int .i64 b.lab, .int .u32 b.name, .int .u32 b.next, .int .u32 b.prev, .int .u32 b.refs, .int .u64 b.exp, .int .u16 b.typ, .int .i64 b.size, .int .u32 b.hash]
def Blk.agg (b : Blk) : Value := .agg #[.int .i64 b.tag, .int .i64 b.cls, .bool b.used, .int .i64 b.lab, .int .u32 b.name, .int .u32 b.next, .int .u32 b.prev, .int .u32 b.refs, .int .u64 b.exp, .int .u16 b.typ, .int .i64 b.size, .int .u32 b.hash]
def i64 (n : Int) : Prop := -9223372036854775808 ≤ n ∧ n ≤ 9223372036854775807
def u32 (n : Int) : Prop := 0 ≤ n ∧ n < 4294967296
def u64 (n : Int) : Prop := 0 ≤ n ∧ n < 18446744073709551616
def u16 (n : Int) : Prop := 0 ≤ n ∧ n < 65536
structure Blk.Ok (b : Blk) : Prop where
  tag : i64 b.tag
  cls : i64 b.cls
  lab : i64 b.lab
  name : u32 b.name
  next : u32 b.next
  prev : u32 b.prev
  refs : u32 b.refs
  exp : u64 b.exp
  typ : u16 b.typ
  size : i64 b.size
  hash : u32 b.hash
theorem Blk.zero_ok : Blk.zero.Ok := by
  constructor <;> simp [Blk.zero, i64, u32, u64, u16]
/-- Where a field lies, and how many bytes it has. -/
def whF (t f : Int) : Int × Int :=
  if t < 0 ∨ 2 < t ∨ f < 0 ∨ 11 < f then (0, 0) else if f < 4 then (f, 1) else if f = 4 then (4, 4)
  else if t = 1 ∧ f = 5 then (8, 4) else if t = 1 ∧ f = 6 then (12, 4) else if t = 1 ∧ f = 7 then (16, 8) else if t = 1 ∧ f = 8 then (24, 2) else if t = 1 ∧ f = 9 then (26, 2) else if t = 1 ∧ f = 10 then (28, 4)
  else if t = 2 ∧ f = 11 then (8, 4) else if t = 2 ∧ f = 10 then (12, 4) else (0, 0)
def szF (t : Int) : Int := if t = 0 then 8 else if t = 1 then 32 else if t = 2 then 16 else 0
/-- A field's number. -/
def numF (b : Blk) (f : Nat) : Int :=
  match f with
  | 0 => IntKind.u64.wrap b.tag
  | 1 => IntKind.u64.wrap b.cls
  | 2 => if b.used then 1 else 0
  | 3 => IntKind.u64.wrap b.lab
  | 4 => b.name
  | 5 => b.next
  | 6 => b.prev
  | 7 => b.exp
  | 8 => b.typ
  | 9 => IntKind.u64.wrap b.size
  | 10 => b.hash
  | _ => b.refs
theorem u64_bd (n : Int) : 0 ≤ IntKind.u64.wrap n ∧ IntKind.u64.wrap n < 18446744073709551616 := by
  simp [IntKind.wrap, IntKind.bits, IntKind.signed]
  omega
theorem u64_id {n : Int} (h0 : 0 ≤ n) (h1 : n < 18446744073709551616) : IntKind.u64.wrap n = n := by
  simp [IntKind.wrap, IntKind.bits, IntKind.signed]
  omega
theorem numF_bd {b : Blk} (h : b.Ok) (f : Nat) : 0 ≤ numF b f ∧ numF b f < 18446744073709551616 := by
  obtain ⟨h1, h2, h3, h4, h5, h6, h7, h8, h9, h10, h11⟩ := h
  simp only [i64, u32, u64, u16] at *
  unfold numF
  split
  · exact u64_bd _
  · exact u64_bd _
  · split <;> omega
  · exact u64_bd _
  · omega
  · omega
  · omega
  · omega
  · omega
  · exact u64_bd _
  · omega
  · omega
/-- Which heads may be. -/
def RightP (b : Blk) : Prop :=
  (b.tag = 0 ∧ b.cls = 0 ∧ b.used = false ∧ b.lab = 0 ∧ b.next = 0 ∧ b.prev = 0 ∧ b.exp = 0 ∧ b.typ = 0 ∧ b.size = 0 ∧ b.hash = 0 ∧ b.refs = 0) ∨
  (b.tag = 1 ∧ 1 ≤ b.cls ∧ b.cls ≤ 9 ∧ b.lab = 0 ∧ 0 ≤ b.size ∧ b.size ≤ 480 ∧ b.refs = 0) ∨
  (b.tag = 2 ∧ 1 ≤ b.cls ∧ b.cls ≤ 9 ∧ b.used = false ∧ 1 ≤ b.lab ∧ b.lab ≤ 63 ∧ b.next = 0 ∧ b.prev = 0 ∧ b.exp = 0 ∧ b.typ = 0 ∧ b.size = 0)
instance (b : Blk) : Decidable (RightP b) := by unfold RightP; infer_instance
def rightF (b : Blk) : Bool := decide (RightP b)
def p2 (v : Int) : List Int := [v % 256, v / 256]
def p4 (v : Int) : List Int := [v % 256, v / 256 % 256, v / 65536 % 256, v / 16777216]
def p8 (v : Int) : List Int := [v % 256, v / 256 % 256, v / 65536 % 256, v / 16777216 % 256, v / 4294967296 % 256, v / 1099511627776 % 256, v / 281474976710656 % 256, v / 72057594037927936]
def p1 (b : Blk) : List Int := [b.tag, b.cls, if b.used then 1 else 0, b.lab]
def encL (b : Blk) : List Int :=
  p1 b ++ (p4 b.name ++ (if b.tag = 1 then p4 b.next ++ (p4 b.prev ++ (p8 b.exp ++ (p2 b.typ ++ (p2 b.size ++ p4 b.hash)))) else if b.tag = 2 then p4 b.refs ++ p4 b.hash else []))
def encF (b : Blk) : List Int × Int := if rightF b then (encL b, 0) else ([], 2)
def rdF (l : List Int) (a n : Nat) : Int := le ((l.drop a).take n)
/-- What bytes say of a head. -/
def decB (l : List Int) : Blk :=
  ⟨l.getD 0 0, l.getD 1 0, l.getD 2 0 == 1, l.getD 3 0, rdF l 4 4, if l.getD 0 0 = 1 then rdF l 8 4 else 0, if l.getD 0 0 = 1 then rdF l 12 4 else 0, if l.getD 0 0 = 2 then rdF l 8 4 else 0, if l.getD 0 0 = 1 then rdF l 16 8 else 0,
    if l.getD 0 0 = 1 then rdF l 24 2 else 0, if l.getD 0 0 = 1 then rdF l 26 2 else 0, if l.getD 0 0 = 1 then rdF l 28 4 else if l.getD 0 0 = 2 then rdF l 12 4 else 0⟩
def decF (l : List Int) : Blk × Int :=
  if l = [] then (Blk.zero, 3) else if 2 < l.getD 0 0 then (Blk.zero, 4) else if (l.length : Int) < szF (l.getD 0 0) then (Blk.zero, 3)
  else if 1 < l.getD 2 0 ∨ rightF (decB l) = false then (Blk.zero, 4) else (decB l, 0)
end Go.Proofs.YtkknegnipodcnaaDoor.Hea
