/- The landed head in a memory: Put, live or free. The landed head in a memory: what Get leans on. The landed head in a memory: Get. The landed head in a memory: Get; all that is asked of head in a memory. -/
import Derived.Test.YthnjpmgfikhemaaGreatDoorJ13
namespace Go.Proofs.YthnjpmgfikhemaaGreatDoor.Hea
open Go.RowKit Num
open Mem (Mm MemC MRet Hm rd blkM)
set_option linter.unusedVariables false

theorem put_any (h : Hm) (v : Value) (M : Mm) (a : Nat) (b : Blk) (w : World) (ht : Tab w) (hm : MemC h w v M) (hb : b.Ok) (hr : RightP b) (hro : Room M a b.tag) :
    Calls Tryz.prog 94 #[v, .int .i64 (a : Int), b.agg] w fun e w' => ∃ lk, MRet h w v { M with l := Arn.wrL M.l a (encL b), lk := lk } (.int .i64 0) e w' := by
  cases hq : (b.tag == 0) with
  | true => exact put_free h v M a b w ht hm hb hr hro hq
  | false => exact put_live h v M a b w ht hm hb hr hro hq
end Go.Proofs.YthnjpmgfikhemaaGreatDoor.Hea

namespace Go.Proofs.YthnjpmgfikhemaaGreatDoor.Hea
open Go.RowKit Go.Shelf Num
open Mem (Mm MemC MRet Hm rd blkM)
set_option linter.unusedVariables false
attribute [local go_sem] Oper.semAt_some

end Go.Proofs.YthnjpmgfikhemaaGreatDoor.Hea

namespace Go.Proofs.YthnjpmgfikhemaaGreatDoor.Hea
open Go.RowKit Go.Shelf Num
open Mem (Mm MemC MRet Hm rd blkM)
set_option linter.unusedVariables false
attribute [local go_sem] Oper.semAt_some


end Go.Proofs.YthnjpmgfikhemaaGreatDoor.Hea

namespace Go.Proofs.YthnjpmgfikhemaaGreatDoor.Hea
open Go.RowKit Num
open Mem (Mm MemC MRet Hm rd blkM)
set_option linter.unusedVariables false

end Go.Proofs.YthnjpmgfikhemaaGreatDoor.Hea
