/- Plain mathematics of mix: steps over integers. Contracts of mix's steps, and of the document's. -/
import Derived.Test.YtmgeiaglandedaaGreatDoorJ24
import Derived.Test.YtmgeiaglandedaaGreatDoorRows
import Derived.Test.YtmgeiaglandedaaGreatDoorJ0
import Derived.Laws.BitsAllLaws
namespace Go.Proofs.YtmgeiaglandedaaGreatDoor.Mix
def hom (h s:Int):Int:=if s<1 then 0 else h % s
end Go.Proofs.YtmgeiaglandedaaGreatDoor.Mix

namespace Go.Proofs.YtmgeiaglandedaaGreatDoor.Mix
open Go.RowKit
set_option linter.unusedVariables false
theorem home_any (h s:Int) (w:World) (h1:0≤h) (h2:h<4294967296) (s1 : -9223372036854775808≤s) (s2:s<9223372036854775808) :
    Calls Tryz.prog 217 #[.int .u32 h,.int .i64 s] w fun e w'=>e = .returned (.int .i64 (hom h s))∧w=w':=by
  by_cases hl:s<1
  · have e:Hid (hom h s=0):=by unfold Hid;rw[hom,if_pos hl]
    go_enter Tryz.func217,Tryz.ntmps217
    go_wp2
    go_ret
    exact⟨ret_int e.out.symm,rfl⟩
  · have e:Hid (hom h s=h % s):=by unfold Hid;rw[hom,if_neg hl]
    have p1:0<s:=by omega
    have p2:=Int.emod_nonneg h (show s≠0 by omega)
    have p3:=Int.emod_lt_of_pos h p1
    go_enter Tryz.func217,Tryz.ntmps217
    go_wp2
    go_ret
    exact⟨ret_int e.out.symm,rfl⟩
theorem refHome_any (h s:Int) (w:World) (h1:0≤h) (h2:h<4294967296) (s1 : -9223372036854775808≤s) (s2:s<9223372036854775808) :
    Calls Tryz.prog 156 #[.int .u32 h,.int .i64 s] w fun e w'=>e = .returned (.int .i64 (hom h s))∧w=w':=by
  by_cases hl:s<1
  · have e:Hid (hom h s=0):=by unfold Hid;rw[hom,if_pos hl]
    go_enter Tryz.func156,Tryz.ntmps156
    go_wp2
    go_ret
    exact⟨ret_int e.out.symm,rfl⟩
  · have e:Hid (hom h s=h % s):=by unfold Hid;rw[hom,if_neg hl]
    have p1:0<s:=by omega
    have p2:=Int.emod_nonneg h (show s≠0 by omega)
    have p3:=Int.emod_lt_of_pos h p1
    go_enter Tryz.func156,Tryz.ntmps156
    go_wp2
    go_ret
    exact⟨ret_int e.out.symm,rfl⟩
end Go.Proofs.YtmgeiaglandedaaGreatDoor.Mix
