/-
  The calls that only reckon: bits turned. No condition but the number's range.
-/
import Derived.Test.YtgempifedhiknaaGreatDoorProg
import Derived.Test.YtgempifedhiknaaGreatDoorBits
import Derived.WalkKit
import Derived.WalkSpells
import Derived.WalkLawsBesides
import Derived.Outline
namespace Go.Proofs.YtgempifedhiknaaGreatDoor
set_option maxRecDepth 100000
open Go.RowKit Sha

theorem rot_any (x : BitVec 32) (k : Int) (h1 : 1 ≤ k) (h2 : k ≤ 31) (w : World) :
    Calls Tryz.prog 127 #[.int .u32 x.toNat, .int .i64 k] w fun e w' => e = .returned (.int .u32 (rotr x k.toNat).toNat) ∧ w = w' := by
  have hx := x.isLt
  have ha := and31 k h1 h2
  go_enter Tryz.func127, Tryz.ntmps127
  go_wp2
  go_ret
  exact ⟨ret_int (rot_is x k h1 h2), rfl⟩
end Go.Proofs.YtgempifedhiknaaGreatDoor
