/-
  The calls that only reckon: bits turned. No condition but the number's range.
-/
import Derived.Test.YtccfdobogbiomaaDoorProg
import Derived.Test.YtccfdobogbiomaaDoorBits
import Derived.WalkKit
import Derived.WalkSpells
import Derived.WalkLawsBesides
import Derived.Outline
namespace Go.Proofs.YtccfdobogbiomaaDoor
open Go.RowKit Sha

theorem rot_any (x : BitVec 32) (k : Int) (h1 : 1 ≤ k) (h2 : k ≤ 31) (w : World) :
    Calls Tryd.prog 44 #[.int .u32 x.toNat, .int .i64 k] w fun e w' => e = .returned (.int .u32 (rotr x k.toNat).toNat) ∧ w = w' := by
  have hx := x.isLt
  have ha := and31 k h1 h2
  go_enter Tryd.func44, Tryd.ntmps44
  go_wp2
  go_ret
  exact ⟨ret_int (rot_is x k h1 h2), rfl⟩
end Go.Proofs.YtccfdobogbiomaaDoor
