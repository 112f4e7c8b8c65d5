/-
  Small closed facts for mix: the eight numbers one by one.
-/
import Derived.Test.YtgempifedhiknaaGreatDoorSpread
import Derived.Deep.MidRow
namespace Go.Proofs.YtgempifedhiknaaGreatDoor
set_option maxRecDepth 100000
open Go.RowKit Sha

theorem idx8 (a b c d e f g h : BitVec 32) (k : Nat) (hk : k < 8) (w : World) :
    (Instr.index 89 (.agg #[.int .u32 a.toNat, .int .u32 b.toNat, .int .u32 c.toNat, .int .u32 d.toNat, .int .u32 e.toNat, .int .u32 f.toNat, .int .u32 g.toNat, .int .u32 h.toNat]) (.int .i64 k)).run Tryz.prog w
      = .ok (.int .u32 (([a, b, c, d, e, f, g, h].getD k 0).toNat)) w := by
  match k, hk with
  | 0, _ => show (_ : Result Value) = _; kernel_rfl
  | 1, _ => show (_ : Result Value) = _; kernel_rfl
  | 2, _ => show (_ : Result Value) = _; kernel_rfl
  | 3, _ => show (_ : Result Value) = _; kernel_rfl
  | 4, _ => show (_ : Result Value) = _; kernel_rfl
  | 5, _ => show (_ : Result Value) = _; kernel_rfl
  | 6, _ => show (_ : Result Value) = _; kernel_rfl
  | 7, _ => show (_ : Result Value) = _; kernel_rfl
/-- The first k numbers summed. -/
def mid (s t : Eight) (k : Nat) : List (BitVec 32) := (s.add t).list.take k ++ s.list.drop k
theorem mid_length (s t : Eight) (k : Nat) (hk : k ≤ 8) : (mid s t k).length = 8 := by
  have h1 : (s.add t).list.length = 8 := rfl
  have h2 : s.list.length = 8 := rfl
  unfold mid; rw [List.length_append, List.length_take, List.length_drop]; omega
theorem mid_zero (s t : Eight) : mid s t 0 = s.list := rfl
theorem mid_eight (s t : Eight) : mid s t 8 = (s.add t).list := rfl
theorem mid_set (s t : Eight) (k : Nat) (hk : k < 8) : (mid s t k).set k (s.list.getD k 0 + t.list.getD k 0) = mid s t (k + 1) := by
  match k, hk with
  | 0, _ => rfl
  | 1, _ => rfl
  | 2, _ => rfl
  | 3, _ => rfl
  | 4, _ => rfl
  | 5, _ => rfl
  | 6, _ => rfl
  | 7, _ => rfl
theorem mid_get (s t : Eight) (k : Nat) (hk : k < 8) : (mid s t k).getD k 0 = s.list.getD k 0 := by
  match k, hk with
  | 0, _ => rfl
  | 1, _ => rfl
  | 2, _ => rfl
  | 3, _ => rfl
  | 4, _ => rfl
  | 5, _ => rfl
  | 6, _ => rfl
  | 7, _ => rfl
theorem front_get (l : List (BitVec 32)) (rest : Array Value) (k : Nat) (hk : k < l.length) : (B32 l ++ rest)[k]? = some (.int .u32 (l.getD k 0).toNat) := by
  rw [Array.getElem?_append_left (by rw [B32_size]; exact hk), B32_get l k hk]
theorem front_set (l : List (BitVec 32)) (rest : Array Value) (k : Nat) (hk : k < l.length) (x : BitVec 32) : (B32 l ++ rest).setIfInBounds k (.int .u32 x.toNat) = B32 (l.set k x) ++ rest := by
  rw [Array.setIfInBounds_append_left (by rw [B32_size]; exact hk), B32_set]
theorem E0 (s : Eight) (rest : Array Value) : (B32 s.list ++ rest)[0]? = some (.int .u32 s.a.toNat) := front_get _ _ _ (by show 0 < 8; omega)
theorem E1 (s : Eight) (rest : Array Value) : (B32 s.list ++ rest)[1]? = some (.int .u32 s.b.toNat) := front_get _ _ _ (by show 1 < 8; omega)
theorem E2 (s : Eight) (rest : Array Value) : (B32 s.list ++ rest)[2]? = some (.int .u32 s.c.toNat) := front_get _ _ _ (by show 2 < 8; omega)
theorem E3 (s : Eight) (rest : Array Value) : (B32 s.list ++ rest)[3]? = some (.int .u32 s.d.toNat) := front_get _ _ _ (by show 3 < 8; omega)
theorem E4 (s : Eight) (rest : Array Value) : (B32 s.list ++ rest)[4]? = some (.int .u32 s.e.toNat) := front_get _ _ _ (by show 4 < 8; omega)
theorem E5 (s : Eight) (rest : Array Value) : (B32 s.list ++ rest)[5]? = some (.int .u32 s.f.toNat) := front_get _ _ _ (by show 5 < 8; omega)
theorem E6 (s : Eight) (rest : Array Value) : (B32 s.list ++ rest)[6]? = some (.int .u32 s.g.toNat) := front_get _ _ _ (by show 6 < 8; omega)
theorem E7 (s : Eight) (rest : Array Value) : (B32 s.list ++ rest)[7]? = some (.int .u32 s.h.toNat) := front_get _ _ _ (by show 7 < 8; omega)
end Go.Proofs.YtgempifedhiknaaGreatDoor
