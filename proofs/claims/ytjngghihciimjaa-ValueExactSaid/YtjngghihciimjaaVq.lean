/-
  A map of sums by name: what it holds, what a store leaves.
-/
import Derived.Test.YtjngghihciimjaaVu
import Derived.Test.YtjngghihciimjaaVn
import Derived.DeepKeys4
import Derived.Maps.OwnSet
import Derived.Maps.Views
namespace Go.Proofs.Ytjngghihciimjaa
set_option maxRecDepth 100000
open Go.RowKit Go.Sort Go.Maps

theorem laidOut : laidOutB Try.prog = true := by kernel_rfl
theorem row68 : (68 : TypeId) < Try.prog.types.size := of_decide_eq_true (by kernel_rfl)
theorem wide68 : (match Try.prog.underlying 68 with | some (.array _ _) | some (.struct _) => true | _ => false) = true := by rw [Try.underlying68]
theorem keyedName : Keyed Try.prog 68 := Keyed.of_law (deep_law_laid laidOut (m := 5) (by omega) row68 keyed_called wide68)
/-- What a name reads as, as a key. -/
def kN (n : Nm) : Lit := .string (keyBytes (litN n))
theorem key_nm (n : Nm) (h : n.1.length = 32) (ht : n.2.length ≤ maxLen) : keyOf Try.prog 68 (.agg (nmC n)) = some (kN n) := by
  obtain ⟨d, hd⟩ : ∃ d, Try.prog.types.size + 1 = d + 3 := ⟨Try.prog.types.size - 2, by have : 2 ≤ Try.prog.types.size := of_decide_eq_true (by kernel_rfl); omega⟩
  have hk : Try.prog.keyType 68 = true := by kernel_rfl
  unfold keyOf
  rw [Try.underlying68]
  simp only [hk, formed_nm n h, Bool.and_self, if_true, hd]
  rw [show (Value.agg (nmC n)).cells.toList = (nmC n).toList from rfl, lits_nm d n h ht]
  rfl
theorem kN_inj {a b : Nm} (ha : a.1.length = 32) (hb : b.1.length = 32) (ta : a.2.length ≤ maxLen) (tb : b.2.length ≤ maxLen) (h : kN a = kN b) : a = b := by
  unfold kN at h
  have h1 := keyLits_inj (lits_nm 0 a ha ta) (lits_nm 0 b hb tb) (by simpa using h)
  exact litN_inj ha hb h1
/-- How a sum reads. -/
noncomputable def rdW (v : Value) : Option (DataW Unit × List MemPlace) := open Classical in if h : ∃ x, v = wv x then some (.lit (.int .u64 (Classical.choose h).toNat), []) else none
def dW (x : BitVec 128) : DataW Unit := .lit (.int .u64 x.toNat)
theorem rdW_wv (x : BitVec 128) : rdW (wv x) = some (dW x, []) := by
  have h : ∃ y, wv x = wv y := ⟨x, rfl⟩
  unfold rdW
  rw [dif_pos h, ← wv_inj (Classical.choose_spec h)]
  rfl
theorem dW_inj {x y : BitVec 128} (h : dW x = dW y) : x = y := by
  unfold dW at h
  simp only [DataW.lit.injEq, Lit.int.injEq, true_and] at h
  exact BitVec.eq_of_toNat_eq (by omega)
theorem rdW_inv {v : Value} {x : BitVec 128} {ps : List MemPlace} (h : rdW v = some (dW x, ps)) : v = wv x := by
  unfold rdW at h
  split at h
  · rename_i hh
    have e := Classical.choose_spec hh
    simp only [Option.some.injEq, Prod.mk.injEq] at h
    rw [e, dW_inj (x := Classical.choose hh) h.1]
  · cases h
/-- The map holds f: what has no entry has 0. -/
def HoldsF (D : DataW Unit) (f : Nm → BitVec 128) : Prop := ∀ n : Nm, n.1.length = 32 → n.2.length ≤ maxLen → D.atKey (kN n) (dW 0) = dW (f n)
def addAt (f : Nm → BitVec 128) (n : Nm) (x : BitVec 128) : Nm → BitVec 128 := fun m => if m = n then f n + x else f m
theorem HoldsF.put {D : DataW Unit} {f : Nm → BitVec 128} (h : HoldsF D f) (hD : IsMap D) (n : Nm) (x : BitVec 128) (hn : n.1.length = 32) (ht : n.2.length ≤ maxLen) : HoldsF (D.put (kN n) (dW (f n + x))) (addAt f n x) := fun m hm hmt => by
  unfold addAt
  by_cases e : m = n
  · subst e
    have hkk : WideAt.IsKeyLit (kN m) := trivial
    rw [atKey_put_same hD hkk]
    simp
  · rw [atKey_put_other (fun k => e (kN_inj hm hn hmt ht k)), h m hm hmt]
    simp [e]
theorem under70 : Try.prog.underlying 70 = some (.map 68 39) := Try.underlying70
theorem zeroW (w : World) : (zeroValue 39).run Try.prog w = .ok (wv 0) w := by
  rw [wv_zero]
  kernel_rfl
end Go.Proofs.Ytjngghihciimjaa
