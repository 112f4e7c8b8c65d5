/-
  edges: the 38 reals, and each with its sign turned on.
-/
import Derived.Test.YtlgnkgcofdjamaaBits
import Derived.Maps.AppendAt
import Derived.Deep.AppendLies
import Derived.Deep.RegionHeld3
namespace Go.Proofs.Ytlgnkgcofdjamaa
open Go.RowKit

/-- Values of one cell each in a slice of the call's own. -/
def RowV (w0 : World) (t : TypeId) (vs : List Value) (v : Value) (w : World) : Prop := w.ownsRow w0.heap.size t 1 v vs.length vs ∧ Below w0.heap.size w0 w
theorem RowV.alloc {w0 : World} {t : TypeId} {vs : List Value} {v : Value} {w : World} (h : RowV w0 t vs v w) (o : Obj) : RowV w0 t vs v (w.alloc o) := ⟨h.1.alloc o, h.2.alloc h.2.size o⟩
theorem RowV.none_ (w : World) (t : TypeId) : RowV w t [] (.slice none 0 0) w := ⟨⟨rfl, .inl ⟨rfl, rfl⟩⟩, Below.refl _ _⟩
/-- One value more. -/
theorem wpList_pushV {w0 w : World} {ops : Array Oper} {rest : List Oper} {o : Oper} {a : Act} {Q : Exit → Act → World → Prop} (hgd : o.guard = none) (sx x : Operand) (s t : TypeId)
    (ho : o.op = .call { callee := .builtin .append, args := #[sx, x], argTypes := #[s, s] }) (hu : Try.prog.underlying s = some (.slice t)) {z : Value} {bytes : Nat}
    (hin : (Try.prog.info? t).map (fun i => (i.zero, i.size, i.bytes)) = some (some z, 1, bytes)) (hzs : z.cells.size = 1) (hby : bytes ≤ 24) (vs : List Value) (v u : Value) (h1 : u.oneCell' = true)
    (hs : a.eval sx = v) (hx : a.eval x = .slice (some ⟨w.heap.size, 0, none⟩) 1 1) (hl : vs.length ≤ 2000000) (h : RowV w0 t vs v w)
    (k : ∀ v' w', Hid (RowV w0 t (vs ++ [u]) v' w') → wpList Try.prog ops Q rest (a.put o.dst v') w') : wpList Try.prog ops Q (o :: rest) a (w.alloc (.cells #[u] t)) := by
  obtain ⟨i0, hi0, hz0, hz1, hz2⟩ := info_parts hin
  have hb2 : (vs.length + 1) * bytes ≤ 140737488355328 := Nat.le_trans (Nat.mul_le_mul_left _ hby) (by omega)
  refine wpList_append_own _ hgd sx x s ho w0.heap.size t i0 z 1 bytes hu hi0 hz0 hz1 hz2 hzs (by decide) v vs.length vs hs (h.alloc _).1 ⟨w.heap.size, 0, none⟩ 1 1 [u] hx rfl ?_ (by simpa using h1) (by unfold maxLen; omega) hb2 (by have := h.2.size; simp; omega) ?_
  · exact World.news_of_block (cs := #[u]) (t := t) (fr := (0, 0)) (heap_alloc_new w _)
  · intro v' w' hown hgrow _
    refine k v' w' ⟨?_, ?_⟩
    · rw [List.length_append]; exact hown
    · exact (h.alloc _).2.grown hgrow (by have := h.2.size; simp; omega) (fun j e => (h.1.lt j e).1)
theorem RowV.shape {w0 : World} {t : TypeId} {vs : List Value} {v : Value} {w : World} (h : RowV w0 t vs v w) : ∃ A c, v = .slice A vs.length c ∧ (0 < vs.length → ∃ g, A = some ⟨g, 0, none⟩) := by
  rcases h.1.2 with ⟨hv, h0⟩ | ⟨g, cap, cur, rfl, _⟩
  · exact ⟨none, 0, by rw [hv, h0], fun hh => absurd hh (by omega)⟩
  · exact ⟨_, cap, rfl, fun _ => ⟨g, rfl⟩⟩
theorem RowV.cell {w0 : World} {t : TypeId} {vs : List Value} {g n c : Nat} {w : World} (h : RowV w0 t vs (.slice (some ⟨g, 0, none⟩) n c) w) {j : Nat} {u : Value} (hj : vs[j]? = some u) : w.cell? ⟨g, j, none⟩ = some u := by
  have := h.1.cells (g := g) rfl j u hj
  rwa [Addr.add_mid, Nat.zero_add] at this
theorem RowV.below {w0 : World} {t : TypeId} {vs : List Value} {v : Value} {w w' : World} {B : Nat} (h : RowV w0 t vs v w) (hb : Below B w w') (hB : w.heap.size ≤ B) : RowV w0 t vs v w' := by
  refine ⟨⟨h.1.1, ?_⟩, h.2.trans (hb.mono (Nat.le_trans h.2.size hB))⟩
  rcases h.1.2 with hn | ⟨g, cap, cur, h1, h2, h3, h4⟩
  · exact .inl hn
  · exact .inr ⟨g, cap, cur, h1, h2, (hb.block g (Nat.lt_of_lt_of_le (Array.getElem?_eq_some_iff.1 h3).1 hB)).trans h3, h4⟩


def ends38 : List Nat := [0, 1, 2, 4503599627370495, 4503599627370496, 4503599627370497, 9007199254740992, 4368491638549381119, 4368491638549381120, 4368491638549381121, 4363988038922010624, 4602678819172646912, 4607182418800017407, 4607182418800017408, 4607182418800017409, 4611686018427387904, 4609434218613702656, 4841369599423283200, 4845873199050653695, 4845873199050653696, 4888657395510673408, 4890909195324358655, 4890909195324358656, 4890909195324358657, 4895412794951729152, 6908521828386340864, 6913025428013711360, 9209861237972664320, 9214364837600034816, 9218868437227405311, 9218868437227405312, 9218868437227405313, 9221120237041090559, 9221120237041090560, 9221120237041090561, 9223372036854775807, 2305843009213693952, 2301339409586323463]
def W64 (L : List Nat) : List Value := L.map fun (n : Nat) => Value.int .u64 (n : Int)
theorem W64_length (L : List Nat) : (W64 L).length = L.length := by simp [W64]
theorem W64_get (L : List Nat) (i : Nat) (hi : i < L.length) : (W64 L)[i]? = some (.int .u64 (L[i] : Int)) := by simp [W64, hi]
theorem info22 : (Try.prog.info? 22).map (fun i => (i.zero, i.size, i.bytes)) = some (some (.int .u64 0), 1, 8) := by kernel_rfl
theorem or_word (a b : Int) : ∃ n : Nat, bits .or .u64 a b = (n : Int) ∧ n < 2 ^ 64 := by
  refine ⟨(bits .or .u64 a b).toNat, ?_, ?_⟩
  · have : 0 ≤ bits .or .u64 a b := by
      show 0 ≤ IntKind.u64.wrap _
      rw [IntKind.wrap_u64]; omega
    omega
  · have : bits .or .u64 a b < 18446744073709551616 := by
      show IntKind.u64.wrap _ < _
      rw [IntKind.wrap_u64]; omega
    omega
theorem ends38_len : ends38.length = 38 := rfl
theorem ends38_word : ∀ n ∈ ends38, n < 2 ^ 64 := by decide
theorem row_start (w : World) : RowV w 22 (W64 ends38) (.slice (some ⟨w.heap.size, 0, none⟩) 38 38) (w.alloc (.cells (W64 ends38).toArray 22)) := by
  refine ⟨⟨rfl, .inr ⟨w.heap.size, 38, (W64 ends38).toArray, rfl, Nat.le_refl _, heap_alloc_new w _, Nat.le_refl _, by unfold maxLen; omega, rfl, rfl⟩⟩, (Below.refl _ _).alloc (Nat.le_refl _) _⟩
/-- What edges has told after k rounds: 38 + k words. -/
def EdgI (w : World) (k : Nat) (v : Value) (wr : World) : Prop := ∃ L : List Nat, L.length = 38 + k ∧ (∀ n ∈ L, n < 2 ^ 64) ∧ RowV w 22 (W64 L) v wr

set_option maxRecDepth 100000 in
set_option maxHeartbeats 1000000 in
theorem edges_any (w : World) : Calls Try.prog 35 #[] w fun e w' => ∃ v, e = .returned v ∧ EdgI w 38 v w' := by
  go_enter Try.func35, Try.ntmps35
  go_wp2_with fail
  go_loopw [1, 3] (fun v n wr => ∃ k : Nat, k ≤ 38 ∧ n = .int .i64 k ∧ EdgI w k v wr) (fun _ n _ => 38 - (intOf n).toNat)
  case atStart => exact ⟨0, by omega, rfl, ends38, rfl, ends38_word, row_start w⟩
  case round =>
    obtain ⟨k, hk, rfl, L, hL, hLw, hv⟩ := hrel
    obtain ⟨A, c, hv2, hA⟩ := hv.shape
    rw [W64_length] at hv2 hA
    obtain ⟨g, rfl⟩ := hA (by omega)
    rw [hv2] at hv ⊢
    clear hA hv2
    have HV := Lib.hid hv
    have HL := Lib.hid hL
    have HW := Lib.hid hLw
    clear hv
    by_cases hlt : k < 38
    · have hcell := HV.out.cell (W64_get L k (by omega))
      have m1 : (k : Int) < 38 := by omega
      have m2 : (k : Int) < (L.length : Int) := by omega
      have m3 : (0 : Int) ≤ (k : Int) := by omega
      obtain ⟨r, hr, hr2⟩ := or_word (L[k]'(by omega) : Int) 9223372036854775808
      generalize (L[k]'(by omega) : Int) = q at hcell hr
      have HR := Lib.hid hr2
      have hN : (W64 L).length ≤ 2000000 := by rw [W64_length]; omega
      have HN := Lib.hid hN
      clear hN hr2 hL hLw hlt
      go_wp2_with (at_builtin; refine wpList_pushV rfl _ _ 33 22 rfl Try.underlying33 info22 rfl (by decide) (W64 L) _ (.int .u64 (r : Int)) rfl rfl rfl HN.out HV.out ?_; intro v5 w5 HQ5)
      refine ⟨⟨k + 1, by omega, rfl, L ++ [r], by simp [HL.out]; omega, ?_, ?_⟩, ?_⟩
      · intro n hn
        rcases List.mem_append.1 hn with h | h
        · exact HW.out n h
        · simp at h; exact h ▸ HR.out
      · have e : W64 (L ++ [r]) = W64 L ++ [.int .u64 (r : Int)] := by simp [W64]
        rw [e]; exact HQ5.out
      · simp [intOf]; omega
    · have hk2 : k = 38 := by omega
      subst hk2
      go_wp2_with fail
      go_ret
      exact ⟨_, rfl, L, HL.out, HW.out, HV.out⟩
end Go.Proofs.Ytlgnkgcofdjamaa
