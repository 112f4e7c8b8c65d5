/-
  Kid (20) where there is none, and what TermTree wants of forests.
-/
import Derived.Test.YtieoiklgoeclaaaTkf
import Derived.Test.YtieoiklgoeclaaaLord
namespace Go.Proofs.Ytieoiklgoeclaaa
open Go.RowKit

theorem kid_out (w : World) (a : Option Addr) (nc : Nat) (xs : List Nd) (i : Int) (x0 : Nd) (K : Fo) (hxs : xs = (Fo.cons x0 K .nil).flat) (hk : TAt w a xs) (ht : TxtIn xs) (hc : xs.length ≤ nc) (hi : i < 0 ∨ (K.cnt : Int) ≤ i) :
    Calls Try.prog 20 #[.agg #[.slice a xs.length nc], .int .i64 i] w (NoKid w) :=
  kid_tail_none w a xs.length nc i fun W0 hb hA hB =>
    (askNs_ok W0 48 #[.pointer (some ⟨w.heap.size, 0, none⟩), .pointer (some ⟨w.heap.size + 1, 0, none⟩)] (fun v _ => v = .slice none 0 0) (fun v V x h => h) (fun w => callK 48 Try.f48 Try.func48 (by kernel_rfl) (by kernel_rfl) _ w)
      (fun w1 h1 _ => (clo48_out w1 w.heap.size (w.heap.size + 1) a nc xs i x0 K ⟨hxs, (hA.below h1 hA.lt).cell 0 rfl, Nat.lt_of_lt_of_le hA.lt h1.size, (hB.below h1 hB.lt).cell 0 rfl, Nat.lt_of_lt_of_le hB.lt h1.size, (hk.below hb (Nat.le_refl _)).below h1 (Nat.le_refl _), ht, hc⟩ hi).mono fun e w2 ⟨e1, e2⟩ => ⟨none, 0, 0, e1, rfl, e2⟩)).mono fun e w' ⟨a', n', c', h1, h2, h3⟩ => ⟨by rw [h1]; rw [h2], h3⟩
theorem kid_bad (w : World) (a : Option Addr) (nc : Nat) (xs : List Nd) (i : Int) (hi : inO xs = false) (hk : TAt w a xs) :
    Calls Try.prog 20 #[.agg #[.slice a xs.length nc], .int .i64 i] w (NoKid w) :=
  kid_tail_none w a xs.length nc i fun W0 hb hA hB =>
    askNs_thrown W0 48 #[.pointer (some ⟨w.heap.size, 0, none⟩), .pointer (some ⟨w.heap.size + 1, 0, none⟩)] (fun w => callK 48 Try.f48 Try.func48 (by kernel_rfl) (by kernel_rfl) _ w)
      (fun w1 h1 => clo48_bad w1 w.heap.size (w.heap.size + 1) a xs.length nc (ksOf xs) hk.2.1 ((hA.below h1 hA.lt).cell 0 rfl) ((hk.below hb (Nat.le_refl _)).below h1 (Nat.le_refl _)).ks (layOf_in hi))
theorem sameN_refl : ∀ xs : List Nd, sameN xs xs = true
  | [] => rfl
  | x :: xs => by simp [sameN, eqN, sameN_refl xs]
theorem fo_pre : ∀ (f g : Fo) (X Y : List Nd), f.cnt = g.cnt → f.flat ++ X = g.flat ++ Y → X = Y
  | .nil, .nil, X, Y, _, h => by simpa [Fo.flat] using h
  | .nil, .cons .., _, _, h, _ => by simp [Fo.cnt] at h
  | .cons .., .nil, _, _, h, _ => by simp [Fo.cnt] at h
  | .cons n k r, .cons n' k' r', X, Y, hc, h => by
    simp only [Fo.flat, List.cons_append, List.append_assoc] at h
    obtain ⟨h1, h2⟩ := List.cons.inj h
    have hk : k.cnt = k'.cnt := by
      have := congrArg Nd.kids h1
      simp only at this
      omega
    have h3 := fo_pre k k' _ _ hk h2
    exact fo_pre r r' X Y (by simpa [Fo.cnt] using hc) h3
theorem one_more {xs : List Nd} (h : inO xs = true) (x : Nd) : deepT (xs ++ [x]) = 0 := by
  rw [deep_zero]
  cases hi : inO (xs ++ [x]) with
  | false => rfl
  | true =>
    obtain ⟨f, f1, f2⟩ := fo_inO h
    obtain ⟨g, g1, g2⟩ := fo_inO hi
    have := fo_pre f g [x] [] (by omega) (by rw [f2, g2]; simp)
    cases this
theorem one_less {xs : List Nd} (h : inO xs = true) : deepT (xs.take (xs.length - 1)) = 0 := by
  rw [deep_zero]
  cases hi : inO (xs.take (xs.length - 1)) with
  | false => rfl
  | true =>
    obtain ⟨f, f1, f2⟩ := fo_inO h
    obtain ⟨g, g1, g2⟩ := fo_inO hi
    have := fo_pre g f (xs.drop (xs.length - 1)) [] (by omega) (by rw [f2, g2]; simp)
    have hl := congrArg List.length this
    have h0 : 0 < xs.length := by
      obtain ⟨E, D, l⟩ := inO_laid h
      exact l.1
    rw [List.length_drop] at hl
    simp at hl
    omega
theorem kidsFo_flat : ∀ f : Fo, (kidsFo f).flatten = f.flat
  | .nil => rfl
  | .cons n k r => by simp [kidsFo, Fo.flat, kidsFo_flat r]
theorem join_kids (x0 : Nd) (K : Fo) : joinL { x0 with kids := (K.cnt : Int) } (kidsFo K) = (Fo.cons x0 K .nil).flat := by
  unfold joinL
  rw [kidsFo_flat, kidsFo_len]
  simp [Fo.flat]
theorem tree_fo {xs : List Nd} (h : inO xs = true) : ∃ x0 K, xs = (Fo.cons x0 K .nil).flat := by
  obtain ⟨f, f1, f2⟩ := fo_inO h
  cases f with
  | nil => simp [Fo.cnt] at f1
  | cons n k r =>
    cases r with
    | nil => exact ⟨n, k, f2.symm⟩
    | cons _ _ _ => simp [Fo.cnt] at f1
theorem deep_tree (x0 : Nd) (K : Fo) : deepT (Fo.cons x0 K .nil).flat = K.dep + 1 := by
  rw [deep_fo _ rfl]; simp [Fo.dep]
theorem deep_two (n : Nd) (x0 : Nd) (K : Fo) : deepT (joinL n [(Fo.cons x0 K .nil).flat, (Fo.cons x0 K .nil).flat]) = K.dep + 2 := by
  have := join_fo n [Fo.cons x0 K .nil, Fo.cons x0 K .nil] (fun f hf => by simp at hf; subst hf; rfl)
  simp only [List.map_cons, List.map_nil] at this
  rw [this, deep_tree]
  simp [appAll, Fo.app, Fo.dep]
theorem same_self {xs : List Nd} (h : inO xs = true) (w : Words xs) : sameT xs xs = true := by
  unfold sameT
  rw [h, ordT_self w]; rfl
theorem kid_at {K : Fo} {j : Nat} {r : Fo} (h : (kidsFo K).drop j = kidsFo r) (hc : r.cnt + j = K.cnt) (hj : j < K.cnt) : ∃ n k r', r = .cons n k r' ∧ (kidsFo K)[j]? = some (Fo.cons n k .nil).flat ∧ (kidsFo K).drop (j + 1) = kidsFo r' := by
  cases r with
  | nil => simp [Fo.cnt] at hc; omega
  | cons n k r' =>
    refine ⟨n, k, r', rfl, ?_, ?_⟩
    · have := congrArg List.head? h
      rw [List.head?_drop] at this
      rw [this]; rfl
    · rw [← List.drop_drop, h]; rfl
theorem OwnK.ts {w : World} {B : Nat} {v : Value} {l : List TK} (h : OwnK w B v l) (hl : ∀ t ∈ l, t.xs.length ≤ 1000000 ∧ (∀ y ∈ t.xs, y.kids ≤ 9223372036854775807) ∧ TxtIn t.xs) : ∃ a c, v = .slice a l.length c ∧ l.length ≤ c ∧ (0 < l.length → ∃ g, a = some ⟨g, 0, none⟩ ∧ g < w.heap.size ∧ ∀ j (hj : j < l.length), w.cell? ⟨g, j, none⟩ = some l[j].v) ∧ TsAt w a l := by
  obtain ⟨a, c, h1, h2, h3⟩ := h.isSlice
  refine ⟨a, c, h1, h2, h3, ⟨fun h0 => ?_, fun t ht => ?_⟩⟩
  · obtain ⟨g, e, hg, hj⟩ := h3 h0
    exact ⟨g, 0, e, hg, fun j hj' => by rw [Nat.zero_add]; exact hj j hj'⟩
  · obtain ⟨k1, k2, k3⟩ := hl t ht
    have ho := h.2 t ht
    unfold TK.v at ho
    have := ho.tat k1 k2
    exact ⟨this.1, this.2.2, k3⟩
end Go.Proofs.Ytieoiklgoeclaaa
