/-
  The part of a row below a place is in order, too; below (46).
-/
import Derived.Test.YtieoiklgoeclaaaGreatTj
namespace Go.Proofs.YtieoiklgoeclaaaGreat
open Go.RowKit

/-- E tells of each node where what is below it ends. -/
structure Ends (xs : List Nd) (E : Nat → Nat) : Prop where
  kids : ∀ i (h : i < xs.length), 0 ≤ xs[i].kids ∧ steps E xs.length xs[i].kids.toNat (i + 1) = some (E i)
  inc : ∀ x, x < xs.length → x < E x ∧ E x ≤ xs.length
theorem ends_of {xs : List Nd} {E D : Nat → Nat} (h : Laid (ksOf xs) xs.length E D) : Ends xs E := by
  have hinv := layN_inv _ _ _ E D (Nat.le_refl _) h.2.1
  exact ⟨fun i hi => by have := laid_steps h i hi; rw [ksOf_get xs i hi] at this; exact this, fun x hx => ⟨(hinv.2.2 x (by omega) hx).1, hinv.1 x⟩⟩
theorem tile {E : Nat → Nat} {n : Nat} (inc : ∀ x, x < n → x < E x ∧ E x ≤ n) : ∀ (m p b i : Nat), p ≤ n → steps E n m p = some b → p ≤ i → i < b → ∃ c, p ≤ c ∧ c ≤ i ∧ i < E c ∧ E c ≤ b ∧ c < n
  | 0, p, b, i, _, h, h1, h2 => by
    simp only [steps, Option.some.injEq] at h
    omega
  | m + 1, p, b, i, hp, h, h1, h2 => by
    simp only [steps] at h
    by_cases hn : n ≤ p
    · rw [if_pos hn] at h; cases h
    · rw [if_neg hn] at h
      have hi := inc p (by omega)
      by_cases e : i < E p
      · exact ⟨p, Nat.le_refl _, h1, e, by have := steps_far inc m _ _ hi.2 h; omega, by omega⟩
      · obtain ⟨c, c1, c2, c3, c4, c5⟩ := tile inc m (E p) b i hi.2 h (by omega) h2
        exact ⟨c, by omega, c2, c3, c4, c5⟩
theorem Ends.nest {xs : List Nd} {E : Nat → Nat} (h : Ends xs E) : ∀ (f a : Nat), xs.length - a ≤ f → a < xs.length → ∀ i, a ≤ i → i < E a → E i ≤ E a
  | 0, a, hf, ha, _, _, _ => by omega
  | f + 1, a, hf, ha, i, h1, h2 => by
    by_cases e : i = a
    · subst e; exact Nat.le_refl _
    · obtain ⟨c, c1, c2, c3, c4, c5⟩ := tile h.inc _ _ _ i (by omega) (h.kids a ha).2 (by omega) h2
      exact Nat.le_trans (Ends.nest h f c (by omega) c5 i c2 c3) c4
theorem sub_steps {E : Nat → Nat} {n a e : Nat} (inc : ∀ x, x < n → x < E x ∧ E x ≤ n) : ∀ (m p b : Nat), a ≤ p → p ≤ n → steps E n m p = some b → b ≤ e → steps (fun x => E (x + a) - a) (e - a) m (p - a) = some (b - a)
  | 0, p, b, _, _, h, _ => by
    simp only [steps, Option.some.injEq] at h ⊢
    rw [h]
  | m + 1, p, b, ha, hp, h, he => by
    simp only [steps] at h ⊢
    by_cases hn : n ≤ p
    · rw [if_pos hn] at h; cases h
    · rw [if_neg hn] at h
      have hi := inc p (by omega)
      have hf := steps_far inc m _ _ hi.2 h
      rw [if_neg (by omega), show p - a + a = p by omega]
      exact sub_steps inc m (E p) b (by omega) hi.2 h he
/-- The nodes from a place up to another. -/
def sub (xs : List Nd) (a e : Nat) : List Nd := (xs.drop a).take (e - a)
theorem sub_len {xs : List Nd} {a e : Nat} (he : e ≤ xs.length) : (sub xs a e).length = e - a := by
  unfold sub
  rw [List.length_take, List.length_drop]
  omega
theorem sub_get {xs : List Nd} {a e : Nat} (i : Nat) (h : i < (sub xs a e).length) (h2 : a + i < xs.length) : (sub xs a e)[i] = xs[a + i] := by
  simp [sub]
theorem Ends.sub {xs : List Nd} {E : Nat → Nat} (h : Ends xs E) (a : Nat) (ha : a < xs.length) : Ends (sub xs a (E a)) (fun x => E (x + a) - a) := by
  have hi := h.inc a ha
  have hl : (YtieoiklgoeclaaaGreat.sub xs a (E a)).length = E a - a := sub_len hi.2
  refine ⟨fun i hx => ?_, fun x hx => ?_⟩
  · rw [hl] at hx
    have hk := h.kids (a + i) (by omega)
    have hn := h.nest _ a (Nat.le_refl _) ha (a + i) (by omega) (by omega)
    rw [sub_get i (by rw [hl]; exact hx) (by omega)]
    refine ⟨hk.1, ?_⟩
    have := sub_steps (a := a) (e := E a) h.inc _ _ _ (by omega) (by omega) hk.2 hn
    rw [hl, show a + i + 1 - a = i + 1 by omega] at *
    rw [this, Nat.add_comm i a]
  · rw [hl] at hx ⊢
    have hn := h.nest _ a (Nat.le_refl _) ha (x + a) (by omega) (by omega)
    have := h.inc (x + a) (by omega)
    show x < E (x + a) - a ∧ E (x + a) - a ≤ E a - a
    omega
theorem Ends.told {xs ys : List Nd} {E F : Nat → Nat} (h : Ends xs E) (k : Ends ys F) (h0 : 0 < xs.length) (k0 : 0 < ys.length) : ∃ r, aheadR xs ys 0 1 = some r := by
  have := ahead_told (E1 := E) (E2 := F) h.kids k.kids xs.length 0 1 0 (by omega) (by simp only [steps]; rw [if_neg (by omega)]; rfl) (by simp only [steps]; rw [if_neg (by omega)]; rfl)
  simpa using this
theorem NAt.sub {w : World} {g off : Nat} {xs : List Nd} (h : NAt w g off xs) (a e : Nat) (he : e ≤ xs.length) : NAt w g (off + a * 5) (sub xs a e) :=
  ⟨h.1, fun j hj i v hv => by
    have hl := sub_len (a := a) he
    rw [hl] at hj
    rw [sub_get j (by rw [hl]; exact hj) (by omega)] at hv
    have := h.2 (a + j) (by omega) i v hv
    rw [show off + (a + j) * 5 + i = off + a * 5 + j * 5 + i by omega] at this
    exact this⟩
theorem KidsIn.sub {xs : List Nd} (h : KidsIn xs) (a e : Nat) : KidsIn (sub xs a e) := fun x hx => h x (List.drop_subset _ _ (List.take_subset _ _ hx))
set_option maxRecDepth 100000 in
set_option maxHeartbeats 1000000 in
theorem below_any (w : World) (g off n nc gE gD i : Nat) (E : Nat → Nat) (hE : Lies w gE (iv n E) 3) (hi : i < n) (h1 : i ≤ E i) (h2 : E i ≤ n) (hc : n ≤ nc) :
    Calls Tryz.prog 51 #[.agg (layV (some ⟨g, off, none⟩) n nc gE gD), .int .i64 i] w fun e w' => e = .returned (.slice (some ⟨g, off + i * 5, none⟩) (E i - i) (nc - i)) ∧ Below w.heap.size w w' := by
  have hA : Lies (w.alloc (.cells (layV (some ⟨g, off, none⟩) n nc gE gD) 55)) w.heap.size (layV (some ⟨g, off, none⟩) n nc gE gD) 55 := Lies.new _ _ _
  have hb0 : Below w.heap.size w (w.alloc (.cells (layV (some ⟨g, off, none⟩) n nc gE gD) 55)) := (Below.refl _ _).alloc (Nat.le_refl _) _
  have hE2 := hE.below hb0 hE.lt
  have ce := hE2.cell i (iv_get n E i hi)
  have c0 := hA.cell 0 (v := .slice (some ⟨g, off, none⟩) n nc) rfl
  have c1 := hA.cell 1 (v := .slice (some ⟨gE, 0, none⟩) n n) rfl
  obtain ⟨x, hx⟩ : ∃ x, x = E i := ⟨_, rfl⟩
  rw [← hx] at ce h1 h2 ⊢
  have q0 : (0 : Int) ≤ (i : Int) := by omega
  have q1 : (i : Int) < (n : Int) := by omega
  have q2 : (i : Int) ≤ (x : Int) := by omega
  have q3 : (x : Int) ≤ (nc : Int) := by omega
  have q4 : ¬ nc = i := by omega
  clear hA hE hE2 hx
  unfold layV at *
  go_enter Tryz.func51, Tryz.ntmps51
  go_upto_region 1 with fail
  generalize w.alloc (.cells #[.slice (some ⟨g, off, none⟩) n nc, .slice (some ⟨gE, 0, none⟩) n n, .slice (some ⟨gD, 0, none⟩) n n] 55) = W0 at *
  go_quiet (fail)
  go_wp2_with fail
  go_ret
  exact ⟨rfl, below_drewN hb0 _⟩
end Go.Proofs.YtieoiklgoeclaaaGreat
