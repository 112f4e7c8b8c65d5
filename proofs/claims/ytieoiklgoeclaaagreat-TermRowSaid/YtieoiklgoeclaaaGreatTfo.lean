/-
  What lies in order is a forest of one tree, and the other way round; how deep it is; the order of terms is that of forests.
-/
import Derived.Test.YtieoiklgoeclaaaGreatTf
namespace Go.Proofs.YtieoiklgoeclaaaGreat

theorem sub_split {xs : List Nd} {p e b : Nat} (h1 : p ≤ e) (h2 : e ≤ b) : sub xs p b = sub xs p e ++ sub xs e b := by
  unfold sub
  rw [show b - p = (e - p) + (b - e) by omega, List.take_add, List.drop_drop, show p + (e - p) = e by omega]
theorem sub_cons {xs : List Nd} {p b : Nat} (h1 : p < b) (h2 : p < xs.length) : sub xs p b = xs[p] :: sub xs (p + 1) b := by
  unfold sub
  rw [List.drop_eq_getElem_cons h2, show b - p = (b - (p + 1)) + 1 by omega, List.take_succ_cons]
theorem sub_self (xs : List Nd) (p : Nat) : sub xs p p = [] := by simp [sub]
theorem fo_of {xs : List Nd} {E : Nat → Nat} (h : Ends xs E) : ∀ (N m p b : Nat), xs.length - p ≤ N → p ≤ xs.length → steps E xs.length m p = some b → p ≤ b ∧ b ≤ xs.length ∧ ∃ f : Fo, f.cnt = m ∧ f.flat = sub xs p b
  | _, 0, p, b, _, hp, hs => by
    simp only [steps, Option.some.injEq] at hs
    subst hs
    exact ⟨Nat.le_refl _, hp, .nil, rfl, by rw [sub_self]; rfl⟩
  | 0, m + 1, p, b, hN, hp, hs => by
    simp only [steps] at hs
    rw [if_pos (by omega)] at hs
    cases hs
  | N + 1, m + 1, p, b, hN, hp, hs => by
    simp only [steps] at hs
    by_cases hn : xs.length ≤ p
    · rw [if_pos hn] at hs; cases hs
    rw [if_neg hn] at hs
    have hi := h.inc p (by omega)
    have hk := h.kids p (by omega)
    obtain ⟨k1, k2, fk, k3, k4⟩ := fo_of h N xs[p].kids.toNat (p + 1) (E p) (by omega) (by omega) hk.2
    obtain ⟨r1, r2, fr, r3, r4⟩ := fo_of h N m (E p) b (by omega) (by omega) hs
    refine ⟨by omega, r2, .cons xs[p] fk fr, by simp [Fo.cnt, r3], ?_⟩
    rw [sub_cons (by omega) (by omega), sub_split (p := p + 1) (e := E p) (by omega) r1]
    simp only [Fo.flat, k4, r4, k3]
    have e : ((xs[p].kids.toNat : Nat) : Int) = xs[p].kids := by omega
    rw [e]
theorem walk_front (E D : Nat → Nat) (n : Nat) : ∀ (k p d : Nat), walk E D n (k + 1) (p, d) = if p = n then none else walk E D n k (E p, max d (D p))
  | 0, p, d => by simp only [walk]
  | k + 1, p, d => by
    have ih := walk_front E D n k p d
    rw [show walk E D n (k + 1 + 1) (p, d) = (match walk E D n (k + 1) (p, d) with | none => none | some (a, m) => if a = n then none else some (E a, max m (D a))) from rfl, ih]
    by_cases h : p = n
    · rw [if_pos h, if_pos h]
    · rw [if_neg h, if_neg h]
      rfl
/-- At a place stands a node above a forest. -/
def AtFo (xs : List Nd) (i : Nat) (n : Nd) (k : Fo) (rest : List Nd) : Prop := xs.drop i = { n with kids := (k.cnt : Int) } :: (k.flat ++ rest)
theorem fo_at : ∀ (f : Fo) (rest : List Nd) (i : Nat), i < f.len → ∃ n k rest', AtFo (f.flat ++ rest) i n k rest'
  | .nil, _, i, h => by simp [Fo.len] at h
  | .cons n k r, rest, i, h => by
    unfold AtFo
    simp only [Fo.flat, List.cons_append, List.append_assoc]
    cases i with
    | zero => exact ⟨n, k, r.flat ++ rest, rfl⟩
    | succ i =>
      simp only [Fo.len] at h
      rw [List.drop_succ_cons]
      by_cases hk : i < k.len
      · exact fo_at k (r.flat ++ rest) i hk
      · rw [List.drop_append, List.drop_eq_nil_of_le (by rw [Fo.flat_len]; omega), List.nil_append, Fo.flat_len]
        exact fo_at r rest (i - k.len) (by omega)
def GoodL (xs : List Nd) (E D : Nat → Nat) (q : Nat) : Prop := ∀ i, q ≤ i → ∀ n k rest, AtFo xs i n k rest → E i = i + 1 + k.len ∧ D i = k.dep + 1
theorem walk_fo {xs : List Nd} {E D : Nat → Nat} {q0 : Nat} (hg : GoodL xs E D q0) : ∀ (f : Fo) (q d : Nat) (rest : List Nd), q0 ≤ q → xs.drop q = f.flat ++ rest → walk E D xs.length f.cnt (q, d) = some (q + f.len, max d f.dep)
  | .nil, q, d, rest, _, _ => by simp [Fo.cnt, walk, Fo.len, Fo.dep]
  | .cons n k r, q, d, rest, h0, h => by
    have hat : AtFo xs q n k (r.flat ++ rest) := by unfold AtFo; rw [h]; simp [Fo.flat]
    have hq : q < xs.length := by
      rcases Nat.lt_or_ge q xs.length with h1 | h1
      · exact h1
      · rw [List.drop_eq_nil_of_le h1] at h; simp [Fo.flat] at h
    obtain ⟨e1, e2⟩ := hg q h0 n k _ hat
    rw [show (Fo.cons n k r).cnt = r.cnt + 1 from rfl, walk_front, if_neg (by omega), e1, e2]
    rw [walk_fo hg r (q + 1 + k.len) _ rest (by omega) ?_]
    · simp only [Fo.len, Fo.dep, Option.some.injEq, Prod.mk.injEq]
      omega
    · unfold AtFo at hat
      rw [show q + 1 + k.len = q + (k.len + 1) by omega, ← List.drop_drop, hat, List.drop_succ_cons]
      exact List.drop_left' (Fo.flat_len k)
theorem lay_fo (xs : List Nd) (hd : ∀ i, i < xs.length → ∃ n k rest, AtFo xs i n k rest) : ∀ j, j ≤ xs.length → ∃ E D, layN (ksOf xs) xs.length j = some (E, D) ∧ GoodL xs E D (xs.length - j)
  | 0, _ => ⟨fun _ => 0, fun _ => 0, rfl, fun i hi n k rest h => by
    unfold AtFo at h
    rw [List.drop_eq_nil_of_le (by omega)] at h
    cases h⟩
  | j + 1, hj => by
    obtain ⟨E, D, h1, h2⟩ := lay_fo xs hd j (by omega)
    obtain ⟨n, k, rest, h3⟩ := hd (xs.length - 1 - j) (by omega)
    have hi : xs.length - 1 - j < xs.length := by omega
    have hks : ksOf xs (xs.length - 1 - j) = (k.cnt : Int) := by
      rw [ksOf_get xs _ hi]
      unfold AtFo at h3
      rw [List.drop_eq_getElem_cons hi] at h3
      rw [(List.cons.inj h3).1]
    have hdr : xs.drop (xs.length - 1 - j + 1) = k.flat ++ rest := by
      unfold AtFo at h3
      rw [List.drop_eq_getElem_cons hi] at h3
      exact (List.cons.inj h3).2
    have hw := walk_fo h2 k (xs.length - 1 - j + 1) 0 rest (by omega) hdr
    refine ⟨upd E (xs.length - 1 - j) (xs.length - 1 - j + 1 + k.len), upd D (xs.length - 1 - j) (max 0 k.dep + 1), ?_, ?_⟩
    · simp only [layN, h1, hks]
      rw [if_neg (by omega), Int.toNat_natCast, hw]
    · intro i hi2 n' k' rest' hat
      by_cases e : i = xs.length - 1 - j
      · subst e
        have hkk : k'.flat ++ rest' = k.flat ++ rest := by
          unfold AtFo at hat
          rw [List.drop_eq_getElem_cons hi] at hat
          rw [← (List.cons.inj hat).2, hdr]
        have hc : k'.cnt = k.cnt := by
          unfold AtFo at hat h3
          rw [h3] at hat
          have := congrArg Nd.kids (List.cons.inj hat).1
          simp only at this
          omega
        have hw' := walk_fo h2 k' (xs.length - 1 - j + 1) 0 rest' (by omega) (by rw [hdr, hkk])
        rw [hc, hw] at hw'
        simp only [Option.some.injEq, Prod.mk.injEq] at hw'
        simp only [upd, if_true]
        omega
      · simp only [upd, if_neg e]
        exact h2 i (by omega) n' k' rest' hat
theorem laid_fo (f : Fo) (hf : f.cnt = 1) : ∃ E D, Laid (ksOf f.flat) f.flat.length E D ∧ D 0 = f.dep := by
  obtain ⟨E, D, h1, h2⟩ := lay_fo f.flat (fun i hi => by
    have := fo_at f [] i (by rw [Fo.flat_len] at hi; exact hi)
    simpa using this) _ (Nat.le_refl _)
  cases f with
  | nil => simp [Fo.cnt] at hf
  | cons n k r =>
    cases r with
    | cons _ _ _ => simp [Fo.cnt] at hf
    | nil =>
      obtain ⟨e1, e2⟩ := h2 0 (by omega) n k [] (by simp [AtFo, Fo.flat])
      refine ⟨E, D, ⟨by simp [Fo.flat], h1, ?_⟩, ?_⟩
      · rw [e1, Fo.flat_len]; simp only [Fo.len]; omega
      · rw [e2]; simp [Fo.dep]
theorem layOf_laid {ks : Nat → Int} {n : Nat} {E D : Nat → Nat} (h : Laid ks n E D) : layOf ks n = some (E, D) := by
  unfold layOf
  rw [h.2.1]
  simp only
  have h0 := h.1
  have h2 := h.2.2
  first | (rw [if_neg (by omega)]) | (rw [if_pos (by omega)]) | simp [h2, Nat.ne_of_gt h0]
theorem inO_fo (f : Fo) (hf : f.cnt = 1) : inO f.flat = true := by
  obtain ⟨E, D, h, -⟩ := laid_fo f hf
  unfold inO inOrd
  rw [layOf_laid h]; rfl
def deepT (xs : List Nd) : Nat := deepOf (ksOf xs) xs.length
theorem deep_fo (f : Fo) (hf : f.cnt = 1) : deepT f.flat = f.dep := by
  obtain ⟨E, D, h, h2⟩ := laid_fo f hf
  unfold deepT deepOf
  rw [layOf_laid h]
  exact h2
theorem deep_none {xs : List Nd} (h : inO xs = false) : deepT xs = 0 := by
  unfold inO inOrd at h
  unfold deepT deepOf
  cases hl : layOf (ksOf xs) xs.length with
  | none => rfl
  | some y => rw [hl] at h; cases h
theorem fo_inO {xs : List Nd} (h : inO xs = true) : ∃ f : Fo, f.cnt = 1 ∧ f.flat = xs := by
  obtain ⟨E, D, l⟩ := inO_laid h
  have he := ends_of l
  have h0 := l.1
  have hst : steps E xs.length 1 0 = some xs.length := by
    simp only [steps]
    rw [if_neg (by omega), l.2.2]
  obtain ⟨-, -, f, h1, h2⟩ := fo_of he _ 1 0 xs.length (Nat.le_refl _) (by omega) hst
  exact ⟨f, h1, by rw [h2]; simp [sub]⟩
theorem dep_pos {f : Fo} (hf : f.cnt = 1) : 0 < f.dep := by
  cases f with
  | nil => simp [Fo.cnt] at hf
  | cons n k r => simp only [Fo.dep]; omega
theorem deep_pos (xs : List Nd) : 0 < deepT xs ↔ inO xs = true := by
  cases h : inO xs with
  | false => rw [deep_none h]; simp
  | true =>
    obtain ⟨f, h1, h2⟩ := fo_inO h
    rw [← h2, deep_fo f h1]
    simp [dep_pos h1]
theorem ord_fo (f g : Fo) (hf : f.cnt = 1) (hg : g.cnt = 1) (wf : Words f.flat) (wg : Words g.flat) : ordT f.flat g.flat = f.cmp g := by
  unfold ordT
  rw [if_pos (inO_fo f hf), if_pos (inO_fo g hg), ahead_one f g wf wg hf hg]
  rfl
theorem ordT_isO (P : List Nd → Prop) (hP : ∀ xs, P xs → Words xs) : IsO (fun (a b : {xs : List Nd // P xs}) => ordT a.1 b.1) := by
  refine ⟨fun a b => ?_, fun a b => ?_, fun a b c => ?_⟩
  · cases ha : inO a.1 with
    | false => cases hb : inO b.1 <;> simp [ordT, ha, hb]
    | true =>
      cases hb : inO b.1 with
      | false => simp [ordT, ha, hb]
      | true =>
        obtain ⟨f, f1, f2⟩ := fo_inO ha
        obtain ⟨g, g1, g2⟩ := fo_inO hb
        have wf := hP _ a.2
        have wg := hP _ b.2
        rw [← f2] at wf ⊢
        rw [← g2] at wg ⊢
        rw [ord_fo f g f1 g1 wf wg, ord_fo g f g1 f1 wg wf]
        exact isO_cmp.turn f g
  · cases ha : inO a.1 with
    | false => cases hb : inO b.1 <;> simp [ordT, ha, hb]
    | true =>
      cases hb : inO b.1 with
      | false => simp [ordT, ha, hb]
      | true =>
        obtain ⟨f, f1, f2⟩ := fo_inO ha
        obtain ⟨g, g1, g2⟩ := fo_inO hb
        have wf := hP _ a.2
        have wg := hP _ b.2
        rw [← f2] at wf ⊢
        rw [← g2] at wg ⊢
        rw [ord_fo f g f1 g1 wf wg]
        exact isO_cmp.range f g
  · intro x y
    cases ha : inO a.1 with
    | false =>
      cases hb : inO b.1 with
      | false => refine ⟨by simpa [ordT, ha, hb] using y, fun e => ⟨by simp [ordT, ha, hb], by simpa [ordT, ha, hb] using e⟩⟩
      | true =>
        cases hc : inO c.1 with
        | false => simp [ordT, hc, hb] at y
        | true => simp [ordT, ha, hc]
    | true =>
      cases hb : inO b.1 with
      | false => simp [ordT, ha, hb] at x
      | true =>
        cases hc : inO c.1 with
        | false => simp [ordT, hc, hb] at y
        | true =>
          obtain ⟨f, f1, f2⟩ := fo_inO ha
          obtain ⟨g, g1, g2⟩ := fo_inO hb
          obtain ⟨h, h1, h2⟩ := fo_inO hc
          have wf := hP _ a.2
          have wg := hP _ b.2
          have wh := hP _ c.2
          rw [← f2] at wf x ⊢
          rw [← g2] at wg x y ⊢
          rw [← h2] at wh y ⊢
          rw [ord_fo f g f1 g1 wf wg] at x
          rw [ord_fo g h g1 h1 wg wh] at y
          rw [ord_fo f h f1 h1 wf wh, ord_fo f g f1 g1 wf wg, ord_fo g h g1 h1 wg wh]
          exact isO_cmp.tri f g h x y
end Go.Proofs.YtieoiklgoeclaaaGreat
