/-
  A total as it lies in memory; what it is called; which of two stands ahead; are two the same?
-/
import Derived.Test.YtilbbemdinpjcaaGreatJTTf
import Derived.Test.YtilbbemdinpjcaaGreatJTFWithin
import Derived.Test.YtilbbemdinpjcaaGreatJVe
import Derived.Test.YtilbbemdinpjcaaGreatJPb
import Derived.Deep.WholeRow
import Derived.Laws.Externs
namespace Go.Proofs.YtilbbemdinpjcaaGreat.T

theorem sub_split {xs : List Nd} {p e b : Nat} (h1 : p ≤ e) (h2 : e ≤ b) : sub xs p b = sub xs p e ++ sub xs e b := by
  unfold sub
  rw [show b - p = (e - p) + (b - e) by omega, List.take_add, List.drop_drop, show p + (e - p) = e by omega]
theorem sub_cons {xs : List Nd} {p b : Nat} (h1 : p < b) (h2 : p < xs.length) : sub xs p b = xs[p] :: sub xs (p + 1) b := by
  unfold sub
  rw [List.drop_eq_getElem_cons h2, show b - p = (b - (p + 1)) + 1 by omega, List.take_succ_cons]
theorem sub_self (xs : List Nd) (p : Nat) : sub xs p p = [] := by simp [sub]
theorem fo_of {xs : List Nd} {E : Nat → Nat} (h : Ends xs E) : ∀ (N m p b : Nat), xs.length - p ≤ N → p ≤ xs.length → steps E xs.length m p = some b → p ≤ b ∧ b ≤ xs.length ∧ ∃ f : Fo, f.cnt = m ∧ f.flat = sub xs p b
  | _, 0, p, b, _, hp, hs => by
    simp only [steps, Option.some.injEq] at hs
    subst hs
    exact ⟨Nat.le_refl _, hp, .nil, rfl, by rw [sub_self]; rfl⟩
  | 0, m + 1, p, b, hN, hp, hs => by
    simp only [steps] at hs
    rw [if_pos (by omega)] at hs
    cases hs
  | N + 1, m + 1, p, b, hN, hp, hs => by
    simp only [steps] at hs
    by_cases hn : xs.length ≤ p
    · rw [if_pos hn] at hs; cases hs
    rw [if_neg hn] at hs
    have hi := h.inc p (by omega)
    have hk := h.kids p (by omega)
    obtain ⟨k1, k2, fk, k3, k4⟩ := fo_of h N xs[p].kids.toNat (p + 1) (E p) (by omega) (by omega) hk.2
    obtain ⟨r1, r2, fr, r3, r4⟩ := fo_of h N m (E p) b (by omega) (by omega) hs
    refine ⟨by omega, r2, .cons xs[p] fk fr, by simp [Fo.cnt, r3], ?_⟩
    rw [sub_cons (by omega) (by omega), sub_split (p := p + 1) (e := E p) (by omega) r1]
    simp only [Fo.flat, k4, r4, k3]
    have e : ((xs[p].kids.toNat : Nat) : Int) = xs[p].kids := by omega
    rw [e]
theorem walk_front (E D : Nat → Nat) (n : Nat) : ∀ (k p d : Nat), walk E D n (k + 1) (p, d) = if p = n then none else walk E D n k (E p, max d (D p))
  | 0, p, d => by simp only [walk]
  | k + 1, p, d => by
    have ih := walk_front E D n k p d
    rw [show walk E D n (k + 1 + 1) (p, d) = (match walk E D n (k + 1) (p, d) with | none => none | some (a, m) => if a = n then none else some (E a, max m (D a))) from rfl, ih]
    by_cases h : p = n
    · rw [if_pos h, if_pos h]
    · rw [if_neg h, if_neg h]
      rfl
/-- At a place stands a node above a forest. -/
def AtFo (xs : List Nd) (i : Nat) (n : Nd) (k : Fo) (rest : List Nd) : Prop := xs.drop i = { n with kids := (k.cnt : Int) } :: (k.flat ++ rest)
theorem fo_at : ∀ (f : Fo) (rest : List Nd) (i : Nat), i < f.len → ∃ n k rest', AtFo (f.flat ++ rest) i n k rest'
  | .nil, _, i, h => by simp [Fo.len] at h
  | .cons n k r, rest, i, h => by
    unfold AtFo
    simp only [Fo.flat, List.cons_append, List.append_assoc]
    cases i with
    | zero => exact ⟨n, k, r.flat ++ rest, rfl⟩
    | succ i =>
      simp only [Fo.len] at h
      rw [List.drop_succ_cons]
      by_cases hk : i < k.len
      · exact fo_at k (r.flat ++ rest) i hk
      · rw [List.drop_append, List.drop_eq_nil_of_le (by rw [Fo.flat_len]; omega), List.nil_append, Fo.flat_len]
        exact fo_at r rest (i - k.len) (by omega)
def GoodL (xs : List Nd) (E D : Nat → Nat) (q : Nat) : Prop := ∀ i, q ≤ i → ∀ n k rest, AtFo xs i n k rest → E i = i + 1 + k.len ∧ D i = k.dep + 1
theorem walk_fo {xs : List Nd} {E D : Nat → Nat} {q0 : Nat} (hg : GoodL xs E D q0) : ∀ (f : Fo) (q d : Nat) (rest : List Nd), q0 ≤ q → xs.drop q = f.flat ++ rest → walk E D xs.length f.cnt (q, d) = some (q + f.len, max d f.dep)
  | .nil, q, d, rest, _, _ => by simp [Fo.cnt, walk, Fo.len, Fo.dep]
  | .cons n k r, q, d, rest, h0, h => by
    have hat : AtFo xs q n k (r.flat ++ rest) := by unfold AtFo; rw [h]; simp [Fo.flat]
    have hq : q < xs.length := by
      rcases Nat.lt_or_ge q xs.length with h1 | h1
      · exact h1
      · rw [List.drop_eq_nil_of_le h1] at h; simp [Fo.flat] at h
    obtain ⟨e1, e2⟩ := hg q h0 n k _ hat
    rw [show (Fo.cons n k r).cnt = r.cnt + 1 from rfl, walk_front, if_neg (by omega), e1, e2]
    rw [walk_fo hg r (q + 1 + k.len) _ rest (by omega) ?_]
    · simp only [Fo.len, Fo.dep, Option.some.injEq, Prod.mk.injEq]
      omega
    · unfold AtFo at hat
      rw [show q + 1 + k.len = q + (k.len + 1) by omega, ← List.drop_drop, hat, List.drop_succ_cons]
      exact List.drop_left' (Fo.flat_len k)
theorem lay_fo (xs : List Nd) (hd : ∀ i, i < xs.length → ∃ n k rest, AtFo xs i n k rest) : ∀ j, j ≤ xs.length → ∃ E D, layN (ksOf xs) xs.length j = some (E, D) ∧ GoodL xs E D (xs.length - j)
  | 0, _ => ⟨fun _ => 0, fun _ => 0, rfl, fun i hi n k rest h => by
    unfold AtFo at h
    rw [List.drop_eq_nil_of_le (by omega)] at h
    cases h⟩
  | j + 1, hj => by
    obtain ⟨E, D, h1, h2⟩ := lay_fo xs hd j (by omega)
    obtain ⟨n, k, rest, h3⟩ := hd (xs.length - 1 - j) (by omega)
    have hi : xs.length - 1 - j < xs.length := by omega
    have hks : ksOf xs (xs.length - 1 - j) = (k.cnt : Int) := by
      rw [ksOf_get xs _ hi]
      unfold AtFo at h3
      rw [List.drop_eq_getElem_cons hi] at h3
      rw [(List.cons.inj h3).1]
    have hdr : xs.drop (xs.length - 1 - j + 1) = k.flat ++ rest := by
      unfold AtFo at h3
      rw [List.drop_eq_getElem_cons hi] at h3
      exact (List.cons.inj h3).2
    have hw := walk_fo h2 k (xs.length - 1 - j + 1) 0 rest (by omega) hdr
    refine ⟨upd E (xs.length - 1 - j) (xs.length - 1 - j + 1 + k.len), upd D (xs.length - 1 - j) (max 0 k.dep + 1), ?_, ?_⟩
    · simp only [layN, h1, hks]
      rw [if_neg (by omega), Int.toNat_natCast, hw]
    · intro i hi2 n' k' rest' hat
      by_cases e : i = xs.length - 1 - j
      · subst e
        have hkk : k'.flat ++ rest' = k.flat ++ rest := by
          unfold AtFo at hat
          rw [List.drop_eq_getElem_cons hi] at hat
          rw [← (List.cons.inj hat).2, hdr]
        have hc : k'.cnt = k.cnt := by
          unfold AtFo at hat h3
          rw [h3] at hat
          have := congrArg Nd.kids (List.cons.inj hat).1
          simp only at this
          omega
        have hw' := walk_fo h2 k' (xs.length - 1 - j + 1) 0 rest' (by omega) (by rw [hdr, hkk])
        rw [hc, hw] at hw'
        simp only [Option.some.injEq, Prod.mk.injEq] at hw'
        simp only [upd, if_true]
        omega
      · simp only [upd, if_neg e]
        exact h2 i (by omega) n' k' rest' hat
theorem laid_fo (f : Fo) (hf : f.cnt = 1) : ∃ E D, Laid (ksOf f.flat) f.flat.length E D ∧ D 0 = f.dep := by
  obtain ⟨E, D, h1, h2⟩ := lay_fo f.flat (fun i hi => by
    have := fo_at f [] i (by rw [Fo.flat_len] at hi; exact hi)
    simpa using this) _ (Nat.le_refl _)
  cases f with
  | nil => simp [Fo.cnt] at hf
  | cons n k r =>
    cases r with
    | cons _ _ _ => simp [Fo.cnt] at hf
    | nil =>
      obtain ⟨e1, e2⟩ := h2 0 (by omega) n k [] (by simp [AtFo, Fo.flat])
      refine ⟨E, D, ⟨by simp [Fo.flat], h1, ?_⟩, ?_⟩
      · rw [e1, Fo.flat_len]; simp only [Fo.len]; omega
      · rw [e2]; simp [Fo.dep]
theorem layOf_laid {ks : Nat → Int} {n : Nat} {E D : Nat → Nat} (h : Laid ks n E D) : layOf ks n = some (E, D) := by
  unfold layOf
  rw [h.2.1]
  simp only
  have h0 := h.1
  have h2 := h.2.2
  first | (rw [if_neg (by omega)]) | (rw [if_pos (by omega)]) | simp [h2, Nat.ne_of_gt h0]
theorem inO_fo (f : Fo) (hf : f.cnt = 1) : inO f.flat = true := by
  obtain ⟨E, D, h, -⟩ := laid_fo f hf
  unfold inO inOrd
  rw [layOf_laid h]; rfl
def deepT (xs : List Nd) : Nat := deepOf (ksOf xs) xs.length
theorem deep_fo (f : Fo) (hf : f.cnt = 1) : deepT f.flat = f.dep := by
  obtain ⟨E, D, h, h2⟩ := laid_fo f hf
  unfold deepT deepOf
  rw [layOf_laid h]
  exact h2
theorem deep_none {xs : List Nd} (h : inO xs = false) : deepT xs = 0 := by
  unfold inO inOrd at h
  unfold deepT deepOf
  cases hl : layOf (ksOf xs) xs.length with
  | none => rfl
  | some y => rw [hl] at h; cases h
theorem fo_inO {xs : List Nd} (h : inO xs = true) : ∃ f : Fo, f.cnt = 1 ∧ f.flat = xs := by
  obtain ⟨E, D, l⟩ := inO_laid h
  have he := ends_of l
  have h0 := l.1
  have hst : steps E xs.length 1 0 = some xs.length := by
    simp only [steps]
    rw [if_neg (by omega), l.2.2]
  obtain ⟨-, -, f, h1, h2⟩ := fo_of he _ 1 0 xs.length (Nat.le_refl _) (by omega) hst
  exact ⟨f, h1, by rw [h2]; simp [sub]⟩
theorem dep_pos {f : Fo} (hf : f.cnt = 1) : 0 < f.dep := by
  cases f with
  | nil => simp [Fo.cnt] at hf
  | cons n k r => simp only [Fo.dep]; omega
theorem deep_pos (xs : List Nd) : 0 < deepT xs ↔ inO xs = true := by
  cases h : inO xs with
  | false => rw [deep_none h]; simp
  | true =>
    obtain ⟨f, h1, h2⟩ := fo_inO h
    rw [← h2, deep_fo f h1]
    simp [dep_pos h1]
theorem ord_fo (f g : Fo) (hf : f.cnt = 1) (hg : g.cnt = 1) (wf : Words f.flat) (wg : Words g.flat) : ordT f.flat g.flat = f.cmp g := by
  unfold ordT
  rw [if_pos (inO_fo f hf), if_pos (inO_fo g hg), ahead_one f g wf wg hf hg]
  rfl
theorem ordT_isO (P : List Nd → Prop) (hP : ∀ xs, P xs → Words xs) : IsO (fun (a b : {xs : List Nd // P xs}) => ordT a.1 b.1) := by
  refine ⟨fun a b => ?_, fun a b => ?_, fun a b c => ?_⟩
  · cases ha : inO a.1 with
    | false => cases hb : inO b.1 <;> simp [ordT, ha, hb]
    | true =>
      cases hb : inO b.1 with
      | false => simp [ordT, ha, hb]
      | true =>
        obtain ⟨f, f1, f2⟩ := fo_inO ha
        obtain ⟨g, g1, g2⟩ := fo_inO hb
        have wf := hP _ a.2
        have wg := hP _ b.2
        rw [← f2] at wf ⊢
        rw [← g2] at wg ⊢
        rw [ord_fo f g f1 g1 wf wg, ord_fo g f g1 f1 wg wf]
        exact isO_cmp.turn f g
  · cases ha : inO a.1 with
    | false => cases hb : inO b.1 <;> simp [ordT, ha, hb]
    | true =>
      cases hb : inO b.1 with
      | false => simp [ordT, ha, hb]
      | true =>
        obtain ⟨f, f1, f2⟩ := fo_inO ha
        obtain ⟨g, g1, g2⟩ := fo_inO hb
        have wf := hP _ a.2
        have wg := hP _ b.2
        rw [← f2] at wf ⊢
        rw [← g2] at wg ⊢
        rw [ord_fo f g f1 g1 wf wg]
        exact isO_cmp.range f g
  · intro x y
    cases ha : inO a.1 with
    | false =>
      cases hb : inO b.1 with
      | false => refine ⟨by simpa [ordT, ha, hb] using y, fun e => ⟨by simp [ordT, ha, hb], by simpa [ordT, ha, hb] using e⟩⟩
      | true =>
        cases hc : inO c.1 with
        | false => simp [ordT, hc, hb] at y
        | true => simp [ordT, ha, hc]
    | true =>
      cases hb : inO b.1 with
      | false => simp [ordT, ha, hb] at x
      | true =>
        cases hc : inO c.1 with
        | false => simp [ordT, hc, hb] at y
        | true =>
          obtain ⟨f, f1, f2⟩ := fo_inO ha
          obtain ⟨g, g1, g2⟩ := fo_inO hb
          obtain ⟨h, h1, h2⟩ := fo_inO hc
          have wf := hP _ a.2
          have wg := hP _ b.2
          have wh := hP _ c.2
          rw [← f2] at wf x ⊢
          rw [← g2] at wg x y ⊢
          rw [← h2] at wh y ⊢
          rw [ord_fo f g f1 g1 wf wg] at x
          rw [ord_fo g h g1 h1 wg wh] at y
          rw [ord_fo f h f1 h1 wf wh, ord_fo f g f1 g1 wf wg, ord_fo g h g1 h1 wg wh]
          exact isO_cmp.tri f g h x y
end Go.Proofs.YtilbbemdinpjcaaGreat.T
namespace Go.Proofs.YtilbbemdinpjcaaGreat.T
open Go.RowKit

def endsT (xs : List Nd) : Nat → Nat := match layOf (ksOf xs) xs.length with
  | none => fun _ => 0
  | some (E, _) => E
/-- Whether a term is right, of so many nodes at most, so deep at most. -/
def fitsB (xs : List Nd) (most deep : Int) : Bool := decide ((xs.length : Int) ≤ most) && (inO xs && (decide ((deepT xs : Int) ≤ deep) && kindsB xs (endsT xs)))
set_option maxRecDepth 100000 in
set_option maxHeartbeats 1000000 in
theorem clo62_ok (w : World) (p q : Nat) (a : Option Addr) (nc : Nat) (xs : List Nd) (deep : Int) (E D : Nat → Nat) (hp : w.cell? ⟨p, 0, none⟩ = some (.slice a xs.length nc)) (hq : w.cell? ⟨q, 0, none⟩ = some (.int .i64 deep)) (hplt : q < w.heap.size) (hk : TAt w a xs) (hc : xs.length ≤ nc) (hl : Laid (ksOf xs) xs.length E D) :
    Calls Tryz.prog 242 #[.pointer (some ⟨p, 0, none⟩), .pointer (some ⟨q, 0, none⟩)] w fun e w' => e = .returned (.bool (decide ((D 0 : Int) ≤ deep) && kindsB xs E)) ∧ Below w.heap.size w w' := by
  have h := laid_ok a xs.length nc (ksOf xs) E D w hk.2.1 hk.ks hl
  obtain ⟨g, off, ea, hx⟩ := hk.1 hl.1
  subst ea
  obtain ⟨n, hn⟩ : ∃ n, n = xs.length := ⟨_, rfl⟩
  have hle : n ≤ 1000000 := by rw [hn]; exact hk.2.1
  rw [← hn] at hp h hc
  have hn0 : 0 < n := by rw [hn]; exact hl.1
  have H := Lib.hid (And.intro h (And.intro hx (And.intro hn (And.intro hl (And.intro hc (And.intro hle (And.intro hplt hn0)))))))
  obtain ⟨z, hz⟩ : ∃ z, z = (decide ((D 0 : Int) ≤ deep) && kindsB xs E) := ⟨_, rfl⟩
  rw [← hz]
  have HZ := Lib.hid hz
  have HQ := Lib.hid hq
  clear h hx hn hl hc hle hk hz hplt hn0 hq
  go_enter Tryz.func242, Tryz.ntmps242
  go_wp2_with fail
  refine H.out.1.mono ?_
  rintro e w2 ⟨gE, gD, rfl, b1, b2, z1, z2, hb⟩
  unfold layV
  have HB := Lib.hid (And.intro z1 (And.intro z2 hb))
  clear b1 b2 z1 z2 hb hp
  go_upto_region 2 with fail
  have hA : Lies (w2.alloc (.cells #[.slice (some ⟨g, off, none⟩) n nc, .slice (some ⟨gE, 0, none⟩) n n, .slice (some ⟨gD, 0, none⟩) n n] 279)) w2.heap.size #[.slice (some ⟨g, off, none⟩) n nc, .slice (some ⟨gE, 0, none⟩) n n, .slice (some ⟨gD, 0, none⟩) n n] 279 := Lies.new _ _ _
  have hb3 : Below w2.heap.size w2 (w2.alloc (.cells #[.slice (some ⟨g, off, none⟩) n nc, .slice (some ⟨gE, 0, none⟩) n n, .slice (some ⟨gD, 0, none⟩) n n] 279)) := (Below.refl _ _).alloc (Nat.le_refl _) _
  generalize w2.alloc (.cells #[.slice (some ⟨g, off, none⟩) n nc, .slice (some ⟨gE, 0, none⟩) n n, .slice (some ⟨gD, 0, none⟩) n n] 279) = W3 at hA hb3 ⊢
  have hbw := HB.out.2.2.trans (hb3.mono HB.out.2.2.size)
  obtain ⟨d0, hd0⟩ : ∃ d, d = D 0 := ⟨_, rfl⟩
  have hS : ∀ V, Below W3.heap.size W3 V → V.cell? ⟨w2.heap.size, 0, none⟩ = some (.slice (some ⟨g, off, none⟩) n nc) ∧ V.cell? ⟨w2.heap.size, 1, none⟩ = some (.slice (some ⟨gE, 0, none⟩) n n) ∧ V.cell? ⟨w2.heap.size, 2, none⟩ = some (.slice (some ⟨gD, 0, none⟩) n n) ∧ V.cell? ⟨gD, 0, none⟩ = some (.int .i64 d0) ∧ V.cell? ⟨q, 0, none⟩ = some (.int .i64 deep) := fun V hV => by
    have a1 := hA.below hV hA.lt
    have a2 := (HB.out.2.1.below hb3 HB.out.2.1.lt).below hV (Nat.lt_of_lt_of_le HB.out.2.1.lt hb3.size)
    refine ⟨a1.cell 0 rfl, a1.cell 1 rfl, a1.cell 2 rfl, by rw [hd0]; exact a2.cell 0 (iv_get n D 0 H.out.2.2.2.2.2.2.2), ?_⟩
    rw [hV.cell (p := ⟨q, 0, none⟩) (Nat.lt_of_lt_of_le H.out.2.2.2.2.2.2.1 hbw.size), hbw.cell (p := ⟨q, 0, none⟩) H.out.2.2.2.2.2.2.1]
    exact HQ.out
  have hof : ∀ V, Below W3.heap.size W3 V → Calls Tryz.prog 244 #[.agg #[.slice (some ⟨g, off, none⟩) n nc, .slice (some ⟨gE, 0, none⟩) n n, .slice (some ⟨gD, 0, none⟩) n n]] V fun e w' => e = .returned (.bool (kindsB xs E)) ∧ Below W3.heap.size W3 w' := fun V hV => by
    have hbV := hbw.trans (hV.mono hbw.size)
    exact (ofKinds_any V g off n nc gE gD xs E (H.out.2.1.below hbV H.out.2.1.1) H.out.2.2.1 ((HB.out.1.below hb3 HB.out.1.lt).below hV (Nat.lt_of_lt_of_le HB.out.1.lt hb3.size)) (ends_of H.out.2.2.2.1) (kidsIn_of H.out.2.2.2.1 (by rw [← H.out.2.2.1]; exact H.out.2.2.2.2.2.1)) H.out.2.2.2.2.1 H.out.2.2.2.2.2.1).mono fun e w' k => ⟨k.1, hV.trans (k.2.mono hV.size)⟩
  obtain ⟨kb, hkb⟩ : ∃ kb, kb = kindsB xs E := ⟨_, rfl⟩
  rw [← hkb] at hof
  have d1 : Below W3.heap.size W3 W3.drew := (Below.refl _ _).drew
  obtain ⟨s0, s1, s2, s3, s4⟩ := hS W3 (Below.refl _ _)
  have p1 : (0 : Int) < (n : Int) := by have := H.out.2.2.2.2.2.2.2; omega
  have p2 : 0 < n := H.out.2.2.2.2.2.2.2
  have HS := Lib.hid hS
  have HO := Lib.hid hof
  have HW := Lib.hid (And.intro hbw (And.intro hd0 hkb))
  clear hS hof hA hb3 hbw hd0 hkb
  by_cases hd : (d0 : Int) ≤ deep
  · have e1 : Hid (z = kb) := Lib.hid (by rw [HZ.out, HW.out.2.2, ← HW.out.2.1, decide_eq_true hd, Bool.true_and])
    go_region_held3 (fun V => V.cell? ⟨w2.heap.size, 0, none⟩ = some (.slice (some ⟨g, off, none⟩) n nc) ∧ V.cell? ⟨w2.heap.size, 1, none⟩ = some (.slice (some ⟨gE, 0, none⟩) n n) ∧ V.cell? ⟨w2.heap.size, 2, none⟩ = some (.slice (some ⟨gD, 0, none⟩) n n) ∧ V.cell? ⟨gD, 0, none⟩ = some (.int .i64 d0) ∧ V.cell? ⟨q, 0, none⟩ = some (.int .i64 deep)) (first | go_keep | exact HS.out _ (by assumption)) (first | (with_reducible refine (HO.out _ (by assumption)).mono ?_; rintro e w4 ⟨rfl, hb4⟩))
    go_wp2_with fail
    go_ret
    exact ⟨by rw [e1.out]; rfl, HW.out.1.trans (hb4.mono HW.out.1.size)⟩
  · have e1 : Hid (z = false) := Lib.hid (by rw [HZ.out, ← HW.out.2.1, decide_eq_false hd, Bool.false_and])
    have hd2 : decide ((d0 : Int) ≤ deep) = false := decide_eq_false hd
    go_quiet (fail)
    go_wp2_with fail
    go_ret
    exact ⟨by rw [e1.out]; rfl, below_drewN HW.out.1 _⟩
theorem clo62_bad (w : World) (p q : Nat) (a : Option Addr) (n nc : Nat) (ks : Nat → Int) (hn : n ≤ 1000000) (hp : w.cell? ⟨p, 0, none⟩ = some (.slice a n nc)) (hk : KsAt w a n ks) (hl : layOf ks n = none) :
    Calls Tryz.prog 242 #[.pointer (some ⟨p, 0, none⟩), .pointer (some ⟨q, 0, none⟩)] w fun e w' => ThrownT e ∧ Below w.heap.size w w' := by
  have h := laid_bad a n nc ks w hn hk (layOf_none hl)
  have H := Lib.hid h
  clear h hk hl hn
  go_enter Tryz.func242, Tryz.ntmps242
  go_wp2_with fail
  refine H.out.mono ?_
  rintro e w2 ⟨⟨v, rfl⟩, hb⟩
  have HB := Lib.hid hb
  clear hb
  go_wp2_with fail
  exact ⟨rfl, ⟨_, rfl⟩, HB.out⟩
set_option maxRecDepth 100000 in
set_option maxHeartbeats 1000000 in
theorem fits_any (w : World) (a : Option Addr) (nc : Nat) (xs : List Nd) (most deep : Int) (hk : TAt w a xs) (hc : xs.length ≤ nc) :
    Calls Tryz.prog 194 #[.agg #[.slice a xs.length nc], .int .i64 most, .int .i64 deep] w fun e w' => e = .returned (.bool (fitsB xs most deep)) ∧ Below w.heap.size w w' := by
  have hmf : ∀ (fn : Fn) (first cap : Array Value) (w : World), (Instr.makeFunc fn first cap).run Tryz.prog w = .ok (.func fn first cap) w := fun _ _ _ _ => rfl
  have hA : Lies ((w.alloc (.cells #[.slice a xs.length nc] 24)).alloc (.cells #[.int .i64 deep] 3)) w.heap.size #[.slice a xs.length nc] 24 := (Lies.new _ _ _).alloc _
  have hB : Lies ((w.alloc (.cells #[.slice a xs.length nc] 24)).alloc (.cells #[.int .i64 deep] 3)) (w.heap.size + 1) #[.int .i64 deep] 3 := by
    have := Lies.new (w.alloc (.cells #[.slice a xs.length nc] 24)) #[.int .i64 deep] 3
    simpa using this
  have hb0 : Below w.heap.size w ((w.alloc (.cells #[.slice a xs.length nc] 24)).alloc (.cells #[.int .i64 deep] 3)) := ((Below.refl _ _).alloc (Nat.le_refl _) _).alloc (by simp) _
  obtain ⟨z, hz⟩ : ∃ z, z = (inO xs && (decide ((deepT xs : Int) ≤ deep) && kindsB xs (endsT xs))) := ⟨_, rfl⟩
  have hR : fitsB xs most deep = (decide ((xs.length : Int) ≤ most) && z) := by rw [hz]; rfl
  rw [hR]
  obtain ⟨zz, hzz⟩ : ∃ zz, zz = (decide ((xs.length : Int) ≤ most) && z) := ⟨_, rfl⟩
  rw [← hzz]
  have HZ := Lib.hid hzz
  clear hzz hR
  go_enter Tryz.func194, Tryz.ntmps194
  go_upto_region 1 with fail
  generalize ((w.alloc (.cells #[.slice a xs.length nc] 24)).alloc (.cells #[.int .i64 deep] 3)) = W0 at *
  have hask : Calls Tryz.prog 241 #[.bool false, .func (Fn.func 242) #[] #[.pointer (some ⟨w.heap.size, 0, none⟩), .pointer (some ⟨w.heap.size + 1, 0, none⟩)]] W0 fun e w' => e = .returned (.bool z) ∧ Below W0.heap.size W0 w' := by
    have hT := fun V (hV : Below W0.heap.size W0 V) => hk.below (hb0.trans (hV.mono hb0.size)) (Nat.le_refl _)
    cases hl : layOf (ksOf xs) xs.length with
    | none =>
      have e1 : z = false := by rw [hz]; unfold inO inOrd; rw [hl]; rfl
      rw [e1]
      exact askB_thrown _ false 242 _ (fun w => callK 242 Tryz.f242 Tryz.func242 (by kernel_rfl) (by kernel_rfl) _ w) fun w1 h1 =>
        clo62_bad w1 w.heap.size (w.heap.size + 1) a xs.length nc (ksOf xs) hk.2.1 ((hA.below h1 hA.lt).cell 0 rfl) (hT w1 h1).ks hl
    | some x =>
      obtain ⟨E, D⟩ := x
      have e1 : z = (decide ((D 0 : Int) ≤ deep) && kindsB xs E) := by rw [hz]; unfold inO inOrd deepT deepOf endsT; rw [hl]; rfl
      rw [e1]
      exact askB_ok _ false _ 242 _ (fun w => callK 242 Tryz.f242 Tryz.func242 (by kernel_rfl) (by kernel_rfl) _ w) fun w1 h1 =>
        clo62_ok w1 w.heap.size (w.heap.size + 1) a nc xs deep E D ((hA.below h1 hA.lt).cell 0 rfl) ((hB.below h1 hB.lt).cell 0 rfl) (Nat.lt_of_lt_of_le hB.lt h1.size) (hT w1 h1) hc (layOf_some hl)
  have c0 := hA.cell 0 (v := .slice a xs.length nc) rfl
  obtain ⟨n, hn⟩ : ∃ n, n = xs.length := ⟨_, rfl⟩
  rw [← hn] at c0
  have H := Lib.hid (And.intro hask (And.intro hb0 hn))
  have hle : n ≤ 1000000 := by rw [hn]; exact hk.2.1
  clear hk hc hA hB hb0 hz hask hn
  by_cases hm : (n : Int) ≤ most
  · have e1 : Hid (zz = z) := Lib.hid (by rw [HZ.out, ← H.out.2.2, decide_eq_true hm, Bool.true_and])
    have hm2 : ¬ most < (n : Int) := by omega
    go_wp2_with fail
    refine H.out.1.mono ?_
    rintro e w2 ⟨rfl, hb2⟩
    have HB := Lib.hid (H.out.2.1.trans (hb2.mono H.out.2.1.size))
    clear hb2
    go_wp2_with fail
    go_ret
    exact ⟨by rw [e1.out]; rfl, HB.out⟩
  · have e1 : Hid (zz = false) := Lib.hid (by rw [HZ.out, ← H.out.2.2, decide_eq_false hm, Bool.false_and])
    have hm2 : most < (n : Int) := by omega
    go_wp2_with fail
    go_ret
    exact ⟨by rw [e1.out]; rfl, H.out.2.1⟩
def rightB (xs : List Nd) : Bool := fitsB xs 100 16
set_option maxRecDepth 100000 in
theorem rightT_any (w : World) (a : Option Addr) (nc : Nat) (xs : List Nd) (hk : TAt w a xs) (hc : xs.length ≤ nc) :
    Calls Tryz.prog 118 #[.agg #[.slice a xs.length nc]] w fun e w' => e = .returned (.bool (rightB xs)) ∧ Below w.heap.size w w' := by
  have hb : Below w.heap.size w (w.alloc (.cells #[.slice a xs.length nc] 24)) := (Below.refl _ _).alloc (Nat.le_refl _) _
  have h := fits_any (w.alloc (.cells #[.slice a xs.length nc] 24)) a nc xs 100 16 (hk.below hb (Nat.le_refl _)) hc
  obtain ⟨z, hz⟩ : ∃ z, z = rightB xs := ⟨_, rfl⟩
  have h' := h
  rw [show fitsB xs 100 16 = z from hz.symm] at h'
  rw [← hz]
  have H := Lib.hid (And.intro h' hb)
  obtain ⟨n, hn⟩ : ∃ n, n = xs.length := ⟨_, rfl⟩
  rw [← hn] at H ⊢
  clear h h' hb hk hc hz hn
  go_enter Tryz.func118, Tryz.ntmps118
  go_wp2_with fail
  refine H.out.1.mono ?_
  rintro e w2 ⟨rfl, hb2⟩
  have HB := Lib.hid (H.out.2.trans (hb2.mono H.out.2.size))
  clear hb2
  go_wp2_with fail
  go_ret
  exact ⟨rfl, HB.out⟩
end Go.Proofs.YtilbbemdinpjcaaGreat.T
namespace Go.Proofs.YtilbbemdinpjcaaGreat.P
set_option maxRecDepth 100000
open Go.RowKit Go.Sort

theorem keyed_hash : Tryz.prog.keyTypeAt 5 30 = true := by kernel_rfl
theorem formed_hash (p : List UInt8) (h : p.length = 32) : (Value.agg (B8 p)).formed Tryz.prog 30 = true := by
  obtain ⟨a0, a1, a2, a3, a4, a5, a6, a7, a8, a9, a10, a11, a12, a13, a14, a15, a16, a17, a18, a19, a20, a21, a22, a23, a24, a25, a26, a27, a28, a29, a30, a31, rfl⟩ := list32 p h
  kernel_rfl
theorem eq_hash (w : World) (p q : List UInt8) (hp : p.length = 32) (hq : q.length = 32) : (Op.equalIn 10000 30 (.agg (B8 p)) (.agg (B8 q))).run Tryz.prog w = .ok (decide (p = q)) w := by
  obtain ⟨r, hr, hi⟩ := run_equalIn_deep 9995 5 30 keyed_hash w 5 5 (.agg (B8 p)) (.agg (B8 q)) _ _ (formed_hash p hp) (formed_hash q hq) (litsH 3 p hp) (litsH 3 q hq)
  have e : r = decide (p = q) := by
    rw [Bool.eq_iff_iff, decide_eq_true_iff, hi]
    exact ⟨map_u8_inj, fun e => by rw [e]⟩
  rw [← e]
  exact hr
/-- An output: the address, the bundle, the datum. -/
structure Ot where
  prog : Bool
  ah : List UInt8
  v : Va
  kind : Int
  dh : List UInt8
  tp : Option Addr
  ns : List T.Nd
  tc : Nat
def otC (o : Ot) : Array Value := #[.bool o.prog] ++ B8 o.ah ++ #[.int .i64 o.v.coin, .slice o.v.pa o.v.l.length o.v.c, .int .i64 o.kind] ++ B8 o.dh ++ #[.slice o.tp o.ns.length o.tc]
structure OtOk (w : World) (o : Ot) : Prop where
  ah : o.ah.length = 32
  v : VaOk w o.v
  dh : o.dh.length = 32
  t : T.TAt w o.tp o.ns
  tc : o.ns.length ≤ o.tc
theorem OtOk.below {w w' : World} {o : Ot} {B : Nat} (h : OtOk w o) (hb : Below B w w') (hB : w.heap.size ≤ B) : OtOk w' o := ⟨h.ah, ⟨h.v.1, h.v.2.1, h.v.2.2.below hb hB⟩, h.dh, h.t.below hb hB, h.tc⟩
theorem otC_size (o : Ot) (h1 : o.ah.length = 32) (h2 : o.dh.length = 32) : (otC o).size = 69 := by simp [otC, B8_size, h1, h2]
theorem otC_one (o : Ot) : (otC o).all (·.oneCell') = true := by
  unfold otC
  simp only [Array.all_append, B8_one]
  simp [Value.oneCell']
theorem otC_list (o : Ot) : otC o = (Value.bool o.prog :: ((B8 o.ah).toList ++ (Value.int .i64 o.v.coin :: Value.slice o.v.pa o.v.l.length o.v.c :: Value.int .i64 o.kind :: ((B8 o.dh).toList ++ [Value.slice o.tp o.ns.length o.tc])))).toArray := by
  simp [otC]
theorem otC_head (o : Ot) (h1 : o.ah.length = 32) : (otC o)[33]? = some (.int .i64 o.v.coin) ∧ (otC o)[34]? = some (.slice o.v.pa o.v.l.length o.v.c) ∧ (otC o)[35]? = some (.int .i64 o.kind) := by
  have hl : (B8 o.ah).toList.length = 32 := by rw [Array.length_toList, B8_size, h1]
  rw [otC_list]
  refine ⟨?_, ?_, ?_⟩ <;> rw [List.getElem?_toArray, List.getElem?_cons_succ, List.getElem?_append_right (by omega), hl] <;> rfl
theorem otC_tail (o : Ot) (h1 : o.ah.length = 32) (h2 : o.dh.length = 32) : (otC o)[68]? = some (.slice o.tp o.ns.length o.tc) := by
  have hl : (B8 o.ah).toList.length = 32 := by rw [Array.length_toList, B8_size, h1]
  have hm : (B8 o.dh).toList.length = 32 := by rw [Array.length_toList, B8_size, h2]
  rw [otC_list, List.getElem?_toArray, List.getElem?_cons_succ, List.getElem?_append_right (by omega), hl]
  show (Value.int .i64 o.v.coin :: Value.slice o.v.pa o.v.l.length o.v.c :: Value.int .i64 o.kind :: ((B8 o.dh).toList ++ [Value.slice o.tp o.ns.length o.tc]))[35]? = _
  rw [List.getElem?_cons_succ, List.getElem?_cons_succ, List.getElem?_cons_succ, List.getElem?_append_right (by omega), hm]
  rfl
theorem otC_dh (o : Ot) (h1 : o.ah.length = 32) (j : Nat) (v : Value) (h : (B8 o.dh).toList[j]? = some v) : (otC o)[36 + j]? = some v := by
  have hl : (B8 o.ah).toList.length = 32 := by rw [Array.length_toList, B8_size, h1]
  have hj := (List.getElem?_eq_some_iff.1 h).1
  rw [otC_list, List.getElem?_toArray, show 36 + j = (35 + j) + 1 by omega, List.getElem?_cons_succ, List.getElem?_append_right (by omega), hl, show 35 + j - 32 = j + 1 + 1 + 1 by omega, List.getElem?_cons_succ, List.getElem?_cons_succ, List.getElem?_cons_succ, List.getElem?_append_left hj]
  exact h
theorem otC_ah (o : Ot) (j : Nat) (v : Value) (h : (B8 o.ah).toList[j]? = some v) : (otC o)[1 + j]? = some v := by
  have hj := (List.getElem?_eq_some_iff.1 h).1
  rw [otC_list, List.getElem?_toArray, show 1 + j = j + 1 by omega, List.getElem?_cons_succ, List.getElem?_append_left hj]
  exact h
/-- What lies where an output lies, from some place on. -/
structure OtAt (w : World) (g off : Nat) (o : Ot) : Prop where
  coin : w.cell? ⟨g, off + 33, none⟩ = some (.int .i64 o.v.coin)
  assets : w.cell? ⟨g, off + 34, none⟩ = some (.slice o.v.pa o.v.l.length o.v.c)
  kind : w.cell? ⟨g, off + 35, none⟩ = some (.int .i64 o.kind)
  dh : w.rangeAt g (off + 36) (B8 o.dh).toList
  term : w.cell? ⟨g, off + 68, none⟩ = some (.slice o.tp o.ns.length o.tc)
theorem otAt_of {w : World} {g off : Nat} {o : Ot} (h : w.rangeAt g off (otC o).toList) (h1 : o.ah.length = 32) (h2 : o.dh.length = 32) : OtAt w g off o := by
  have key : ∀ j v, (otC o)[j]? = some v → w.cell? ⟨g, off + j, none⟩ = some v := fun j v hv => h j v (by rw [Array.getElem?_toList]; exact hv)
  obtain ⟨a, b, c⟩ := otC_head o h1
  exact ⟨key _ _ a, key _ _ b, key _ _ c, fun j v hv => by rw [Nat.add_assoc]; exact key _ _ (otC_dh o h1 j v hv), key _ _ (otC_tail o h1 h2)⟩
theorem lies_range {w : World} {g : Nat} {cs : Array Value} {t : TypeId} (h : Lies w g cs t) : w.rangeAt g 0 cs.toList := fun j v hv => by
  rw [Nat.zero_add]
  exact h.cell j (by rw [← Array.getElem?_toList]; exact hv)
theorem lies_at {w : World} {g : Nat} {o : Ot} {t : TypeId} (h : Lies w g (otC o) t) (h1 : o.ah.length = 32) (h2 : o.dh.length = 32) : OtAt w g 0 o := otAt_of (lies_range h) h1 h2
def zeroH : List UInt8 := List.replicate 32 0
def haveB (o : Ot) : Bool :=
  if o.kind = 0 then decide (o.dh = zeroH) && decide (o.ns.length = 0)
  else if o.kind = 1 then decide (o.ns.length = 0)
  else if o.kind = 2 then decide (o.dh = zeroH) && T.rightB o.ns
  else false
theorem must1 (U : World) (a : Bool) : Calls Tryz.prog 62 #[.slice (some ⟨U.heap.size, 0, none⟩) 1 1] (U.alloc (.cells #[.bool a] 4)) fun e w' => Must a e ∧ Below U.heap.size U w' := by
  have h := must_any (U.alloc (.cells #[.bool a] 4)) U.heap.size 1 4 [a] (Lies.new _ _ _) (by simp)
  have hb : Below U.heap.size U (U.alloc (.cells #[.bool a] 4)) := (Below.refl _ _).alloc (Nat.le_refl _) _
  rw [show [a].all id = a by simp] at h
  exact h.mono fun e w' k => ⟨k.1, hb.trans (k.2.mono hb.size)⟩
theorem must2 (U : World) (a b : Bool) : Calls Tryz.prog 62 #[.slice (some ⟨U.heap.size, 0, none⟩) 2 2] (U.alloc (.cells #[.bool a, .bool b] 4)) fun e w' => Must (a && b) e ∧ Below U.heap.size U w' := by
  have h := must_any (U.alloc (.cells #[.bool a, .bool b] 4)) U.heap.size 2 4 [a, b] (Lies.new _ _ _) (by simp)
  have hb : Below U.heap.size U (U.alloc (.cells #[.bool a, .bool b] 4)) := (Below.refl _ _).alloc (Nat.le_refl _) _
  rw [show [a, b].all id = (a && b) by simp] at h
  exact h.mono fun e w' k => ⟨k.1, hb.trans (k.2.mono hb.size)⟩
theorem must3 (U : World) (a b c : Bool) : Calls Tryz.prog 62 #[.slice (some ⟨U.heap.size, 0, none⟩) 3 3] (U.alloc (.cells #[.bool a, .bool b, .bool c] 4)) fun e w' => Must (a && b && c) e ∧ Below U.heap.size U w' := by
  have h := must_any (U.alloc (.cells #[.bool a, .bool b, .bool c] 4)) U.heap.size 3 4 [a, b, c] (Lies.new _ _ _) (by simp)
  have hb : Below U.heap.size U (U.alloc (.cells #[.bool a, .bool b, .bool c] 4)) := (Below.refl _ _).alloc (Nat.le_refl _) _
  rw [show [a, b, c].all id = (a && b && c) by simp [Bool.and_assoc]] at h
  exact h.mono fun e w' k => ⟨k.1, hb.trans (k.2.mono hb.size)⟩
end Go.Proofs.YtilbbemdinpjcaaGreat.P
namespace Go.Proofs.YtilbbemdinpjcaaGreat.P
set_option maxRecDepth 100000
open Go.RowKit Go.Sort
attribute [-go_sem] Instr.build

theorem built_zeroH : Tryz.prog.built 30 [] = some (B8 zeroH) := by kernel_rfl
set_option maxHeartbeats 8000000 in
theorem mustHave_any (w : World) (o : Ot) (h : OtOk w o) :
    Calls Tryz.prog 64 #[.agg (otC o)] w fun e w' => Must (haveB o) e ∧ Below w.heap.size w w' := by
  obtain ⟨ov, hov⟩ : ∃ v, v = otC o := ⟨_, rfl⟩
  have hL : Lies (w.alloc (.cells ov 35)) w.heap.size (otC o) 35 := by rw [hov]; exact Lies.new _ _ _
  have hb0 : Below w.heap.size w (w.alloc (.cells ov 35)) := (Below.refl _ _).alloc (Nat.le_refl _) _
  have hO := h.below hb0 (Nat.le_refl _)
  rw [← hov]
  clear hov h
  obtain ⟨noT, hnT⟩ : ∃ b, b = decide (o.ns.length = 0) := ⟨_, rfl⟩
  obtain ⟨noH, hnH⟩ : ∃ b, b = decide (o.dh = zeroH) := ⟨_, rfl⟩
  obtain ⟨rT, hrT⟩ : ∃ b, b = T.rightB o.ns := ⟨_, rfl⟩
  obtain ⟨hv, hhv⟩ : ∃ v, v = B8 o.dh := ⟨_, rfl⟩
  obtain ⟨zv, hzv⟩ : ∃ v, v = B8 zeroH := ⟨_, rfl⟩
  have heq : ∀ W, (Op.equalIn 10000 30 (.agg hv) (.agg zv)).run Tryz.prog W = .ok noH W := fun W => by
    rw [hhv, hzv, hnH]; exact eq_hash W _ _ hO.dh (by decide)
  have hbld : ∀ W, (Instr.build 30 #[]).run Tryz.prog W = .ok (.agg zv) W := fun W => by rw [hzv]; exact run_build W 30 _ _ built_zeroH
  obtain ⟨n, hn⟩ : ∃ n, n = o.ns.length := ⟨_, rfl⟩
  have hlen : ((n : Int) == 0) = noT := by
    rw [hnT, hn, Bool.eq_iff_iff, beq_iff_eq, decide_eq_true_iff]; omega
  have HS : Hid (∀ V, Below (w.alloc (.cells ov 35)).heap.size (w.alloc (.cells ov 35)) V → V.rangeAt w.heap.size 36 hv.toList ∧ V.cell? ⟨w.heap.size, 68, none⟩ = some (.slice o.tp n o.tc) ∧ V.cell? ⟨w.heap.size, 35, none⟩ = some (.int .i64 o.kind)) := Lib.hid fun V hV => by
    have h1 := lies_at (hL.below hV hL.lt) hO.ah hO.dh
    rw [hhv, hn]
    exact ⟨by simpa using h1.dh, by simpa using h1.term, by simpa using h1.kind⟩
  have HT : Hid (∀ V, Below (w.alloc (.cells ov 35)).heap.size (w.alloc (.cells ov 35)) V → Calls Tryz.prog 118 #[.agg #[.slice o.tp n o.tc]] V fun e w' => e = .returned (.bool rT) ∧ Below V.heap.size V w') := Lib.hid fun V hV => by
    rw [hrT, hn]
    exact T.rightT_any V o.tp o.tc o.ns (hO.t.below hV (Nat.le_refl _)) hO.tc
  have hsz : hv.size = 32 := by rw [hhv, B8_size, hO.dh]
  have hinfo : (Tryz.prog.info? 30).map (·.size) = some hv.size := by rw [hsz]; exact info_hash
  have HB := Lib.hid (And.intro hb0 (show haveB o = if o.kind = 0 then noH && noT else if o.kind = 1 then noT else if o.kind = 2 then noH && rT else false by unfold haveB; rw [← hnH, ← hnT, ← hrT]))
  have HM := Lib.hid (And.intro must1 must2)
  obtain ⟨kd, hkd⟩ : ∃ k, k = o.kind := ⟨_, rfl⟩
  rw [← hkd] at HS HB
  clear hL hb0 hO hnT hnH hrT hhv hzv hn hsz hkd
  go_enter Tryz.func64, Tryz.ntmps64
  go_upto_region 1 with fail
  generalize w.alloc (.cells ov 35) = W0 at HS HT HB ⊢
  obtain ⟨g, hg⟩ : ∃ g, g = w.heap.size := ⟨_, rfl⟩
  rw [← hg] at HS ⊢
  clear hg
  refine wp_region_held (S := Below W0.heap.size W0) (by kernel_rfl) ?_
  change wpAnyH _ _ _ _ _ 11 _ _ (World.drew W0)
  have hcur : Below W0.heap.size W0 W0.drew := (Below.refl _ _).drew
  refine tk 0 (.pointer (some ⟨g, 36, none⟩)) 4 rfl rfl hcur ?_
  refine tk 1 (.agg hv) 5 rfl rfl hcur ?_ (by intro w' hS'; exact exec_loadM 30 (.tmp 4) rfl g 36 rfl hv (HS.out w' hS').1 Tryz.underlying30 rfl hinfo)
  refine tk 2 (.agg zv) 6 rfl rfl hcur ?_ (by intro w' hS'; unfold execOp; simp [go_sem, hbld])
  refine tk 3 (.bool noH) 7 rfl rfl hcur ?_ (by intro w' hS'; unfold execOp; simp [go_sem, heq])
  refine tk 4 (.pointer (some ⟨g, 68, none⟩)) 8 rfl rfl hcur ?_
  refine tk 5 (.pointer (some ⟨g, 68, none⟩)) 9 rfl rfl hcur ?_
  refine tk 6 (.slice o.tp n o.tc) 10 rfl rfl hcur ?_ (by intro w' hS'; have c0 := (HS.out w' hS').2.1; unfold execOp; simp [go_sem, c0])
  refine tk 7 (.int .i64 (n : Int)) 11 rfl rfl hcur ?_
  refine tk 8 (.bool noT) 12 rfl rfl hcur ?_ (by intro w' hS'; unfold execOp; simp [go_sem, hlen])
  refine tk 9 (.bool noH) 2 rfl rfl hcur ?_
  refine tk 10 (.bool noT) 3 rfl rfl hcur ?_
  refine held_done (by kernel_rfl) ?_
  generalize W0.drew = W1 at hcur ⊢
  have c35 := (HS.out _ hcur).2.2
  have c68 := (HS.out _ hcur).2.1
  have H1 := Lib.hid (And.intro hcur (HB.out.1.trans (hcur.mono HB.out.1.size)))
  clear heq hbld hlen hinfo hcur
  by_cases k0 : kd = 0
  · go_wp2_with fail
    refine (HM.out.2 _ _ _).mono ?_
    rintro e U ⟨hm, hb⟩
    have HU := Lib.hid (H1.out.2.trans (hb.mono H1.out.2.size))
    have hh := HB.out.2
    rw [if_pos k0] at hh
    have HH := Lib.hid hh
    clear hb hh k0
    rcases hm with ⟨hx, rfl⟩ | ⟨hx, m, rfl⟩
    · go_wp2_with fail
      go_end0
      exact ⟨.inl ⟨by rw [HH.out]; exact hx, rfl⟩, HU.out⟩
    · go_wp2_with fail
      exact ⟨rfl, .inr ⟨by rw [HH.out]; exact hx, m, rfl⟩, HU.out⟩
  · by_cases k1 : kd = 1
    · go_wp2_with fail
      refine (HM.out.1 _ _).mono ?_
      rintro e U ⟨hm, hb⟩
      have HU := Lib.hid (H1.out.2.trans (hb.mono H1.out.2.size))
      have hh := HB.out.2
      rw [if_neg k0, if_pos k1] at hh
      have HH := Lib.hid hh
      clear hb hh k0 k1
      rcases hm with ⟨hx, rfl⟩ | ⟨hx, m, rfl⟩
      · go_wp2_with fail
        go_end0
        exact ⟨.inl ⟨by rw [HH.out]; exact hx, rfl⟩, HU.out⟩
      · go_wp2_with fail
        exact ⟨rfl, .inr ⟨by rw [HH.out]; exact hx, m, rfl⟩, HU.out⟩
    · by_cases k2 : kd = 2
      · go_wp2_with fail
        refine (HT.out _ H1.out.1).mono ?_
        rintro e U1 ⟨rfl, hb1⟩
        have HU1 := Lib.hid (H1.out.2.trans (hb1.mono H1.out.2.size))
        clear hb1
        go_wp2_with fail
        refine (HM.out.2 _ _ _).mono ?_
        rintro e U ⟨hm, hb⟩
        have HU := Lib.hid (HU1.out.trans (hb.mono HU1.out.size))
        have hh := HB.out.2
        rw [if_neg k0, if_neg k1, if_pos k2] at hh
        have HH := Lib.hid hh
        clear hb hh k0 k1 k2
        rcases hm with ⟨hx, rfl⟩ | ⟨hx, m, rfl⟩
        · go_wp2_with fail
          go_end0
          exact ⟨.inl ⟨by rw [HH.out]; exact hx, rfl⟩, HU.out⟩
        · go_wp2_with fail
          exact ⟨rfl, .inr ⟨by rw [HH.out]; exact hx, m, rfl⟩, HU.out⟩
      · have hh := HB.out.2
        rw [if_neg k0, if_neg k1, if_neg k2] at hh
        have HH := Lib.hid hh
        clear hh
        go_wp2_with fail
        exact ⟨rfl, .inr ⟨HH.out, 4, rfl⟩, H1.out.2⟩
end Go.Proofs.YtilbbemdinpjcaaGreat.P
namespace Go.Proofs.YtilbbemdinpjcaaGreat.P
set_option maxRecDepth 100000
open Go.RowKit Go.Sort

def rightOB (o : Ot) : Bool := rightV o.v && haveB o
theorem info_output : (Tryz.prog.info? 35).map (·.size) = some 69 := by kernel_rfl
theorem callFn (K : Nat) {fn : Func} (hf : Tryz.prog.funcs[K]? = some fn) (hn : (fn.name == "runtime.NumGoroutine") = false) {c : Code} (hb : fn.body = some c) (args : Array Value) : ∀ w : World, (callFunc K args).run Tryz.prog w = .ok (.enter K args) w := fun w => enter_of hf hn hb args w
set_option maxHeartbeats 4000000 in
theorem rightO1_any (w : World) (p : Nat) (o : Ot) (hL : Lies w p (otC o) 35) (h : OtOk w o) :
    Calls Tryz.prog 61 #[.pointer (some ⟨p, 0, none⟩)] w fun e w' => Must (rightOB o) e ∧ Below w.heap.size w w' := by
  have h1 := lies_at hL h.ah h.dh
  have c33 : w.cell? ⟨p, 33, none⟩ = some (.int .i64 o.v.coin) := by simpa using h1.coin
  have c34 : w.cell? ⟨p, 34, none⟩ = some (.slice o.v.pa o.v.l.length o.v.c) := by simpa using h1.assets
  have hr := right_any w o.v.coin o.v.pa o.v.l o.v.c h.v.2.2
  obtain ⟨b, hbb⟩ : ∃ b, b = rightV o.v := ⟨_, rfl⟩
  have hr : Calls Tryz.prog 63 #[.agg #[.int .i64 o.v.coin, .slice o.v.pa o.v.l.length o.v.c]] w fun e w' => e = .returned (.bool b) ∧ Below w.heap.size w w' := by rw [hbb]; exact hr
  obtain ⟨ov, hov⟩ : ∃ v, v = otC o := ⟨_, rfl⟩
  have hsz : ov.size = 69 := by rw [hov]; exact otC_size o h.ah h.dh
  have HM : Hid (∀ V, Below w.heap.size w V → Calls Tryz.prog 64 #[.agg ov] V fun e w' => Must (haveB o) e ∧ Below V.heap.size V w') := Lib.hid fun V hV => by rw [hov]; exact mustHave_any V o (h.below hV (Nat.le_refl _))
  have HL : Hid (∀ V, Below w.heap.size w V → Lies V p ov 35) := Lib.hid fun V hV => by rw [hov]; exact hL.below hV hL.lt
  have HI := Lib.hid (show (Tryz.prog.info? 35).map (·.size) = some ov.size by rw [hsz]; exact info_output)
  have HR := Lib.hid hr
  have HB := Lib.hid (show rightOB o = (b && haveB o) by unfold rightOB; rw [← hbb])
  clear hL h h1 hr hbb hov hsz
  go_enter Tryz.func61, Tryz.ntmps61
  go_wp2_with fail
  refine HR.out.mono ?_
  rintro e U1 ⟨rfl, hb1⟩
  have H1 := Lib.hid hb1
  clear hb1 c33 c34
  go_wp2_with fail
  refine (must1 _ _).mono ?_
  rintro e U2 ⟨hm, hb2⟩
  have H2 := Lib.hid (H1.out.trans (hb2.mono H1.out.size))
  clear hb2
  rcases hm with ⟨hx, rfl⟩ | ⟨hx, m, rfl⟩
  · have HX := Lib.hid hx
    clear hx
    go_wp2_with (refine wpList_load_row rfl 35 _ rfl p rfl 35 ov (0, 0) _ (HL.out _ H2.out) Tryz.underlying35 rfl HI.out ?_)
    refine (HM.out _ H2.out).mono ?_
    rintro e U3 ⟨hm, hb3⟩
    have H3 := Lib.hid (H2.out.trans (hb3.mono H2.out.size))
    clear hb3
    rcases hm with ⟨hy, rfl⟩ | ⟨hy, m, rfl⟩
    · have HY := Lib.hid hy
      clear hy
      go_wp2_with fail
      go_end0
      exact ⟨.inl ⟨by rw [HB.out, HX.out, HY.out]; rfl, rfl⟩, H3.out⟩
    · have HY := Lib.hid hy
      clear hy
      go_wp2_with fail
      exact ⟨rfl, .inr ⟨by rw [HB.out, HX.out, HY.out]; rfl, m, rfl⟩, H3.out⟩
  · have HX := Lib.hid hx
    clear hx
    go_wp2_with fail
    exact ⟨rfl, .inr ⟨by rw [HB.out, HX.out]; rfl, m, rfl⟩, H2.out⟩
theorem rightOutput_any (w : World) (o : Ot) (h : OtOk w o) :
    Calls Tryz.prog 13 #[.agg (otC o)] w fun e w' => e = .returned (.bool (rightOB o)) ∧ Below w.heap.size w w' := by
  have hmf : ∀ (fn : Fn) (first cap : Array Value) (w : World), (Instr.makeFunc fn first cap).run Tryz.prog w = .ok (.func fn first cap) w := fun _ _ _ _ => rfl
  obtain ⟨ov, hov⟩ : ∃ v, v = otC o := ⟨_, rfl⟩
  have hL : Lies (w.alloc (.cells ov 35)) w.heap.size ov 35 := Lies.new _ _ _
  have hb0 : Below w.heap.size w (w.alloc (.cells ov 35)) := (Below.refl _ _).alloc (Nat.le_refl _) _
  have hm := met_any (w.alloc (.cells ov 35)) 61 #[.pointer (some ⟨w.heap.size, 0, none⟩)] (rightOB o) (callFn _ Tryz.func61 (by kernel_rfl) rfl _) (fun w1 hw1 => rightO1_any w1 w.heap.size o (by rw [← hov]; exact hL.below hw1 hL.lt) (h.below (hb0.trans (hw1.mono hb0.size)) (Nat.le_refl _)))
  rw [← hov]
  have HM := Lib.hid (And.intro hm hb0)
  obtain ⟨b, hb⟩ : ∃ b, b = rightOB o := ⟨_, rfl⟩
  rw [← hb] at HM ⊢
  clear hm hb0 hL hov h hb
  go_enter Tryz.func13, Tryz.ntmps13
  go_wp2_with fail
  refine HM.out.1.mono ?_
  rintro e U ⟨rfl, hb⟩
  have HU := Lib.hid (HM.out.2.trans (hb.mono HM.out.2.size))
  clear hb
  go_wp2_with fail
  go_ret
  exact ⟨rfl, HU.out⟩
end Go.Proofs.YtilbbemdinpjcaaGreat.P
namespace Go.Proofs.YtilbbemdinpjcaaGreat
set_option maxRecDepth 100000

section
variable {P : Program} {md : Region.Mode} {ops : Array Oper} {Q : Exit → Act → World → Prop} {late : Nat → Bool} {S : World → Prop}
/-- Whatever order is picked from here on; S holds behind each operation that is not late. -/
def wpLate (P : Program) (md : Region.Mode) (ops : Array Oper) (Q : Exit → Act → World → Prop) (late : Nat → Bool) (S : World → Prop) : Nat → Array Bool → Act → World → Prop
  | 0, listed, a, w => Region.ready md ops listed = [] ∧ Q .normal a w
  | n + 1, listed, a, w =>
    (Region.ready md ops listed = [] → Q .normal a w) ∧
    ∀ j ∈ Region.ready md ops listed, wpOp P ops Q j (fun a' w' => (late j = false → S w') ∧ wpLate P md ops Q late S n (listed.setIfInBounds j true) a' w') a w
theorem wpLate.any : ∀ (n : Nat) (listed : Array Bool) (a : Act) (w : World), wpLate P md ops Q late S n listed a w → wpAny P md ops Q n listed a w
  | 0, _, _, _, h => h
  | n + 1, _, _, _, h => ⟨h.1, fun j hj => wpOp_mono (fun a' w' h' => wpLate.any n _ a' w' h'.2) (h.2 j hj)⟩
theorem late_first {i : Nat} {oi : Oper} {v : Value} (hi : ops[i]? = some oi) (hsel : ∀ (j : Nat) (o : Oper) cs b, ops[j]? = some o → o.op ≠ .select cs b)
    (hQ : ∀ c a w, Q (.panic c) (a.put oi.dst v) w → Q (.panic c) a w) (hlate : ∀ j oj, ops[j]? = some oj → late j = true → ∃ e, e ∈ oj.after ∧ Region.binds md e = true ∧ e.on = i) (n : Nat) :
    ∀ (listed : Array Bool) (a : Act) (w : World),
      (∀ j oj, ops[j]? = some oj → j ≠ i → listed.getD j true = false → (∀ e ∈ oj.after, Region.binds md e = true → e.on ≠ i) → oi.apart ops oj = true) →
      i ∈ Region.ready md ops listed → YieldsIf P ops S oi v a → S w → wpLate P md ops Q late S n (listed.setIfInBounds i true) (a.put oi.dst v) w → wpLate P md ops Q late S (n + 1) listed a w := by
  induction n with
  | zero =>
    intro listed a w _ hr hy hS H
    refine ⟨fun e => (by rw [e] at hr; cases hr), fun j hj => ?_⟩
    by_cases e : j = i
    · subst e
      exact hy.wpOp hi hS ⟨fun _ => hS, H⟩
    · have hm := ready_mono hj e
      rw [H.1] at hm
      cases hm
  | succ n ih =>
    intro listed a w hap hr hy hS H
    refine ⟨fun e => (by rw [e] at hr; cases hr), fun j hj => ?_⟩
    by_cases e : j = i
    · subst e
      exact hy.wpOp hi hS ⟨fun _ => hS, H⟩
    · obtain ⟨hu, oj, hoj, hall⟩ := mem_ready.1 hj
      have hfree : ∀ x ∈ oj.after, Region.binds md x = true → x.on ≠ i := fun x hx hb he => by
        have q1 := hall x hx hb
        have q0 := (mem_ready.1 hr).1
        rw [he] at q1
        rcases Nat.lt_or_ge i listed.size with hs | hs
        · simp [hs] at q0 q1
          rw [q0] at q1
          cases q1
        · simp [Array.getElem?_eq_none hs] at q1
      have hl : late j = false := by
        cases hlj : late j with
        | false => rfl
        | true =>
          obtain ⟨x, hx, hb, he⟩ := hlate j oj hoj hlj
          exact absurd he (hfree x hx hb)
      have q2 := wpOp_putIf hoj (hap j oj hoj e hu hfree) (fun cs b => hsel i oi cs b hi) (fun cs b => hsel j oj cs b hoj) hQ hy (H.2 j (ready_mono hj e))
      refine wpOp_mono (fun a' w' q3 => ⟨q3.2.1, ih (listed.setIfInBounds j true) a' w' (fun k ok hk hki hun hno => hap k ok hk hki ?_ hno) (ready_mono hr (Ne.symm e)) q3.1 (q3.2.1 hl) ?_⟩) q2
      · by_cases ejk : j = k
        · subst ejk
          exact hu
        · rw [getD_set_ne true ejk] at hun
          exact hun
      · rw [Array.setIfInBounds_comm _ _ e]
        exact q3.2.2
/-- Do all late ones wait for i? -/
def waitsB (md : Region.Mode) (ops : Array Oper) (late : Nat → Bool) (i : Nat) : Bool := (List.range ops.size).all fun j => !late j || (match ops[j]? with | some o => o.after.any fun e => Region.binds md e && e.on == i | none => true)
theorem waits_of {i : Nat} (h : waitsB md ops late i = true) : ∀ j oj, ops[j]? = some oj → late j = true → ∃ e, e ∈ oj.after ∧ Region.binds md e = true ∧ e.on = i := fun j oj hj hl => by
  unfold waitsB at h
  rw [List.all_eq_true] at h
  have h2 := h j (List.mem_range.2 (Array.getElem?_eq_some_iff.1 hj).1)
  rw [hl, hj] at h2
  simp only [Bool.not_true, Bool.false_or, Array.any_eq_true'] at h2
  obtain ⟨e, he, h3⟩ := h2
  rw [Bool.and_eq_true, beq_iff_eq] at h3
  exact ⟨e, he, h3⟩
theorem late_take {i : Nat} {oi : Oper} {v : Value} {n : Nat} {listed : Array Bool} {a : Act} {w : World} (hi : ops[i]? = some oi) (d : Tmp) (hd : oi.dst = some d)
    (hs : Region.noSelect ops = true) (hf : Region.free md ops listed i = true) (hr : (Region.ready md ops listed).contains i = true) (hwt : waitsB md ops late i = true) (hQ : ∀ c a w, Q (.panic c) (a.put (some d) v) w → Q (.panic c) a w)
    (hw : Region.wanted oi (yielded ops a.tmps) = true) (hy : ∀ w, S w → (execOp a.eval oi).run P w = .ok (.value v) w) (hS : S w) (l2 : Array Bool) (hl : listed.setIfInBounds i true = l2)
    (h : wpLate P md ops Q late S n l2 (a.put (some d) v) w) : wpLate P md ops Q late S (n + 1) listed a w := by
  subst hl
  rw [← hd] at h hQ
  exact late_first hi (Region.noSelect_spec hs) hQ (waits_of hwt) n listed a w (Region.free_spec hi hf) (by simpa using hr) (.inl ⟨hw, hy⟩) hS h
theorem late_one {i : Nat} {n : Nat} {listed : Array Bool} {a : Act} {w : World} (hr : Region.ready md ops listed = [i]) (l2 : Array Bool) (hl : listed.setIfInBounds i true = l2)
    (h : wpOp P ops Q i (fun a' w' => (late i = false → S w') ∧ wpLate P md ops Q late S n l2 a' w') a w) : wpLate P md ops Q late S (n + 1) listed a w := by
  subst hl
  refine ⟨fun e => (by rw [hr] at e; cases e), fun j hj => ?_⟩
  rw [hr] at hj
  obtain rfl : j = i := by simpa using hj
  exact h
theorem late_done {listed : Array Bool} {a : Act} {w : World} (hr : Region.ready md ops listed = []) (h : Q .normal a w) : ∀ n, wpLate P md ops Q late S n listed a w
  | 0 => ⟨hr, h⟩
  | _ + 1 => ⟨fun _ => h, (by rw [hr]; simp)⟩
theorem wpOp_skipG {i : Nat} {o : Oper} {a : Act} {w w' : World} {K : Act → World → Prop} (hi : ops[i]? = some o) (hw : Region.wanted o (yielded ops a.tmps) = true) (hd : o.dst = none)
    (hr : (execOp a.eval o).run P w = .ok .skip w') (h : K a w') : wpOp P ops Q i K a w := by
  unfold wpOp
  rw [hi]
  show if Region.wanted o (yielded ops a.tmps) = true then _ else _
  rw [if_pos hw]
  refine .inl ?_
  unfold Oper.wp
  rw [hr]
  show K (a.put o.dst undef) w'
  rw [hd]
  exact h
/-- A panic's post by itself, where no deferred call waits. -/
def OrPanic (T : List PanicEntry → World → Prop) (Q : Exit → Act → World → Prop) : Exit → Act → World → Prop
  | .panic c, a, w => a.defers = [] ∧ T c w
  | e, a, w => Q e a w
theorem wp_region_orPanic {id : Nat} {b : Bool} {a : Act} {w : World} (T : List PanicEntry → World → Prop) (hT : ∀ c a w, a.defers = [] → T c w → Q (.panic c) a w) (h : (Code.region id ops b).wp P (OrPanic T Q) a w) : (Code.region id ops b).wp P Q a w :=
  Code.wp_mono (fun e a w h => by cases e <;> first | exact h | exact hT _ _ _ h.1 h.2) h
theorem wpOp_callP {i : Nat} {o : Oper} {a : Act} {w : World} {K : Act → World → Prop} (hi : ops[i]? = some o) (hw : Region.wanted o (yielded ops a.tmps) = true) (d : Tmp) (hd : o.dst = some d) (f : FuncId) (args : Array Value)
    (hr : (execOp a.eval o).run P w = .ok (.enter f args) w) (R : Value → World → Prop) (T : List PanicEntry → World → Prop) (hc : Calls P f args w fun e w' => (∃ v, e = .returned v ∧ R v w') ∨ (∃ c, e = .panicked c ∧ T c w')) (h : ∀ v w', R v w' → K (a.put (some d) v) w') (hp : ∀ c w', T c w' → Q (.panic c) a w') : wpOp P ops Q i K a w := by
  unfold wpOp
  rw [hi]
  show if Region.wanted o (yielded ops a.tmps) = true then _ else _
  rw [if_pos hw]
  refine .inl ?_
  unfold Oper.wp
  rw [hr, Oper.upon_enter]
  refine hc.mono fun e w' hh => ?_
  rcases hh with ⟨v, rfl, hR⟩ | ⟨c, rfl, hR⟩
  · rw [hd]
    exact h v w' hR
  · exact hp c w' hR
theorem wp_region_late {id : Nat} {a : Act} {w : World} (late : Nat → Bool) (S : World → Prop) (hm : P.follows .mixedOrders = true)
    (h : wpLate P .any ops Q late S ops.size (Array.replicate ops.size false) a { w with drawn := w.drawn + 1 }) : (Code.region id ops true).wp P Q a w :=
  wp_region_any hm (wpLate.any _ _ _ _ h)
end
end Go.Proofs.YtilbbemdinpjcaaGreat
namespace Go.Proofs.YtilbbemdinpjcaaGreat
set_option maxRecDepth 100000
open Go.RowKit Go.Sort

/-- A number of 128 bits, in cells. -/
def wC (x : BitVec 128) : Array Value := #[.int .i64 (hiS x), .int .u64 (loN x)]
theorem wC_one (x : BitVec 128) : (wC x).all (·.oneCell') = true := by simp [wC, Value.oneCell']
theorem wC_zero : wC 0 = #[.int .i64 0, .int .u64 0] := by kernel_rfl
theorem wv_wC (x : BitVec 128) : wv x = .agg (wC x) := rfl
/-- Such numbers lie one behind the other. -/
def HasW (w : World) (g off : Nat) (l : List (BitVec 128)) : Prop := ∀ (i : Nat) (x : BitVec 128), l[i]? = some x → w.rangeAt g (off + i * 2) (wC x).toList
theorem HasW.below {B : Nat} {w w' : World} {g off : Nat} {l : List (BitVec 128)} (h : HasW w g off l) (hb : Below B w w') (hg : g < B) : HasW w' g off l :=
  fun i a hi j v hv => (hb.cell (p := ⟨g, off + i * 2 + j, none⟩) hg).trans (h i a hi j v hv)
def sumL (l : List (BitVec 128)) : BitVec 128 := l.foldl (· + ·) 0
theorem sumL_take {l : List (BitVec 128)} {k : Nat} {x : BitVec 128} (h : l[k]? = some x) : sumL (l.take (k + 1)) = sumL (l.take k) + x := by
  unfold sumL
  rw [List.take_add_one, h, List.foldl_append]
  rfl
end Go.Proofs.YtilbbemdinpjcaaGreat
namespace Go.Proofs.YtilbbemdinpjcaaGreat
set_option maxRecDepth 100000
open Go.RowKit Go.Sort

/-- A total: its name, how much. -/
structure To where
  nm : Nm
  w : BitVec 128
def toC (a : To) : Array Value := B8 a.nm.1 ++ #[.string (txt a.nm.2), .int .i64 (hiS a.w), .int .u64 (loN a.w)]
def ToOk (a : To) : Prop := a.nm.1.length = 32 ∧ a.nm.2.length ≤ maxLen
theorem toC_size (a : To) (h : a.nm.1.length = 32) : (toC a).size = 35 := by simp [toC, B8_size, h]
theorem toC_one (a : To) : (toC a).all (·.oneCell') = true := by
  unfold toC
  rw [Array.all_append, B8_one]
  simp [Value.oneCell']
theorem toC_get (a : To) (h : a.nm.1.length = 32) (j : Nat) (hj : j < 32) : (toC a)[j]? = some (.int .u8 (a.nm.1.getD j 0).toNat) := by
  unfold toC
  rw [Array.getElem?_append_left (by rw [B8_size]; omega)]
  exact B8_get _ _ (by omega)
theorem toC_txt (a : To) (h : a.nm.1.length = 32) : (toC a)[32]? = some (.string (txt a.nm.2)) := by
  unfold toC
  rw [Array.getElem?_append_right (by rw [B8_size]; omega), B8_size, h]
  rfl
theorem toC_hi (a : To) (h : a.nm.1.length = 32) : (toC a)[33]? = some (.int .i64 (hiS a.w)) := by
  unfold toC
  rw [Array.getElem?_append_right (by rw [B8_size]; omega), B8_size, h]
  rfl
theorem toC_lo (a : To) (h : a.nm.1.length = 32) : (toC a)[34]? = some (.int .u64 (loN a.w)) := by
  unfold toC
  rw [Array.getElem?_append_right (by rw [B8_size]; omega), B8_size, h]
  rfl
theorem info_total : (Tryz.prog.info? 150).map (·.size) = some 35 := by kernel_rfl
attribute [-go_sem] Instr.build
set_option maxHeartbeats 1000000 in
theorem callTotal_gro (w : World) (a : To) (ha : a.nm.1.length = 32) :
    Calls Tryz.prog 136 #[.agg (toC a)] w fun e w' => e = .returned (.agg (nmC a.nm)) ∧ Below w.heap.size w w' ∧ w.drawn ≤ w'.drawn := by
  obtain ⟨va, hva⟩ : ∃ v, v = toC a := ⟨_, rfl⟩
  obtain ⟨z, hz⟩ : ∃ z, z = z33 := ⟨_, rfl⟩
  rw [← hva]
  have HA := Lib.hid (And.intro hva (And.intro ha hz))
  clear hva ha
  go_enter Tryz.func136, Tryz.ntmps136
  go_upto_region 1 with fail
  rw [show (#[Value.int .u8 0, .int .u8 0, .int .u8 0, .int .u8 0, .int .u8 0, .int .u8 0, .int .u8 0, .int .u8 0, .int .u8 0, .int .u8 0, .int .u8 0, .int .u8 0, .int .u8 0, .int .u8 0, .int .u8 0, .int .u8 0, .int .u8 0, .int .u8 0, .int .u8 0, .int .u8 0, .int .u8 0, .int .u8 0, .int .u8 0, .int .u8 0, .int .u8 0, .int .u8 0, .int .u8 0, .int .u8 0, .int .u8 0, .int .u8 0, .int .u8 0, .int .u8 0, .string ⟨#[]⟩] : Array Value) = z from by rw [hz]; kernel_rfl]
  have hl1 : Lies ((w.alloc (.cells va 150)).alloc (.cells z 255)) w.heap.size va 150 := (Lies.new _ _ _).alloc _
  have hl2 : Lies ((w.alloc (.cells va 150)).alloc (.cells z 255)) (w.heap.size + 1) z 255 := by
    have := Lies.new (w.alloc (.cells va 150)) z 255
    simpa using this
  have hb0 : Below w.heap.size w ((w.alloc (.cells va 150)).alloc (.cells z 255)) := ((Below.refl _ _).alloc (Nat.le_refl _) _).alloc (by simp) _
  have HD0 : Hid (w.drawn ≤ ((w.alloc (.cells va 150)).alloc (.cells z 255)).drawn) := Lib.hid (Nat.le_refl _)
  generalize (w.alloc (.cells va 150)).alloc (.cells z 255) = W0 at hl1 hl2 hb0 HD0 ⊢
  rw [HA.out.1] at hl1
  have hp : Src W0 w.heap.size 0 a.nm.1 := fun j hj => by
    rw [Nat.zero_add]
    exact hl1.cell j (toC_get a HA.out.2.1 j (by rw [← HA.out.2.1]; exact hj))
  have c32 := hl1.cell 32 (toC_txt a HA.out.2.1)
  have HP := Lib.hid (And.intro (pol_range hp) (And.intro hl2 hb0))
  have hnm : nmC a.nm = B8 a.nm.1 ++ #[.string (txt a.nm.2)] := rfl
  have hsz : (B8 a.nm.1).size = 32 := by rw [B8_size]; exact HA.out.2.1
  have HN := Lib.hid (And.intro hnm (And.intro hsz (nmC_size a.nm HA.out.2.1)))
  obtain ⟨pv, hpv⟩ : ∃ v, v = B8 a.nm.1 := ⟨_, rfl⟩
  obtain ⟨tv, htv⟩ : ∃ v, v = txt a.nm.2 := ⟨_, rfl⟩
  obtain ⟨nv, hnv⟩ : ∃ v, v = nmC a.nm := ⟨_, rfl⟩
  have hbl : ∀ W, (Instr.build 255 #[(0, .agg pv), (1, .string tv)]).run Tryz.prog W = .ok (.agg nv) W := fun W => by
    rw [hpv, htv, hnv]
    exact run_build W 255 _ _ (built_called a.nm.1 HA.out.2.1 (txt a.nm.2))
  rw [← hpv] at HP HN
  rw [← htv] at c32
  rw [← hnv] at HN
  have HV := Lib.hid (And.intro hpv hnv)
  clear hl1 hl2 hb0 hp hz hnm hsz hpv htv hnv
  go_wp2_with (first
    | (refine wpList_load_mid rfl 30 _ rfl w.heap.size 0 rfl pv.toList _ HP.out.1 Tryz.underlying30 rfl (by rw [Array.length_toList, HN.out.2.1]; exact info_hash) ?_)
    | (refine wpList_store_row rfl 255 _ _ rfl (w.heap.size + 1) nv rfl rfl 255 z HP.out.2.1 (by rw [HN.out.2.2]; exact info_called) (by rw [HN.out.2.2, HA.out.2.2]; rfl) (by rw [HV.out.2]; exact nmC_one _) ?_))
  refine bodyPost_ret (v := .agg nv) (results_cell_row (p := 2) (ty := 255) (by kernel_rfl) _ _ (w.heap.size + 1) 255 nv (0, 0) _ rfl (HP.out.2.1.setRow _) Tryz.underlying255 rfl (by rw [HN.out.2.2]; exact info_called)) rfl ⟨by rw [HV.out.2], below_setRow HP.out.2.2 _ _ (by omega), HD0.out⟩
theorem callTotal_any (w : World) (a : To) (ha : a.nm.1.length = 32) :
    Calls Tryz.prog 136 #[.agg (toC a)] w fun e w' => e = .returned (.agg (nmC a.nm)) ∧ Below w.heap.size w w' :=
  (callTotal_gro w a ha).mono fun _ _ h => ⟨h.1, h.2.1⟩

theorem ret_gro {P : Program} {f : FuncId} {args : Array Value} {w : World} {v : Value} {R : World → Prop} (h : Calls P f args w fun e w' => e = .returned v ∧ R w') : Calls P f args w fun e w' => ∃ u, e = .returned u ∧ (u = v ∧ R w') :=
  h.mono fun _ _ h => ⟨v, h.1, rfl, h.2⟩
theorem cells48 : Tryz.prog.cellsOf 150 = 35 := by kernel_rfl
theorem cells39 : Tryz.prog.cellsOf 148 = 2 := by kernel_rfl
theorem cells37 : Tryz.prog.cellsOf 69 = 1 := by kernel_rfl
theorem keyed_total : Tryz.prog.keyTypeAt 5 150 = true := by kernel_rfl
theorem keyed_wide : Tryz.prog.keyTypeAt 5 148 = true := by kernel_rfl
def litW (x : BitVec 128) : List Lit := [.int .i64 (hiS x), .int .u64 (loN x)]
theorem litW_inj {x y : BitVec 128} (h : litW x = litW y) : x = y := by
  unfold litW at h
  simp only [List.cons.injEq, Lit.int.injEq, true_and, and_true] at h
  exact w_inj h.1 (by omega)
theorem lits_w (d : Nat) (x : BitVec 128) : Tryz.prog.keyLits (d + 2) 148 (wC x).toList = some (litW x) := by
  have h1 : (Lit.int .i64 (hiS x)).wf = true := by
    have := hiS_lo x
    show (decide ((-9223372036854775808 : Int) ≤ hiS x) && decide (hiS x ≤ 9223372036854775807)) = true
    rw [Bool.and_eq_true_iff, decide_eq_true_iff, decide_eq_true_iff]
    omega
  have h2 : (Lit.int .u64 (loN x : Int)).wf = true := by
    have := loN_lt x
    show (decide ((0 : Int) ≤ (loN x : Int)) && decide ((loN x : Int) ≤ 18446744073709551615)) = true
    rw [Bool.and_eq_true_iff, decide_eq_true_iff, decide_eq_true_iff]
    omega
  unfold Program.keyLits
  simp only [Tryz.underlying148, cells39, wC, List.length_cons, List.length_nil]
  rw [if_pos ⟨trivial, by kernel_rfl⟩]
  simp [Program.keyLits, Tryz.underlying2, Tryz.underlying69, cells2, cells37, h1, h2, litW]
end Go.Proofs.YtilbbemdinpjcaaGreat
