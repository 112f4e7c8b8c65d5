/-
  TermOf (7), TermsOf (12): how great terms are; SameNodes (39), SameTerm (15).
  TermsOf (12): how great terms are together; SameNodes (39), SameTerm (15).
-/
import Derived.Test.YtilbbemdinpjcaaGreatJTTawk
import Derived.Lib.QuietBelow
namespace Go.Proofs.YtilbbemdinpjcaaGreat.T
open Go.RowKit Ieee

theorem canon_lt (a : Nat) (ha : a < 2 ^ 64) : canonB a < 2 ^ 64 := by
  unfold canonB
  split
  · decide
  · exact ha
theorem leaf_fo (x : Nd) (h : x.kids = 0) : [x] = (Fo.cons x .nil .nil).flat := by
  obtain ⟨a, b, c, d, e⟩ := x
  simp only at h
  subst h
  rfl
theorem leaf_inO (x : Nd) (h : x.kids = 0) : inO [x] = true := by rw [leaf_fo x h]; exact inO_fo _ rfl
theorem leaf_deep (x : Nd) (h : x.kids = 0) : deepT [x] = 1 := by rw [leaf_fo x h, deep_fo _ rfl]; rfl
theorem leaf_right (x : Nd) (h : x.kids = 0) : rightB [x] = kindB [x] (endsT [x]) 0 x := by
  unfold rightB fitsB
  rw [leaf_inO x h, leaf_deep x h]
  simp [kindsB, List.range, List.range.loop]
theorem leaf_ord (x y : Nd) (hx : x.kids = 0) (hy : y.kids = 0) (wx : x.bits < 2 ^ 64) (wy : y.bits < 2 ^ 64) : ordT [x] [y] = partB x y := by
  rw [leaf_fo x hx, leaf_fo y hy, ord_fo _ _ rfl rfl ?_ ?_]
  · simp only [Fo.cmp]
    by_cases z : partB x y = 0
    · rw [ite_z z, z]; rfl
    · rw [ite_nz z]
  · rw [← leaf_fo x hx]; intro z hz; obtain rfl := List.mem_singleton.1 hz; exact wx
  · rw [← leaf_fo y hy]; intro z hz; obtain rfl := List.mem_singleton.1 hz; exact wy
theorem real_right (a : Nat) : rightB [nR a] = decide (canonB a = a) := by
  rw [leaf_right _ rfl]
  simp [kindB, justB]
theorem real_part (x y : Nat) : partB (nR x) (nR y) = orderB x y := by
  unfold partB
  simp only [cmpI_self]
  rw [ite_z rfl, ite_z rfl]
  by_cases z : orderB x y = 0
  · rw [ite_z z, z]; exact isO_L.self _
  · rw [ite_nz z]
theorem real_ord (x y : Nat) (wx : x < 2 ^ 64) (wy : y < 2 ^ 64) : ordT [nR x] [nR y] = orderB x y := by
  rw [leaf_ord _ _ rfl rfl wx wy, real_part]
theorem real_same (x y : Nat) (wx : x < 2 ^ 64) (wy : y < 2 ^ 64) (cx : canonB x = x) (cy : canonB y = y) : sameT [nR x] [nR y] = decide (x = y) := by
  unfold sameT
  rw [leaf_inO _ rfl, real_ord x y wx wy, Bool.true_and, Bool.eq_iff_iff, beq_iff_eq, decide_eq_true_eq, orderB_zero, pos_canon x y wx wy, cx, cy]
theorem zero_bits (x : Nat) (wx : x < 2 ^ 64) (h : rg x = 0) : x = 0 ∨ x = 9223372036854775808 := by
  unfold rg at h
  omega
/-- What is left where sameness of reals and of terms differ. -/
theorem real_cases (x y : Nat) (wx : x < 2 ^ 64) (wy : y < 2 ^ 64) (cx : canonB x = x) (cy : canonB y = y) :
    sameB x y = decide (x = y) ∨ (x = NAN ∧ y = NAN) ∨ (x ≠ NAN ∧ ((x = 0 ∧ y = 9223372036854775808) ∨ (x = 9223372036854775808 ∧ y = 0))) := by
  by_cases e : x = y
  · subst e
    by_cases nx : isNone x
    · have hx : x = NAN := by rw [← cx]; exact nan_canon x nx
      exact .inr (.inl ⟨hx, hx⟩)
    · left
      rw [decide_eq_true rfl]
      exact (same_pos x x nx nx).2 (.inl rfl)
  · rw [decide_eq_false e]
    cases hs : sameB x y with
    | false => exact .inl rfl
    | true =>
      right; right
      obtain ⟨nx, ny, -⟩ := (same_key x y).1 hs
      have hx : x ≠ NAN := fun h => nx (by rw [h]; exact none_NAN)
      rcases (same_pos x y nx ny).1 hs with h | ⟨h1, h2⟩
      · have := (pos_canon x y wx wy).1 h
        rw [cx, cy] at this
        exact absurd this e
      · refine ⟨hx, ?_⟩
        rcases zero_bits x wx h1 with hx | hx <;> rcases zero_bits y wy h2 with hy | hy
        · exact absurd (hx.trans hy.symm) e
        · exact .inl ⟨hx, hy⟩
        · exact .inr ⟨hx, hy⟩
        · exact absurd (hx.trans hy.symm) e

theorem bits_a : bits .or .u64 0 9223372036854775808 = 9223372036854775808 := by decide +kernel
theorem bits_b : bits .or .u64 9223372036854775808 0 = 9223372036854775808 := by decide +kernel
theorem bits_c : bits .andNot .u64 9223372036854775808 9223372036854775808 = 0 := by decide +kernel
end Go.Proofs.YtilbbemdinpjcaaGreat.T
namespace Go.Proofs.YtilbbemdinpjcaaGreat.T

def eqN (x y : Nd) : Bool := x.kind == y.kind && (x.num == y.num && (x.bits == y.bits && (x.txt.toList == y.txt.toList && x.kids == y.kids)))
def sameN : List Nd → List Nd → Bool
  | [], [] => true
  | x :: xs, y :: ys => eqN x y && sameN xs ys
  | [], _ :: _ => false
  | _ :: _, [] => false
theorem sameN_app : ∀ (a b c d : List Nd), sameN a c = true → sameN b d = true → sameN (a ++ b) (c ++ d) = true
  | [], b, [], d, _, h => h
  | [], b, _ :: _, d, h, _ => by simp [sameN] at h
  | _ :: _, b, [], d, h, _ => by simp [sameN] at h
  | x :: a, b, y :: c, d, h1, h2 => by
    simp only [sameN, Bool.and_eq_true] at h1
    simp only [List.cons_append, sameN, Bool.and_eq_true]
    exact ⟨h1.1, sameN_app a b c d h1.2 h2⟩
theorem sameN_len : ∀ {a b : List Nd}, sameN a b = true → a.length = b.length
  | [], [], _ => rfl
  | [], _ :: _, h => by simp [sameN] at h
  | _ :: _, [], h => by simp [sameN] at h
  | x :: a, y :: b, h => by
    simp only [sameN, Bool.and_eq_true] at h
    simp [sameN_len h.2]
theorem eqN_parts {x y : Nd} (h : eqN x y = true) : x.kind = y.kind ∧ x.num = y.num ∧ x.bits = y.bits ∧ x.txt.toList = y.txt.toList ∧ x.kids = y.kids := by
  unfold eqN at h
  simp only [Bool.and_eq_true, beq_iff_eq] at h
  exact h
theorem eqN_part {x y : Nd} (h : eqN x y = true) : partB x y = 0 := by
  obtain ⟨h1, h2, h3, h4, -⟩ := eqN_parts h
  unfold partB
  rw [h1, h2, h3, h4, ite_z (cmpI_self _), ite_z (cmpI_self _), ite_z (isO_B.self _)]
  exact isO_L.self _
theorem sameN_ahead : ∀ (xs ys : List Nd) (d l r : Int), Words xs → Words ys → sameN xs ys = true → aheadR xs ys d l = some r → r = d
  | [], [], d, l, r, _, _, _, h => by
    by_cases hl : l ≤ 0
    · exact aheadR_end h hl
    · simp [aheadR, hl] at h
  | [], _ :: _, _, _, _, _, _, h, _ => by simp [sameN] at h
  | _ :: _, [], _, _, _, _, _, h, _ => by simp [sameN] at h
  | x :: xs, y :: ys, d, l, r, wx, wy, hs, h => by
    simp only [sameN, Bool.and_eq_true] at hs
    by_cases hl : l ≤ 0
    · exact aheadR_end h hl
    · rw [ahead_cons (by omega), partO_is _ _ (wx x (by simp)) (wy y (by simp)), ite_z (eqN_part hs.1), if_pos (eqN_parts hs.1).2.2.2.2] at h
      exact sameN_ahead xs ys d _ r (fun z hz => wx z (by simp [hz])) (fun z hz => wy z (by simp [hz])) hs.2 h
theorem sameN_ord {xs ys : List Nd} (h1 : inO xs = true) (h2 : inO ys = true) (wx : Words xs) (wy : Words ys) (hs : sameN xs ys = true) : ordT xs ys = 0 :=
  sameN_ahead xs ys 0 1 _ wx wy hs (ord_two h1 h2)
def CanonW (xs : List Nd) : Prop := ∀ x ∈ xs, canonB x.bits = x.bits ∧ x.bits < 2 ^ 64
theorem part_eq {x y : Nd} (h : partB x y = 0) (cx : canonB x.bits = x.bits ∧ x.bits < 2 ^ 64) (cy : canonB y.bits = y.bits ∧ y.bits < 2 ^ 64) : x.kind = y.kind ∧ x.num = y.num ∧ x.bits = y.bits ∧ x.txt.toList = y.txt.toList := by
  unfold partB at h
  by_cases z1 : cmpI x.kind y.kind = 0
  · rw [ite_z z1] at h
    by_cases z2 : cmpI x.num y.num = 0
    · rw [ite_z z2] at h
      by_cases z3 : orderB x.bits y.bits = 0
      · rw [ite_z z3] at h
        refine ⟨cmpI_eq z1, cmpI_eq z2, ?_, cmpL_eq _ _ h⟩
        have := (pos_canon _ _ cx.2 cy.2).1 ((orderB_zero _ _).1 z3)
        rwa [cx.1, cy.1] at this
      · rw [ite_nz z3] at h; exact absurd h z3
    · rw [ite_nz z2] at h; exact absurd h z2
  · rw [ite_nz z1] at h; exact absurd h z1
theorem cmp_same : ∀ f g : Fo, f.cmp g = 0 → CanonW f.flat → CanonW g.flat → sameN f.flat g.flat = true
  | .nil, .nil, _, _, _ => rfl
  | .nil, .cons .., h, _, _ => by simp [Fo.cmp] at h
  | .cons .., .nil, h, _, _ => by simp [Fo.cmp] at h
  | .cons n k r, .cons n' k' r', h, cf, cg => by
    simp only [Fo.cmp] at h
    by_cases z1 : partB n n' = 0
    · rw [ite_z z1] at h
      by_cases z2 : k.cmp k' = 0
      · rw [ite_z z2] at h
        have c1 := cf { n with kids := (k.cnt : Int) } (by simp [Fo.flat])
        have c2 := cg { n' with kids := (k'.cnt : Int) } (by simp [Fo.flat])
        obtain ⟨e1, e2, e3, e4⟩ := part_eq z1 c1 c2
        have ek := cmp_same k k' z2 (fun x hx => cf x (by simp [Fo.flat, hx])) (fun x hx => cg x (by simp [Fo.flat, hx]))
        have er := cmp_same r r' h (fun x hx => cf x (by simp [Fo.flat, hx])) (fun x hx => cg x (by simp [Fo.flat, hx]))
        simp only [Fo.flat, sameN, Bool.and_eq_true]
        refine ⟨?_, sameN_app _ _ _ _ ek er⟩
        unfold eqN
        simp [e1, e2, e3, e4, Fo.cmp_cnt _ _ z2]
      · rw [ite_nz z2] at h; exact absurd h z2
    · rw [ite_nz z1] at h; exact absurd h z1
theorem kind_canon {xs : List Nd} {E : Nat → Nat} {i : Nat} {x : Nd} (h : kindB xs E i x = true) : canonB x.bits = x.bits := by
  have just0 : ∀ (h : Nd), h.bits = 0 → justB x h = true → canonB x.bits = x.bits := fun h e k => by
    unfold justB at k
    simp only [Bool.and_eq_true, beq_iff_eq] at k
    rw [← k.2.1, e]
    decide
  unfold kindB at h
  split at h
  · exact just0 _ rfl h
  · split at h
    · exact just0 _ rfl (Bool.and_eq_true .. ▸ h).2
    · split at h
      · exact of_decide_eq_true (Bool.and_eq_true .. ▸ h).1
      · split at h
        · exact just0 _ rfl h
        · split at h
          · exact just0 _ rfl (Bool.and_eq_true .. ▸ h).2
          · split at h
            · unfold mapB at h
              simp only [Bool.and_eq_true] at h
              exact just0 _ rfl h.2.1
            · cases h
theorem right_canon {xs : List Nd} (wx : Words xs) (h : rightB xs = true) : inO xs = true ∧ CanonW xs := by
  unfold rightB fitsB at h
  simp only [Bool.and_eq_true] at h
  refine ⟨h.2.1, fun x hx => ⟨?_, wx x hx⟩⟩
  obtain ⟨i, hi, rfl⟩ := List.getElem_of_mem hx
  exact kind_canon (kindsB_iff.1 h.2.2.2 i hi)
theorem right_same {xs ys : List Nd} (wx : Words xs) (wy : Words ys) (h1 : rightB xs = true) (h2 : rightB ys = true) : (ordT xs ys == 0) = sameN xs ys := by
  obtain ⟨i1, c1⟩ := right_canon wx h1
  obtain ⟨i2, c2⟩ := right_canon wy h2
  cases hs : sameN xs ys with
  | true => rw [sameN_ord i1 i2 wx wy hs]; rfl
  | false =>
    rw [beq_eq_false_iff_ne]
    intro h
    obtain ⟨f, f1, f2⟩ := fo_inO i1
    obtain ⟨g, g1, g2⟩ := fo_inO i2
    rw [← f2, ← g2] at h hs
    rw [← f2] at wx c1
    rw [← g2] at wy c2
    rw [ord_fo f g f1 g1 wx wy] at h
    rw [cmp_same f g h c1 c2] at hs
    cases hs
abbrev WL := {xs : List Nd // Words xs}
theorem ordT_is : IsO (fun (a b : WL) => ordT a.1 b.1) := ordT_isO Words fun _ h => h
theorem ordT_range {xs ys : List Nd} (wx : Words xs) (wy : Words ys) : -1 ≤ ordT xs ys ∧ ordT xs ys ≤ 1 := ordT_is.range ⟨xs, wx⟩ ⟨ys, wy⟩
theorem ordT_turn {xs ys : List Nd} (wx : Words xs) (wy : Words ys) : ordT xs ys = - ordT ys xs := ordT_is.turn ⟨xs, wx⟩ ⟨ys, wy⟩
theorem ordT_tri {xs ys zs : List Nd} (wx : Words xs) (wy : Words ys) (wz : Words zs) (h1 : ordT xs ys ≤ 0) (h2 : ordT ys zs ≤ 0) : ordT xs zs ≤ 0 := (ordT_is.tri ⟨xs, wx⟩ ⟨ys, wy⟩ ⟨zs, wz⟩ h1 h2).1
theorem ordT_self {xs : List Nd} (wx : Words xs) : ordT xs xs = 0 := ordT_is.self ⟨xs, wx⟩
theorem same_in {xs ys : List Nd} (h : sameT xs ys = true) : inO xs = true ∧ inO ys = true := by
  unfold sameT at h
  simp only [Bool.and_eq_true, beq_iff_eq] at h
  refine ⟨h.1, ?_⟩
  cases hy : inO ys with
  | true => rfl
  | false =>
    have := h.2
    unfold ordT at this
    rw [if_pos h.1, hy] at this
    simp at this
theorem deep_zero {xs : List Nd} : deepT xs = 0 ↔ inO xs = false := by
  have := deep_pos xs
  cases h : inO xs with
  | true => rw [h] at this; simp at this ⊢; omega
  | false => rw [h] at this; simp at this ⊢; omega
/-- All of a row of forests. -/
def appAll : List Fo → Fo
  | [] => .nil
  | f :: l => f.app (appAll l)
theorem appAll_flat : ∀ l : List Fo, (appAll l).flat = (l.map Fo.flat).flatten
  | [] => rfl
  | f :: l => by simp [appAll, Fo.flat_app, appAll_flat l]
theorem appAll_cnt : ∀ l : List Fo, (∀ f ∈ l, f.cnt = 1) → (appAll l).cnt = l.length
  | [], _ => rfl
  | f :: l, h => by
    simp only [appAll, Fo.cnt_app, List.length_cons]
    rw [h f (by simp), appAll_cnt l fun g hg => h g (by simp [hg])]
    omega
theorem join_fo (n : Nd) (l : List Fo) (h : ∀ f ∈ l, f.cnt = 1) : joinL n (l.map Fo.flat) = (Fo.cons n (appAll l) .nil).flat := by
  simp only [joinL, Fo.flat, List.append_nil, List.length_map]
  rw [appAll_cnt l h, appAll_flat]
theorem cmp_under (n : Nd) (k k' : Fo) : (Fo.cons n k .nil).cmp (.cons n k' .nil) = k.cmp k' := by
  simp only [Fo.cmp]
  rw [ite_z (isO_part.self n)]
  by_cases z : k.cmp k' = 0
  · rw [ite_z z, z]
  · rw [ite_nz z]
theorem cmp_app {f f' : Fo} (g g' : Fo) (h : f.cnt = 1) (h' : f'.cnt = 1) : (f.app g).cmp (f'.app g') = if f.cmp f' ≠ 0 then f.cmp f' else g.cmp g' := by
  match f, f', h, h' with
  | .cons n k .nil, .cons n' k' .nil, _, _ =>
    simp only [Fo.app, Fo.cmp]
    by_cases z1 : partB n n' = 0
    · by_cases z2 : k.cmp k' = 0 <;> simp [z1, z2]
    · simp [z1]
  | .nil, _, h, _ => simp [Fo.cnt] at h
  | .cons _ _ (.cons ..), _, h, _ => simp [Fo.cnt] at h
  | .cons _ _ .nil, .nil, _, h => simp [Fo.cnt] at h
  | .cons _ _ .nil, .cons _ _ (.cons ..), _, h => simp [Fo.cnt] at h
theorem join_words {n : Nd} {ls : List (List Nd)} (hn : n.bits < 2 ^ 64) (h : ∀ xs ∈ ls, Words xs) : Words (joinL n ls) := by
  intro x hx
  simp only [joinL, List.mem_cons, List.mem_flatten] at hx
  rcases hx with rfl | ⟨xs, h1, h2⟩
  · exact hn
  · exact h xs h1 x h2
theorem join_inO (n : Nd) (l : List Fo) (h : ∀ f ∈ l, f.cnt = 1) : inO (joinL n (l.map Fo.flat)) = true := by
  rw [join_fo n l h]; exact inO_fo _ rfl
theorem ord_join (n : Nd) (l l' : List Fo) (h : ∀ f ∈ l, f.cnt = 1) (h' : ∀ f ∈ l', f.cnt = 1) (hn : n.bits < 2 ^ 64) (w : ∀ f ∈ l, Words f.flat) (w' : ∀ f ∈ l', Words f.flat) :
    ordT (joinL n (l.map Fo.flat)) (joinL n (l'.map Fo.flat)) = (appAll l).cmp (appAll l') := by
  have w1 := join_words (n := n) (ls := l.map Fo.flat) hn (fun xs hx => by obtain ⟨f, h1, rfl⟩ := List.mem_map.1 hx; exact w f h1)
  have w2 := join_words (n := n) (ls := l'.map Fo.flat) hn (fun xs hx => by obtain ⟨f, h1, rfl⟩ := List.mem_map.1 hx; exact w' f h1)
  rw [join_fo n l h] at w1 ⊢
  rw [join_fo n l' h'] at w2 ⊢
  rw [ord_fo _ _ rfl rfl w1 w2, cmp_under]
/-- What the law on joined terms asks. -/
theorem join_laws (n : Nd) (hn : n.bits < 2 ^ 64) {a b c : List Nd} (ia : inO a = true) (ib : inO b = true) (ic : inO c = true) (wa : Words a) (wb : Words b) (wc : Words c) :
    (ordT a b ≠ 0 → ordT (joinL n [c, a, c]) (joinL n [c, b, a]) = ordT a b) ∧ ordT (joinL n [c, a]) (joinL n [c, b]) = ordT a b ∧ ordT (joinL n [c, a]) (joinL n [c, a, c]) = -1 ∧ ordT (joinL n []) (joinL n [c, b]) = -1 := by
  obtain ⟨fa, a1, rfl⟩ := fo_inO ia
  obtain ⟨fb, b1, rfl⟩ := fo_inO ib
  obtain ⟨fc, c1, rfl⟩ := fo_inO ic
  have s := isO_cmp.self fc
  have sa := isO_cmp.self fa
  rw [ord_fo fa fb a1 b1 wa wb]
  have m1 : ∀ l : List Fo, (∀ f ∈ l, f = fa ∨ f = fb ∨ f = fc) → (∀ f ∈ l, f.cnt = 1) ∧ ∀ f ∈ l, Words f.flat := fun l h =>
    ⟨fun f hf => by rcases h f hf with rfl | rfl | rfl <;> assumption, fun f hf => by rcases h f hf with rfl | rfl | rfl <;> assumption⟩
  have p := m1 [fc, fa, fc] (by simp)
  have q := m1 [fc, fb, fa] (by simp)
  have r := m1 [fc, fa] (by simp)
  have t := m1 [fc, fb] (by simp)
  have z := m1 [] (by simp)
  have e1 := ord_join n _ _ p.1 q.1 hn p.2 q.2
  have e2 := ord_join n _ _ r.1 t.1 hn r.2 t.2
  have e3 := ord_join n _ _ r.1 p.1 hn r.2 p.2
  have e4 := ord_join n _ _ z.1 t.1 hn z.2 t.2
  simp only [List.map_cons, List.map_nil, appAll] at e1 e2 e3 e4
  rw [cmp_app _ _ c1 c1, ite_z s, cmp_app _ _ a1 b1] at e1
  rw [cmp_app _ _ c1 c1, ite_z s, cmp_app _ _ a1 b1] at e2
  rw [cmp_app _ _ c1 c1, ite_z s, cmp_app _ _ a1 a1, ite_z sa] at e3
  refine ⟨fun h => by rw [e1, ite_nz h], ?_, ?_, ?_⟩
  · rw [e2]
    by_cases h : fa.cmp fb = 0
    · rw [ite_z h, h]; rfl
    · rw [ite_nz h]
  · rw [e3]
    match fc, c1 with
    | .cons _ _ .nil, _ => rfl
    | .nil, h => simp [Fo.cnt] at h
    | .cons _ _ (.cons ..), h => simp [Fo.cnt] at h
  · rw [e4]
    match fc, c1 with
    | .cons _ _ .nil, _ => rfl
    | .nil, h => simp [Fo.cnt] at h
    | .cons _ _ (.cons ..), h => simp [Fo.cnt] at h
end Go.Proofs.YtilbbemdinpjcaaGreat.T
namespace Go.Proofs.YtilbbemdinpjcaaGreat.T
open Go.RowKit

def cost : List Nd → Nat
  | [] => 0
  | x :: xs => 1 + x.txt.size / 16 + cost xs
theorem cost_app : ∀ xs ys : List Nd, cost (xs ++ ys) = cost xs + cost ys
  | [], ys => by simp [cost]
  | x :: xs, ys => by simp only [List.cons_append, cost, cost_app xs ys]; omega
theorem cost_take {xs : List Nd} {k : Nat} (h : k < xs.length) : cost (xs.take (k + 1)) = cost (xs.take k) + 1 + xs[k].txt.size / 16 := by
  rw [List.take_succ_eq_append_getElem h, cost_app]
  simp only [cost]
  omega
theorem cost_len : ∀ xs : List Nd, xs.length ≤ cost xs
  | [] => Nat.zero_le _
  | x :: xs => by have := cost_len xs; simp only [List.length_cons, cost]; omega
theorem cost_txt : ∀ (xs : List Nd) (x : Nd), x ∈ xs → x.txt.size / 16 ≤ cost xs
  | [], _, h => by cases h
  | y :: ys, x, h => by
    simp only [cost]
    rcases List.mem_cons.1 h with rfl | h
    · omega
    · have := cost_txt ys x h; omega
/-- Nodes by a slice, however many. -/
def TRaw (w : World) (a : Option Addr) (xs : List Nd) : Prop := 0 < xs.length → ∃ g off, a = some ⟨g, off, none⟩ ∧ NAt w g off xs
theorem TRaw.below {B : Nat} {w w' : World} {a : Option Addr} {xs : List Nd} (h : TRaw w a xs) (hb : Below B w w') (hB : w.heap.size ≤ B) : TRaw w' a xs := fun h0 => by
  obtain ⟨g, off, h1, h2⟩ := h h0
  exact ⟨g, off, h1, h2.below hb (Nat.lt_of_lt_of_le h2.1 hB)⟩
def TxtRaw (xs : List Nd) : Prop := ∀ x ∈ xs, x.txt.size ≤ 140737488355328
set_option maxRecDepth 1000000 in
set_option maxHeartbeats 1000000 in
theorem termOf_any (w : World) (a : Option Addr) (c : Nat) (xs : List Nd) (hr : TRaw w a xs) (ht : TxtRaw xs) (hl : xs.length ≤ 140737488355328) :
    Calls Tryz.prog 41 #[.agg #[.slice a xs.length c], .int .i64 300] w fun e w' => ∃ r : Nat, e = .returned (.int .i64 r) ∧ (r ≤ 300 → r = cost xs) ∧ r ≤ 1000000000000000 ∧ Below w.heap.size w w' := by
  have hA : Lies (w.alloc (.cells #[.slice a xs.length c] 24)) w.heap.size #[.slice a xs.length c] 24 := Lies.new _ _ _
  have hb0 : Below w.heap.size w (w.alloc (.cells #[.slice a xs.length c] 24)) := (Below.refl _ _).alloc (Nat.le_refl _) _
  obtain ⟨n, hn⟩ : ∃ n, n = xs.length := ⟨_, rfl⟩
  rw [← hn] at hA hb0 hl ⊢
  have H := Lib.hid (And.intro hr (And.intro ht (And.intro hl hn)))
  clear hr ht hl hn
  go_enter Tryz.func41, Tryz.ntmps41
  go_upto_region 1 with fail
  generalize w.alloc (.cells #[.slice a n c] 24) = W0 at hA hb0 ⊢
  have c0 := hA.cell 0 (v := .slice a n c) rfl
  have HB := Lib.hid hb0
  clear hA hb0
  go_wp2_with fail
  go_loop [5, 6] (fun s i => ∃ k t : Nat, k ≤ n ∧ i = .int .i64 k ∧ s = .int .i64 t ∧ t = cost (xs.take k) ∧ t ≤ 1000000000000000) (fun _ i => (n - intOf i).toNat)
  case atStart => exact ⟨0, 0, by omega, by go_num, by go_num, rfl, by omega⟩
  case round =>
    obtain ⟨k, t, hk, rfl, rfl, hs, hts⟩ := hrel
    by_cases hlt : k < n
    · have q1 : (k : Int) < (n : Int) := by omega
      by_cases h3 : t ≤ 300
      · have q2 : (t : Int) ≤ 300 := by omega
        have hxl : k < xs.length := by rw [← H.out.2.2.2]; exact hlt
        obtain ⟨g, off, rfl, hN⟩ := H.out.1 (by omega)
        have hNW := hN.below HB.out hN.1
        obtain ⟨tx, htx⟩ : ∃ z, z = xs[k].txt := ⟨_, rfl⟩
        have c3 : W0.cell? ⟨g, off + k * 5 + 3, none⟩ = some (.string tx) := by rw [htx]; exact hNW.2 k hxl 3 _ rfl
        have hz : tx.size ≤ 140737488355328 := by rw [htx]; exact H.out.2.1 _ (List.getElem_mem hxl)
        have hct := cost_take hxl
        rw [← htx, ← hs] at hct
        have q0 : (0 : Int) ≤ (k : Int) := by omega
        have q3 : (k : Int) ≤ 140737488355328 := by have := H.out.2.2.1; omega
        have HC := Lib.hid (And.intro hct (And.intro hz hs))
        have q4 : (tx.size : Int) ≤ 140737488355328 := by omega
        have q5 : (0 : Int) ≤ (tx.size : Int) := by omega
        clear hN hNW htx hct hs hxl hz
        go_wp2_with fail
        have hz := HC.out.2.1
        refine ⟨⟨k + 1, t + 1 + tx.size / 16, by omega, by go_num, congrArg (Value.int .i64) (by omega), HC.out.1.symm, by omega⟩, by simp [intOf]; omega⟩
      · have q2 : ¬ (t : Int) ≤ 300 := by omega
        have HT := Lib.hid hs
        clear hs
        go_wp2_with fail
        go_ret
        exact ⟨t, rfl, fun h => by omega, hts, HB.out⟩
    · have q1 : ¬ (k : Int) < (n : Int) := by omega
      have hke : k = n := by omega
      have hz : t = cost xs := by rw [hs, hke, H.out.2.2.2, List.take_length]
      have HT := Lib.hid hz
      clear hs hz hke
      go_wp2_with fail
      go_ret
      exact ⟨t, rfl, fun _ => HT.out, hts, HB.out⟩
end Go.Proofs.YtilbbemdinpjcaaGreat.T
namespace Go.Proofs.YtilbbemdinpjcaaGreat.T
open Go.RowKit

/-- Terms in a row, however great. -/
def RsAt (w : World) (ad : Option Addr) (l : List TK) : Prop := (0 < l.length → ∃ g off, ad = some ⟨g, off, none⟩ ∧ g < w.heap.size ∧ ∀ j (h : j < l.length), w.cell? ⟨g, off + j, none⟩ = some l[j].v) ∧ ∀ t ∈ l, TRaw w t.a t.xs ∧ TxtRaw t.xs ∧ t.xs.length ≤ 140737488355328
theorem RsAt.below {B : Nat} {w w' : World} {ad : Option Addr} {l : List TK} (h : RsAt w ad l) (hb : Below B w w') (hB : w.heap.size ≤ B) : RsAt w' ad l :=
  ⟨fun h0 => by
    obtain ⟨g, off, h1, h2, h3⟩ := h.1 h0
    exact ⟨g, off, h1, Nat.lt_of_lt_of_le h2 hb.size, fun j hj => (hb.cell (p := ⟨g, off + j, none⟩) (Nat.lt_of_lt_of_le h2 hB)).trans (h3 j hj)⟩, fun t ht => ⟨(h.2 t ht).1.below hb hB, (h.2 t ht).2⟩⟩
theorem run_neq_struct (W : World) (t : TypeId) (xs ys : Array Value) : (binOp .neq t (.agg xs) (.agg ys)).run Tryz.prog W = ((Op.equalIn 10000 t (.agg xs) (.agg ys)).run Tryz.prog W).andThen fun b w' => .ok (.bool (!b)) w' := by
  simp only [binOp]
  simp [Op.equal, Op.maxDepth]
set_option maxRecDepth 100000 in
theorem neq_nodes (W : World) (k1 k2 n1 n2 : Int) (b1 b2 : Nat) (t1 t2 : ByteArray) (d1 d2 : Int) :
    (binOp .neq 72 (.agg #[.int .i64 k1, .int .i64 n1, .int .u64 b1, .string t1, .int .i64 d1]) (.agg #[.int .i64 k2, .int .i64 n2, .int .u64 b2, .string t2, .int .i64 d2])).run Tryz.prog W = .ok (.bool (!eqN ⟨k1, n1, b1, t1, d1⟩ ⟨k2, n2, b2, t2, d2⟩)) W := by
  have h2 := stood32
  rw [run_neq_struct, run_equalIn_agg W 9999 72 _ _ (by kernel_rfl) h2]
  unfold eqN
  simp only
  by_cases e0 : k1 = k2
  · by_cases e1 : n1 = n2
    · by_cases e2 : b1 = b2
      · by_cases e3 : t1.toList = t2.toList
        · by_cases e4 : d1 = d2 <;> simp [go_sem, e0, e1, e2, e3, e4]
        · simp [go_sem, e0, e1, e2, e3]
      · have e2' : ¬ (b1 : Int) = (b2 : Int) := by omega
        simp [go_sem, e0, e1, e2, e2']
    · simp [go_sem, e0, e1]
  · simp [go_sem, e0]
theorem sameN_false : ∀ {xs ys : List Nd} (j : Nat) (h1 : j < xs.length) (h2 : j < ys.length), eqN xs[j] ys[j] = false → sameN xs ys = false
  | x :: xs, y :: ys, 0, _, _, h => by
    have : eqN x y = false := h
    simp [sameN, this]
  | x :: xs, y :: ys, j + 1, h1, h2, h => by
    have := sameN_false (xs := xs) (ys := ys) j (by simpa using h1) (by simpa using h2) h
    simp [sameN, this]
theorem sameN_true : ∀ {xs ys : List Nd}, xs.length = ys.length → (∀ j (h1 : j < xs.length) (h2 : j < ys.length), eqN xs[j] ys[j] = true) → sameN xs ys = true
  | [], [], _, _ => rfl
  | [], _ :: _, h, _ => by simp at h
  | _ :: _, [], h, _ => by simp at h
  | x :: xs, y :: ys, hl, h => by
    have h0 : eqN x y = true := h 0 (by simp) (by simp)
    have := sameN_true (xs := xs) (ys := ys) (by simpa using hl) (fun j h1 h2 => h (j + 1) (by simpa using h1) (by simpa using h2))
    simp [sameN, h0, this]
set_option maxRecDepth 100000 in
set_option maxHeartbeats 1000000 in
theorem sameNodes_any (w : World) (a b : Option Addr) (c1 c2 : Nat) (xs ys : List Nd) (hx : TAt w a xs) (hy : TAt w b ys) :
    Calls Tryz.prog 122 #[.slice a xs.length c1, .slice b ys.length c2] w fun e w' => e = .returned (.bool (sameN xs ys)) ∧ Below w.heap.size w w' := by
  obtain ⟨res, hres⟩ : ∃ r, r = sameN xs ys := ⟨_, rfl⟩
  rw [← hres]
  obtain ⟨n, hn⟩ : ∃ n, n = xs.length := ⟨_, rfl⟩
  obtain ⟨m, hm⟩ : ∃ m, m = ys.length := ⟨_, rfl⟩
  have hle : n ≤ 1000000 := by rw [hn]; exact hx.2.1
  have hle2 : m ≤ 1000000 := by rw [hm]; exact hy.2.1
  rw [← hn, ← hm]
  have H := Lib.hid (And.intro hx (And.intro hy (And.intro hn (And.intro hm hres))))
  clear hx hy hn hm hres
  have q9 : (n : Int) ≤ 1000000 := by omega
  by_cases hnm : n = m
  · have HN := Lib.hid hnm
    have e1 : ((n : Int) != (m : Int)) = false := by rw [bne_eq_false_iff_eq]; omega
    clear hnm
    go_enter Tryz.func122, Tryz.ntmps122
    go_wp2_with fail
    clear e1
    go_loopw [5] (fun i W => ∃ k : Nat, k ≤ n ∧ i = .int .i64 k ∧ (∀ j (h1 : j < xs.length) (h2 : j < ys.length), j < k → eqN xs[j] ys[j] = true) ∧ Below w.heap.size w W) (fun i _ => (n - intOf i).toNat)
    case atStart => exact ⟨0, by omega, by go_num, fun j _ _ h => by omega, Below.refl _ _⟩
    case round =>
      obtain ⟨k, hk, rfl, hall, hbr⟩ := hrel
      by_cases hlt : k < n
      · have hx1 : k < xs.length := by rw [← H.out.2.2.1]; exact hlt
        have hy1 : k < ys.length := by rw [← H.out.2.2.2.1, ← HN.out]; exact hlt
        obtain ⟨g1, o1, ea, hN1⟩ := (H.out.1.below hbr (Nat.le_refl _)).1 (by omega)
        obtain ⟨g2, o2, eb, hN2⟩ := (H.out.2.1.below hbr (Nat.le_refl _)).1 (by omega)
        subst ea eb
        have hc1 := hN1.2 k hx1
        have hc2 := hN2.2 k hy1
        have hnext : eqN xs[k] ys[k] = true → ∀ j (h1 : j < xs.length) (h2 : j < ys.length), j < k + 1 → eqN xs[j] ys[j] = true := fun e j h1 h2 h => by
          by_cases e2 : j = k
          · subst e2; exact e
          · exact hall j h1 h2 (by omega)
        have hbad : eqN xs[k] ys[k] = false → res = false := fun e => by rw [H.out.2.2.2.2]; exact sameN_false k hx1 hy1 e
        obtain ⟨x, ex⟩ : ∃ x, x = xs[k] := ⟨_, rfl⟩
        obtain ⟨y, ey⟩ : ∃ y, y = ys[k] := ⟨_, rfl⟩
        rw [← ex] at hc1 hnext hbad
        rw [← ey] at hc2 hnext hbad
        obtain ⟨k1, n1, b1, t1, d1⟩ := x
        obtain ⟨k2, n2, b2, t2, d2⟩ := y
        have x0 : wr.cell? ⟨g1, o1 + k * 5, none⟩ = some (.int .i64 k1) := hc1 0 _ rfl
        have x1 : wr.cell? ⟨g1, o1 + k * 5 + 1, none⟩ = some (.int .i64 n1) := hc1 1 _ rfl
        have x2 : wr.cell? ⟨g1, o1 + k * 5 + 2, none⟩ = some (.int .u64 b1) := hc1 2 _ rfl
        have x3 : wr.cell? ⟨g1, o1 + k * 5 + 3, none⟩ = some (.string t1) := hc1 3 _ rfl
        have x4 : wr.cell? ⟨g1, o1 + k * 5 + 4, none⟩ = some (.int .i64 d1) := hc1 4 _ rfl
        have y0 : wr.cell? ⟨g2, o2 + k * 5, none⟩ = some (.int .i64 k2) := hc2 0 _ rfl
        have y1 : wr.cell? ⟨g2, o2 + k * 5 + 1, none⟩ = some (.int .i64 n2) := hc2 1 _ rfl
        have y2 : wr.cell? ⟨g2, o2 + k * 5 + 2, none⟩ = some (.int .u64 b2) := hc2 2 _ rfl
        have y3 : wr.cell? ⟨g2, o2 + k * 5 + 3, none⟩ = some (.string t2) := hc2 3 _ rfl
        have y4 : wr.cell? ⟨g2, o2 + k * 5 + 4, none⟩ = some (.int .i64 d2) := hc2 4 _ rfl
        have hqq := fun W => neq_nodes W k1 k2 n1 n2 b1 b2 t1 t2 d1 d2
        have hg := guard32
        obtain ⟨r, hr⟩ : ∃ r, r = eqN ⟨k1, n1, b1, t1, d1⟩ ⟨k2, n2, b2, t2, d2⟩ := ⟨_, rfl⟩
        rw [← hr] at hnext hbad
        simp only [← hr] at hqq
        have q0 : (0 : Int) ≤ (k : Int) := by omega
        have q1 : (k : Int) < (n : Int) := by omega
        have q2 : (k : Int) < (m : Int) := by have := HN.out; omega
        have HR := Lib.hid (And.intro hbr (And.intro hnext hbad))
        clear hbr hnext hbad hall hN1 hN2 hc1 hc2 ex ey hr hx1 hy1
        go_upto_region 6 with fail
        go_quiet (fail)
        have HW := Lib.hid (below_drewN HR.out.1 1)
        cases r with
        | true =>
          have HN2 := Lib.hid (HR.out.2.1 rfl)
          go_wp2_with fail
          refine ⟨⟨k + 1, by omega, by go_num, HN2.out, below_drewN HR.out.1 _⟩, by simp [intOf]; omega⟩
        | false =>
          have HB2 := Lib.hid (HR.out.2.2 rfl)
          go_wp2_with fail
          go_ret
          exact ⟨by rw [HB2.out]; rfl, below_drewN HR.out.1 _⟩
      · have hke : k = n := by omega
        have hz : res = true := by
          rw [H.out.2.2.2.2]
          exact sameN_true (by rw [← H.out.2.2.1, ← H.out.2.2.2.1]; exact HN.out) fun j h1 h2 => hall j h1 h2 (by rw [hke, H.out.2.2.1]; exact h1)
        have HZ := Lib.hid (And.intro hz hbr)
        clear hz hall hbr hke hk
        go_wp2_with fail
        go_ret
        exact ⟨by rw [HZ.out.1]; rfl, HZ.out.2⟩
  · have e1 : ((n : Int) != (m : Int)) = true := by rw [bne_iff_ne]; omega
    have HZ : Hid (res = false) := Lib.hid (by
      rw [H.out.2.2.2.2]
      cases hs : sameN xs ys with
      | false => rfl
      | true => exact absurd (sameN_len hs) (by rw [← H.out.2.2.1, ← H.out.2.2.2.1]; exact hnm))
    go_enter Tryz.func122, Tryz.ntmps122
    go_wp2_with fail
    go_ret
    exact ⟨by rw [HZ.out]; rfl, Below.refl _ _⟩
set_option maxRecDepth 100000 in
theorem sameTerm_any (w : World) (a b : Option Addr) (c1 c2 : Nat) (xs ys : List Nd) (hx : TAt w a xs) (hy : TAt w b ys) :
    Calls Tryz.prog 50 #[.agg #[.slice a xs.length c1], .agg #[.slice b ys.length c2]] w fun e w' => e = .returned (.bool (sameN xs ys)) ∧ Below w.heap.size w w' := by
  have hb0 : Below w.heap.size w ((w.alloc (.cells #[.slice a xs.length c1] 24)).alloc (.cells #[.slice b ys.length c2] 24)) := ((Below.refl _ _).alloc (Nat.le_refl _) _).alloc (by simp) _
  have h := sameNodes_any ((w.alloc (.cells #[.slice a xs.length c1] 24)).alloc (.cells #[.slice b ys.length c2] 24)) a b c1 c2 xs ys (hx.below hb0 (Nat.le_refl _)) (hy.below hb0 (Nat.le_refl _))
  obtain ⟨res, hres⟩ : ∃ r, r = sameN xs ys := ⟨_, rfl⟩
  rw [← hres] at h ⊢
  obtain ⟨n, hn⟩ : ∃ n, n = xs.length := ⟨_, rfl⟩
  obtain ⟨m, hm⟩ : ∃ m, m = ys.length := ⟨_, rfl⟩
  rw [← hn, ← hm] at h hb0 ⊢
  have H := Lib.hid (And.intro h hb0)
  clear h hb0 hx hy hn hm hres
  go_enter Tryz.func50, Tryz.ntmps50
  go_wp2_with fail
  refine H.out.1.mono ?_
  rintro e w2 ⟨rfl, hb2⟩
  have HB := Lib.hid (H.out.2.trans (hb2.mono H.out.2.size))
  clear hb2
  go_wp2_with fail
  go_ret
  exact ⟨rfl, HB.out⟩
end Go.Proofs.YtilbbemdinpjcaaGreat.T
