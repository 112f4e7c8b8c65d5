/-
  What the laws on terms want of their order, as plain mathematics.
-/
import Derived.Test.YtieoiklgoeclaaaGreatLreals
namespace Go.Proofs.YtieoiklgoeclaaaGreat

def eqN (x y : Nd) : Bool := x.kind == y.kind && (x.num == y.num && (x.bits == y.bits && (x.txt.toList == y.txt.toList && x.kids == y.kids)))
def sameN : List Nd → List Nd → Bool
  | [], [] => true
  | x :: xs, y :: ys => eqN x y && sameN xs ys
  | [], _ :: _ => false
  | _ :: _, [] => false
theorem sameN_app : ∀ (a b c d : List Nd), sameN a c = true → sameN b d = true → sameN (a ++ b) (c ++ d) = true
  | [], b, [], d, _, h => h
  | [], b, _ :: _, d, h, _ => by simp [sameN] at h
  | _ :: _, b, [], d, h, _ => by simp [sameN] at h
  | x :: a, b, y :: c, d, h1, h2 => by
    simp only [sameN, Bool.and_eq_true] at h1
    simp only [List.cons_append, sameN, Bool.and_eq_true]
    exact ⟨h1.1, sameN_app a b c d h1.2 h2⟩
theorem sameN_len : ∀ {a b : List Nd}, sameN a b = true → a.length = b.length
  | [], [], _ => rfl
  | [], _ :: _, h => by simp [sameN] at h
  | _ :: _, [], h => by simp [sameN] at h
  | x :: a, y :: b, h => by
    simp only [sameN, Bool.and_eq_true] at h
    simp [sameN_len h.2]
theorem eqN_parts {x y : Nd} (h : eqN x y = true) : x.kind = y.kind ∧ x.num = y.num ∧ x.bits = y.bits ∧ x.txt.toList = y.txt.toList ∧ x.kids = y.kids := by
  unfold eqN at h
  simp only [Bool.and_eq_true, beq_iff_eq] at h
  exact h
theorem eqN_part {x y : Nd} (h : eqN x y = true) : partB x y = 0 := by
  obtain ⟨h1, h2, h3, h4, -⟩ := eqN_parts h
  unfold partB
  rw [h1, h2, h3, h4, ite_z (cmpI_self _), ite_z (cmpI_self _), ite_z (isO_B.self _)]
  exact isO_L.self _
theorem sameN_ahead : ∀ (xs ys : List Nd) (d l r : Int), Words xs → Words ys → sameN xs ys = true → aheadR xs ys d l = some r → r = d
  | [], [], d, l, r, _, _, _, h => by
    by_cases hl : l ≤ 0
    · exact aheadR_end h hl
    · simp [aheadR, hl] at h
  | [], _ :: _, _, _, _, _, _, h, _ => by simp [sameN] at h
  | _ :: _, [], _, _, _, _, _, h, _ => by simp [sameN] at h
  | x :: xs, y :: ys, d, l, r, wx, wy, hs, h => by
    simp only [sameN, Bool.and_eq_true] at hs
    by_cases hl : l ≤ 0
    · exact aheadR_end h hl
    · rw [ahead_cons (by omega), partO_is _ _ (wx x (by simp)) (wy y (by simp)), ite_z (eqN_part hs.1), if_pos (eqN_parts hs.1).2.2.2.2] at h
      exact sameN_ahead xs ys d _ r (fun z hz => wx z (by simp [hz])) (fun z hz => wy z (by simp [hz])) hs.2 h
theorem sameN_ord {xs ys : List Nd} (h1 : inO xs = true) (h2 : inO ys = true) (wx : Words xs) (wy : Words ys) (hs : sameN xs ys = true) : ordT xs ys = 0 :=
  sameN_ahead xs ys 0 1 _ wx wy hs (ord_two h1 h2)
def CanonW (xs : List Nd) : Prop := ∀ x ∈ xs, canonB x.bits = x.bits ∧ x.bits < 2 ^ 64
theorem part_eq {x y : Nd} (h : partB x y = 0) (cx : canonB x.bits = x.bits ∧ x.bits < 2 ^ 64) (cy : canonB y.bits = y.bits ∧ y.bits < 2 ^ 64) : x.kind = y.kind ∧ x.num = y.num ∧ x.bits = y.bits ∧ x.txt.toList = y.txt.toList := by
  unfold partB at h
  by_cases z1 : cmpI x.kind y.kind = 0
  · rw [ite_z z1] at h
    by_cases z2 : cmpI x.num y.num = 0
    · rw [ite_z z2] at h
      by_cases z3 : orderB x.bits y.bits = 0
      · rw [ite_z z3] at h
        refine ⟨cmpI_eq z1, cmpI_eq z2, ?_, cmpL_eq _ _ h⟩
        have := (pos_canon _ _ cx.2 cy.2).1 ((orderB_zero _ _).1 z3)
        rwa [cx.1, cy.1] at this
      · rw [ite_nz z3] at h; exact absurd h z3
    · rw [ite_nz z2] at h; exact absurd h z2
  · rw [ite_nz z1] at h; exact absurd h z1
theorem cmp_same : ∀ f g : Fo, f.cmp g = 0 → CanonW f.flat → CanonW g.flat → sameN f.flat g.flat = true
  | .nil, .nil, _, _, _ => rfl
  | .nil, .cons .., h, _, _ => by simp [Fo.cmp] at h
  | .cons .., .nil, h, _, _ => by simp [Fo.cmp] at h
  | .cons n k r, .cons n' k' r', h, cf, cg => by
    simp only [Fo.cmp] at h
    by_cases z1 : partB n n' = 0
    · rw [ite_z z1] at h
      by_cases z2 : k.cmp k' = 0
      · rw [ite_z z2] at h
        have c1 := cf { n with kids := (k.cnt : Int) } (by simp [Fo.flat])
        have c2 := cg { n' with kids := (k'.cnt : Int) } (by simp [Fo.flat])
        obtain ⟨e1, e2, e3, e4⟩ := part_eq z1 c1 c2
        have ek := cmp_same k k' z2 (fun x hx => cf x (by simp [Fo.flat, hx])) (fun x hx => cg x (by simp [Fo.flat, hx]))
        have er := cmp_same r r' h (fun x hx => cf x (by simp [Fo.flat, hx])) (fun x hx => cg x (by simp [Fo.flat, hx]))
        simp only [Fo.flat, sameN, Bool.and_eq_true]
        refine ⟨?_, sameN_app _ _ _ _ ek er⟩
        unfold eqN
        simp [e1, e2, e3, e4, Fo.cmp_cnt _ _ z2]
      · rw [ite_nz z2] at h; exact absurd h z2
    · rw [ite_nz z1] at h; exact absurd h z1
theorem kind_canon {xs : List Nd} {E : Nat → Nat} {i : Nat} {x : Nd} (h : kindB xs E i x = true) : canonB x.bits = x.bits := by
  have just0 : ∀ (h : Nd), h.bits = 0 → justB x h = true → canonB x.bits = x.bits := fun h e k => by
    unfold justB at k
    simp only [Bool.and_eq_true, beq_iff_eq] at k
    rw [← k.2.1, e]
    decide
  unfold kindB at h
  split at h
  · exact just0 _ rfl h
  · split at h
    · exact just0 _ rfl (Bool.and_eq_true .. ▸ h).2
    · split at h
      · exact of_decide_eq_true (Bool.and_eq_true .. ▸ h).1
      · split at h
        · exact just0 _ rfl h
        · split at h
          · exact just0 _ rfl (Bool.and_eq_true .. ▸ h).2
          · split at h
            · unfold mapB at h
              simp only [Bool.and_eq_true] at h
              exact just0 _ rfl h.2.1
            · cases h
theorem right_canon {xs : List Nd} (wx : Words xs) (h : rightB xs = true) : inO xs = true ∧ CanonW xs := by
  unfold rightB fitsB at h
  simp only [Bool.and_eq_true] at h
  refine ⟨h.2.1, fun x hx => ⟨?_, wx x hx⟩⟩
  obtain ⟨i, hi, rfl⟩ := List.getElem_of_mem hx
  exact kind_canon (kindsB_iff.1 h.2.2.2 i hi)
theorem right_same {xs ys : List Nd} (wx : Words xs) (wy : Words ys) (h1 : rightB xs = true) (h2 : rightB ys = true) : (ordT xs ys == 0) = sameN xs ys := by
  obtain ⟨i1, c1⟩ := right_canon wx h1
  obtain ⟨i2, c2⟩ := right_canon wy h2
  cases hs : sameN xs ys with
  | true => rw [sameN_ord i1 i2 wx wy hs]; rfl
  | false =>
    rw [beq_eq_false_iff_ne]
    intro h
    obtain ⟨f, f1, f2⟩ := fo_inO i1
    obtain ⟨g, g1, g2⟩ := fo_inO i2
    rw [← f2, ← g2] at h hs
    rw [← f2] at wx c1
    rw [← g2] at wy c2
    rw [ord_fo f g f1 g1 wx wy] at h
    rw [cmp_same f g h c1 c2] at hs
    cases hs
abbrev WL := {xs : List Nd // Words xs}
theorem ordT_is : IsO (fun (a b : WL) => ordT a.1 b.1) := ordT_isO Words fun _ h => h
theorem ordT_range {xs ys : List Nd} (wx : Words xs) (wy : Words ys) : -1 ≤ ordT xs ys ∧ ordT xs ys ≤ 1 := ordT_is.range ⟨xs, wx⟩ ⟨ys, wy⟩
theorem ordT_turn {xs ys : List Nd} (wx : Words xs) (wy : Words ys) : ordT xs ys = - ordT ys xs := ordT_is.turn ⟨xs, wx⟩ ⟨ys, wy⟩
theorem ordT_tri {xs ys zs : List Nd} (wx : Words xs) (wy : Words ys) (wz : Words zs) (h1 : ordT xs ys ≤ 0) (h2 : ordT ys zs ≤ 0) : ordT xs zs ≤ 0 := (ordT_is.tri ⟨xs, wx⟩ ⟨ys, wy⟩ ⟨zs, wz⟩ h1 h2).1
theorem ordT_self {xs : List Nd} (wx : Words xs) : ordT xs xs = 0 := ordT_is.self ⟨xs, wx⟩
theorem same_in {xs ys : List Nd} (h : sameT xs ys = true) : inO xs = true ∧ inO ys = true := by
  unfold sameT at h
  simp only [Bool.and_eq_true, beq_iff_eq] at h
  refine ⟨h.1, ?_⟩
  cases hy : inO ys with
  | true => rfl
  | false =>
    have := h.2
    unfold ordT at this
    rw [if_pos h.1, hy] at this
    simp at this
theorem deep_zero {xs : List Nd} : deepT xs = 0 ↔ inO xs = false := by
  have := deep_pos xs
  cases h : inO xs with
  | true => rw [h] at this; simp at this ⊢; omega
  | false => rw [h] at this; simp at this ⊢; omega
/-- All of a row of forests. -/
def appAll : List Fo → Fo
  | [] => .nil
  | f :: l => f.app (appAll l)
theorem appAll_flat : ∀ l : List Fo, (appAll l).flat = (l.map Fo.flat).flatten
  | [] => rfl
  | f :: l => by simp [appAll, Fo.flat_app, appAll_flat l]
theorem appAll_cnt : ∀ l : List Fo, (∀ f ∈ l, f.cnt = 1) → (appAll l).cnt = l.length
  | [], _ => rfl
  | f :: l, h => by
    simp only [appAll, Fo.cnt_app, List.length_cons]
    rw [h f (by simp), appAll_cnt l fun g hg => h g (by simp [hg])]
    omega
theorem join_fo (n : Nd) (l : List Fo) (h : ∀ f ∈ l, f.cnt = 1) : joinL n (l.map Fo.flat) = (Fo.cons n (appAll l) .nil).flat := by
  simp only [joinL, Fo.flat, List.append_nil, List.length_map]
  rw [appAll_cnt l h, appAll_flat]
theorem cmp_under (n : Nd) (k k' : Fo) : (Fo.cons n k .nil).cmp (.cons n k' .nil) = k.cmp k' := by
  simp only [Fo.cmp]
  rw [ite_z (isO_part.self n)]
  by_cases z : k.cmp k' = 0
  · rw [ite_z z, z]
  · rw [ite_nz z]
theorem cmp_app {f f' : Fo} (g g' : Fo) (h : f.cnt = 1) (h' : f'.cnt = 1) : (f.app g).cmp (f'.app g') = if f.cmp f' ≠ 0 then f.cmp f' else g.cmp g' := by
  match f, f', h, h' with
  | .cons n k .nil, .cons n' k' .nil, _, _ =>
    simp only [Fo.app, Fo.cmp]
    by_cases z1 : partB n n' = 0
    · by_cases z2 : k.cmp k' = 0 <;> simp [z1, z2]
    · simp [z1]
  | .nil, _, h, _ => simp [Fo.cnt] at h
  | .cons _ _ (.cons ..), _, h, _ => simp [Fo.cnt] at h
  | .cons _ _ .nil, .nil, _, h => simp [Fo.cnt] at h
  | .cons _ _ .nil, .cons _ _ (.cons ..), _, h => simp [Fo.cnt] at h
theorem join_words {n : Nd} {ls : List (List Nd)} (hn : n.bits < 2 ^ 64) (h : ∀ xs ∈ ls, Words xs) : Words (joinL n ls) := by
  intro x hx
  simp only [joinL, List.mem_cons, List.mem_flatten] at hx
  rcases hx with rfl | ⟨xs, h1, h2⟩
  · exact hn
  · exact h xs h1 x h2
theorem join_inO (n : Nd) (l : List Fo) (h : ∀ f ∈ l, f.cnt = 1) : inO (joinL n (l.map Fo.flat)) = true := by
  rw [join_fo n l h]; exact inO_fo _ rfl
theorem ord_join (n : Nd) (l l' : List Fo) (h : ∀ f ∈ l, f.cnt = 1) (h' : ∀ f ∈ l', f.cnt = 1) (hn : n.bits < 2 ^ 64) (w : ∀ f ∈ l, Words f.flat) (w' : ∀ f ∈ l', Words f.flat) :
    ordT (joinL n (l.map Fo.flat)) (joinL n (l'.map Fo.flat)) = (appAll l).cmp (appAll l') := by
  have w1 := join_words (n := n) (ls := l.map Fo.flat) hn (fun xs hx => by obtain ⟨f, h1, rfl⟩ := List.mem_map.1 hx; exact w f h1)
  have w2 := join_words (n := n) (ls := l'.map Fo.flat) hn (fun xs hx => by obtain ⟨f, h1, rfl⟩ := List.mem_map.1 hx; exact w' f h1)
  rw [join_fo n l h] at w1 ⊢
  rw [join_fo n l' h'] at w2 ⊢
  rw [ord_fo _ _ rfl rfl w1 w2, cmp_under]
/-- What the law on joined terms asks. -/
theorem join_laws (n : Nd) (hn : n.bits < 2 ^ 64) {a b c : List Nd} (ia : inO a = true) (ib : inO b = true) (ic : inO c = true) (wa : Words a) (wb : Words b) (wc : Words c) :
    (ordT a b ≠ 0 → ordT (joinL n [c, a, c]) (joinL n [c, b, a]) = ordT a b) ∧ ordT (joinL n [c, a]) (joinL n [c, b]) = ordT a b ∧ ordT (joinL n [c, a]) (joinL n [c, a, c]) = -1 ∧ ordT (joinL n []) (joinL n [c, b]) = -1 := by
  obtain ⟨fa, a1, rfl⟩ := fo_inO ia
  obtain ⟨fb, b1, rfl⟩ := fo_inO ib
  obtain ⟨fc, c1, rfl⟩ := fo_inO ic
  have s := isO_cmp.self fc
  have sa := isO_cmp.self fa
  rw [ord_fo fa fb a1 b1 wa wb]
  have m1 : ∀ l : List Fo, (∀ f ∈ l, f = fa ∨ f = fb ∨ f = fc) → (∀ f ∈ l, f.cnt = 1) ∧ ∀ f ∈ l, Words f.flat := fun l h =>
    ⟨fun f hf => by rcases h f hf with rfl | rfl | rfl <;> assumption, fun f hf => by rcases h f hf with rfl | rfl | rfl <;> assumption⟩
  have p := m1 [fc, fa, fc] (by simp)
  have q := m1 [fc, fb, fa] (by simp)
  have r := m1 [fc, fa] (by simp)
  have t := m1 [fc, fb] (by simp)
  have z := m1 [] (by simp)
  have e1 := ord_join n _ _ p.1 q.1 hn p.2 q.2
  have e2 := ord_join n _ _ r.1 t.1 hn r.2 t.2
  have e3 := ord_join n _ _ r.1 p.1 hn r.2 p.2
  have e4 := ord_join n _ _ z.1 t.1 hn z.2 t.2
  simp only [List.map_cons, List.map_nil, appAll] at e1 e2 e3 e4
  rw [cmp_app _ _ c1 c1, ite_z s, cmp_app _ _ a1 b1] at e1
  rw [cmp_app _ _ c1 c1, ite_z s, cmp_app _ _ a1 b1] at e2
  rw [cmp_app _ _ c1 c1, ite_z s, cmp_app _ _ a1 a1, ite_z sa] at e3
  refine ⟨fun h => by rw [e1, ite_nz h], ?_, ?_, ?_⟩
  · rw [e2]
    by_cases h : fa.cmp fb = 0
    · rw [ite_z h, h]; rfl
    · rw [ite_nz h]
  · rw [e3]
    match fc, c1 with
    | .cons _ _ .nil, _ => rfl
    | .nil, h => simp [Fo.cnt] at h
    | .cons _ _ (.cons ..), h => simp [Fo.cnt] at h
  · rw [e4]
    match fc, c1 with
    | .cons _ _ .nil, _ => rfl
    | .nil, h => simp [Fo.cnt] at h
    | .cons _ _ (.cons ..), h => simp [Fo.cnt] at h
end Go.Proofs.YtieoiklgoeclaaaGreat
