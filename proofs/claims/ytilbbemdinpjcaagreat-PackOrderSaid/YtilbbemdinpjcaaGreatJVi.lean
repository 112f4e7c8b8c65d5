/-
  A key of the map of sums is a name's cells, and nothing else.
-/
import Derived.Test.YtilbbemdinpjcaaGreatJTLreals
import Derived.Test.YtilbbemdinpjcaaGreatJVt
import Derived.Test.YtilbbemdinpjcaaGreatJPb
import Derived.DeepKeys4
import Derived.Maps.OwnSet
import Derived.Maps.Views
import Derived.Maps.Range
namespace Go.Proofs.YtilbbemdinpjcaaGreat.T

def eqN (x y : Nd) : Bool := x.kind == y.kind && (x.num == y.num && (x.bits == y.bits && (x.txt.toList == y.txt.toList && x.kids == y.kids)))
def sameN : List Nd → List Nd → Bool
  | [], [] => true
  | x :: xs, y :: ys => eqN x y && sameN xs ys
  | [], _ :: _ => false
  | _ :: _, [] => false
theorem sameN_app : ∀ (a b c d : List Nd), sameN a c = true → sameN b d = true → sameN (a ++ b) (c ++ d) = true
  | [], b, [], d, _, h => h
  | [], b, _ :: _, d, h, _ => by simp [sameN] at h
  | _ :: _, b, [], d, h, _ => by simp [sameN] at h
  | x :: a, b, y :: c, d, h1, h2 => by
    simp only [sameN, Bool.and_eq_true] at h1
    simp only [List.cons_append, sameN, Bool.and_eq_true]
    exact ⟨h1.1, sameN_app a b c d h1.2 h2⟩
theorem sameN_len : ∀ {a b : List Nd}, sameN a b = true → a.length = b.length
  | [], [], _ => rfl
  | [], _ :: _, h => by simp [sameN] at h
  | _ :: _, [], h => by simp [sameN] at h
  | x :: a, y :: b, h => by
    simp only [sameN, Bool.and_eq_true] at h
    simp [sameN_len h.2]
theorem eqN_parts {x y : Nd} (h : eqN x y = true) : x.kind = y.kind ∧ x.num = y.num ∧ x.bits = y.bits ∧ x.txt.toList = y.txt.toList ∧ x.kids = y.kids := by
  unfold eqN at h
  simp only [Bool.and_eq_true, beq_iff_eq] at h
  exact h
theorem eqN_part {x y : Nd} (h : eqN x y = true) : partB x y = 0 := by
  obtain ⟨h1, h2, h3, h4, -⟩ := eqN_parts h
  unfold partB
  rw [h1, h2, h3, h4, ite_z (cmpI_self _), ite_z (cmpI_self _), ite_z (isO_B.self _)]
  exact isO_L.self _
theorem sameN_ahead : ∀ (xs ys : List Nd) (d l r : Int), Words xs → Words ys → sameN xs ys = true → aheadR xs ys d l = some r → r = d
  | [], [], d, l, r, _, _, _, h => by
    by_cases hl : l ≤ 0
    · exact aheadR_end h hl
    · simp [aheadR, hl] at h
  | [], _ :: _, _, _, _, _, _, h, _ => by simp [sameN] at h
  | _ :: _, [], _, _, _, _, _, h, _ => by simp [sameN] at h
  | x :: xs, y :: ys, d, l, r, wx, wy, hs, h => by
    simp only [sameN, Bool.and_eq_true] at hs
    by_cases hl : l ≤ 0
    · exact aheadR_end h hl
    · rw [ahead_cons (by omega), partO_is _ _ (wx x (by simp)) (wy y (by simp)), ite_z (eqN_part hs.1), if_pos (eqN_parts hs.1).2.2.2.2] at h
      exact sameN_ahead xs ys d _ r (fun z hz => wx z (by simp [hz])) (fun z hz => wy z (by simp [hz])) hs.2 h
theorem sameN_ord {xs ys : List Nd} (h1 : inO xs = true) (h2 : inO ys = true) (wx : Words xs) (wy : Words ys) (hs : sameN xs ys = true) : ordT xs ys = 0 :=
  sameN_ahead xs ys 0 1 _ wx wy hs (ord_two h1 h2)
def CanonW (xs : List Nd) : Prop := ∀ x ∈ xs, canonB x.bits = x.bits ∧ x.bits < 2 ^ 64
theorem part_eq {x y : Nd} (h : partB x y = 0) (cx : canonB x.bits = x.bits ∧ x.bits < 2 ^ 64) (cy : canonB y.bits = y.bits ∧ y.bits < 2 ^ 64) : x.kind = y.kind ∧ x.num = y.num ∧ x.bits = y.bits ∧ x.txt.toList = y.txt.toList := by
  unfold partB at h
  by_cases z1 : cmpI x.kind y.kind = 0
  · rw [ite_z z1] at h
    by_cases z2 : cmpI x.num y.num = 0
    · rw [ite_z z2] at h
      by_cases z3 : orderB x.bits y.bits = 0
      · rw [ite_z z3] at h
        refine ⟨cmpI_eq z1, cmpI_eq z2, ?_, cmpL_eq _ _ h⟩
        have := (pos_canon _ _ cx.2 cy.2).1 ((orderB_zero _ _).1 z3)
        rwa [cx.1, cy.1] at this
      · rw [ite_nz z3] at h; exact absurd h z3
    · rw [ite_nz z2] at h; exact absurd h z2
  · rw [ite_nz z1] at h; exact absurd h z1
theorem cmp_same : ∀ f g : Fo, f.cmp g = 0 → CanonW f.flat → CanonW g.flat → sameN f.flat g.flat = true
  | .nil, .nil, _, _, _ => rfl
  | .nil, .cons .., h, _, _ => by simp [Fo.cmp] at h
  | .cons .., .nil, h, _, _ => by simp [Fo.cmp] at h
  | .cons n k r, .cons n' k' r', h, cf, cg => by
    simp only [Fo.cmp] at h
    by_cases z1 : partB n n' = 0
    · rw [ite_z z1] at h
      by_cases z2 : k.cmp k' = 0
      · rw [ite_z z2] at h
        have c1 := cf { n with kids := (k.cnt : Int) } (by simp [Fo.flat])
        have c2 := cg { n' with kids := (k'.cnt : Int) } (by simp [Fo.flat])
        obtain ⟨e1, e2, e3, e4⟩ := part_eq z1 c1 c2
        have ek := cmp_same k k' z2 (fun x hx => cf x (by simp [Fo.flat, hx])) (fun x hx => cg x (by simp [Fo.flat, hx]))
        have er := cmp_same r r' h (fun x hx => cf x (by simp [Fo.flat, hx])) (fun x hx => cg x (by simp [Fo.flat, hx]))
        simp only [Fo.flat, sameN, Bool.and_eq_true]
        refine ⟨?_, sameN_app _ _ _ _ ek er⟩
        unfold eqN
        simp [e1, e2, e3, e4, Fo.cmp_cnt _ _ z2]
      · rw [ite_nz z2] at h; exact absurd h z2
    · rw [ite_nz z1] at h; exact absurd h z1
theorem kind_canon {xs : List Nd} {E : Nat → Nat} {i : Nat} {x : Nd} (h : kindB xs E i x = true) : canonB x.bits = x.bits := by
  have just0 : ∀ (h : Nd), h.bits = 0 → justB x h = true → canonB x.bits = x.bits := fun h e k => by
    unfold justB at k
    simp only [Bool.and_eq_true, beq_iff_eq] at k
    rw [← k.2.1, e]
    decide
  unfold kindB at h
  split at h
  · exact just0 _ rfl h
  · split at h
    · exact just0 _ rfl (Bool.and_eq_true .. ▸ h).2
    · split at h
      · exact of_decide_eq_true (Bool.and_eq_true .. ▸ h).1
      · split at h
        · exact just0 _ rfl h
        · split at h
          · exact just0 _ rfl (Bool.and_eq_true .. ▸ h).2
          · split at h
            · unfold mapB at h
              simp only [Bool.and_eq_true] at h
              exact just0 _ rfl h.2.1
            · cases h
theorem right_canon {xs : List Nd} (wx : Words xs) (h : rightB xs = true) : inO xs = true ∧ CanonW xs := by
  unfold rightB fitsB at h
  simp only [Bool.and_eq_true] at h
  refine ⟨h.2.1, fun x hx => ⟨?_, wx x hx⟩⟩
  obtain ⟨i, hi, rfl⟩ := List.getElem_of_mem hx
  exact kind_canon (kindsB_iff.1 h.2.2.2 i hi)
theorem right_same {xs ys : List Nd} (wx : Words xs) (wy : Words ys) (h1 : rightB xs = true) (h2 : rightB ys = true) : (ordT xs ys == 0) = sameN xs ys := by
  obtain ⟨i1, c1⟩ := right_canon wx h1
  obtain ⟨i2, c2⟩ := right_canon wy h2
  cases hs : sameN xs ys with
  | true => rw [sameN_ord i1 i2 wx wy hs]; rfl
  | false =>
    rw [beq_eq_false_iff_ne]
    intro h
    obtain ⟨f, f1, f2⟩ := fo_inO i1
    obtain ⟨g, g1, g2⟩ := fo_inO i2
    rw [← f2, ← g2] at h hs
    rw [← f2] at wx c1
    rw [← g2] at wy c2
    rw [ord_fo f g f1 g1 wx wy] at h
    rw [cmp_same f g h c1 c2] at hs
    cases hs
abbrev WL := {xs : List Nd // Words xs}
theorem ordT_is : IsO (fun (a b : WL) => ordT a.1 b.1) := ordT_isO Words fun _ h => h
theorem ordT_range {xs ys : List Nd} (wx : Words xs) (wy : Words ys) : -1 ≤ ordT xs ys ∧ ordT xs ys ≤ 1 := ordT_is.range ⟨xs, wx⟩ ⟨ys, wy⟩
theorem ordT_turn {xs ys : List Nd} (wx : Words xs) (wy : Words ys) : ordT xs ys = - ordT ys xs := ordT_is.turn ⟨xs, wx⟩ ⟨ys, wy⟩
theorem ordT_tri {xs ys zs : List Nd} (wx : Words xs) (wy : Words ys) (wz : Words zs) (h1 : ordT xs ys ≤ 0) (h2 : ordT ys zs ≤ 0) : ordT xs zs ≤ 0 := (ordT_is.tri ⟨xs, wx⟩ ⟨ys, wy⟩ ⟨zs, wz⟩ h1 h2).1
theorem ordT_self {xs : List Nd} (wx : Words xs) : ordT xs xs = 0 := ordT_is.self ⟨xs, wx⟩
theorem same_in {xs ys : List Nd} (h : sameT xs ys = true) : inO xs = true ∧ inO ys = true := by
  unfold sameT at h
  simp only [Bool.and_eq_true, beq_iff_eq] at h
  refine ⟨h.1, ?_⟩
  cases hy : inO ys with
  | true => rfl
  | false =>
    have := h.2
    unfold ordT at this
    rw [if_pos h.1, hy] at this
    simp at this
theorem deep_zero {xs : List Nd} : deepT xs = 0 ↔ inO xs = false := by
  have := deep_pos xs
  cases h : inO xs with
  | true => rw [h] at this; simp at this ⊢; omega
  | false => rw [h] at this; simp at this ⊢; omega
/-- All of a row of forests. -/
def appAll : List Fo → Fo
  | [] => .nil
  | f :: l => f.app (appAll l)
theorem appAll_flat : ∀ l : List Fo, (appAll l).flat = (l.map Fo.flat).flatten
  | [] => rfl
  | f :: l => by simp [appAll, Fo.flat_app, appAll_flat l]
theorem appAll_cnt : ∀ l : List Fo, (∀ f ∈ l, f.cnt = 1) → (appAll l).cnt = l.length
  | [], _ => rfl
  | f :: l, h => by
    simp only [appAll, Fo.cnt_app, List.length_cons]
    rw [h f (by simp), appAll_cnt l fun g hg => h g (by simp [hg])]
    omega
theorem join_fo (n : Nd) (l : List Fo) (h : ∀ f ∈ l, f.cnt = 1) : joinL n (l.map Fo.flat) = (Fo.cons n (appAll l) .nil).flat := by
  simp only [joinL, Fo.flat, List.append_nil, List.length_map]
  rw [appAll_cnt l h, appAll_flat]
theorem cmp_under (n : Nd) (k k' : Fo) : (Fo.cons n k .nil).cmp (.cons n k' .nil) = k.cmp k' := by
  simp only [Fo.cmp]
  rw [ite_z (isO_part.self n)]
  by_cases z : k.cmp k' = 0
  · rw [ite_z z, z]
  · rw [ite_nz z]
theorem cmp_app {f f' : Fo} (g g' : Fo) (h : f.cnt = 1) (h' : f'.cnt = 1) : (f.app g).cmp (f'.app g') = if f.cmp f' ≠ 0 then f.cmp f' else g.cmp g' := by
  match f, f', h, h' with
  | .cons n k .nil, .cons n' k' .nil, _, _ =>
    simp only [Fo.app, Fo.cmp]
    by_cases z1 : partB n n' = 0
    · by_cases z2 : k.cmp k' = 0 <;> simp [z1, z2]
    · simp [z1]
  | .nil, _, h, _ => simp [Fo.cnt] at h
  | .cons _ _ (.cons ..), _, h, _ => simp [Fo.cnt] at h
  | .cons _ _ .nil, .nil, _, h => simp [Fo.cnt] at h
  | .cons _ _ .nil, .cons _ _ (.cons ..), _, h => simp [Fo.cnt] at h
theorem join_words {n : Nd} {ls : List (List Nd)} (hn : n.bits < 2 ^ 64) (h : ∀ xs ∈ ls, Words xs) : Words (joinL n ls) := by
  intro x hx
  simp only [joinL, List.mem_cons, List.mem_flatten] at hx
  rcases hx with rfl | ⟨xs, h1, h2⟩
  · exact hn
  · exact h xs h1 x h2
theorem join_inO (n : Nd) (l : List Fo) (h : ∀ f ∈ l, f.cnt = 1) : inO (joinL n (l.map Fo.flat)) = true := by
  rw [join_fo n l h]; exact inO_fo _ rfl
theorem ord_join (n : Nd) (l l' : List Fo) (h : ∀ f ∈ l, f.cnt = 1) (h' : ∀ f ∈ l', f.cnt = 1) (hn : n.bits < 2 ^ 64) (w : ∀ f ∈ l, Words f.flat) (w' : ∀ f ∈ l', Words f.flat) :
    ordT (joinL n (l.map Fo.flat)) (joinL n (l'.map Fo.flat)) = (appAll l).cmp (appAll l') := by
  have w1 := join_words (n := n) (ls := l.map Fo.flat) hn (fun xs hx => by obtain ⟨f, h1, rfl⟩ := List.mem_map.1 hx; exact w f h1)
  have w2 := join_words (n := n) (ls := l'.map Fo.flat) hn (fun xs hx => by obtain ⟨f, h1, rfl⟩ := List.mem_map.1 hx; exact w' f h1)
  rw [join_fo n l h] at w1 ⊢
  rw [join_fo n l' h'] at w2 ⊢
  rw [ord_fo _ _ rfl rfl w1 w2, cmp_under]
/-- What the law on joined terms asks. -/
theorem join_laws (n : Nd) (hn : n.bits < 2 ^ 64) {a b c : List Nd} (ia : inO a = true) (ib : inO b = true) (ic : inO c = true) (wa : Words a) (wb : Words b) (wc : Words c) :
    (ordT a b ≠ 0 → ordT (joinL n [c, a, c]) (joinL n [c, b, a]) = ordT a b) ∧ ordT (joinL n [c, a]) (joinL n [c, b]) = ordT a b ∧ ordT (joinL n [c, a]) (joinL n [c, a, c]) = -1 ∧ ordT (joinL n []) (joinL n [c, b]) = -1 := by
  obtain ⟨fa, a1, rfl⟩ := fo_inO ia
  obtain ⟨fb, b1, rfl⟩ := fo_inO ib
  obtain ⟨fc, c1, rfl⟩ := fo_inO ic
  have s := isO_cmp.self fc
  have sa := isO_cmp.self fa
  rw [ord_fo fa fb a1 b1 wa wb]
  have m1 : ∀ l : List Fo, (∀ f ∈ l, f = fa ∨ f = fb ∨ f = fc) → (∀ f ∈ l, f.cnt = 1) ∧ ∀ f ∈ l, Words f.flat := fun l h =>
    ⟨fun f hf => by rcases h f hf with rfl | rfl | rfl <;> assumption, fun f hf => by rcases h f hf with rfl | rfl | rfl <;> assumption⟩
  have p := m1 [fc, fa, fc] (by simp)
  have q := m1 [fc, fb, fa] (by simp)
  have r := m1 [fc, fa] (by simp)
  have t := m1 [fc, fb] (by simp)
  have z := m1 [] (by simp)
  have e1 := ord_join n _ _ p.1 q.1 hn p.2 q.2
  have e2 := ord_join n _ _ r.1 t.1 hn r.2 t.2
  have e3 := ord_join n _ _ r.1 p.1 hn r.2 p.2
  have e4 := ord_join n _ _ z.1 t.1 hn z.2 t.2
  simp only [List.map_cons, List.map_nil, appAll] at e1 e2 e3 e4
  rw [cmp_app _ _ c1 c1, ite_z s, cmp_app _ _ a1 b1] at e1
  rw [cmp_app _ _ c1 c1, ite_z s, cmp_app _ _ a1 b1] at e2
  rw [cmp_app _ _ c1 c1, ite_z s, cmp_app _ _ a1 a1, ite_z sa] at e3
  refine ⟨fun h => by rw [e1, ite_nz h], ?_, ?_, ?_⟩
  · rw [e2]
    by_cases h : fa.cmp fb = 0
    · rw [ite_z h, h]; rfl
    · rw [ite_nz h]
  · rw [e3]
    match fc, c1 with
    | .cons _ _ .nil, _ => rfl
    | .nil, h => simp [Fo.cnt] at h
    | .cons _ _ (.cons ..), h => simp [Fo.cnt] at h
  · rw [e4]
    match fc, c1 with
    | .cons _ _ .nil, _ => rfl
    | .nil, h => simp [Fo.cnt] at h
    | .cons _ _ (.cons ..), h => simp [Fo.cnt] at h
end Go.Proofs.YtilbbemdinpjcaaGreat.T
namespace Go.Proofs.YtilbbemdinpjcaaGreat.T
open Go.RowKit

def cost : List Nd → Nat
  | [] => 0
  | x :: xs => 1 + x.txt.size / 16 + cost xs
theorem cost_app : ∀ xs ys : List Nd, cost (xs ++ ys) = cost xs + cost ys
  | [], ys => by simp [cost]
  | x :: xs, ys => by simp only [List.cons_append, cost, cost_app xs ys]; omega
theorem cost_take {xs : List Nd} {k : Nat} (h : k < xs.length) : cost (xs.take (k + 1)) = cost (xs.take k) + 1 + xs[k].txt.size / 16 := by
  rw [List.take_succ_eq_append_getElem h, cost_app]
  simp only [cost]
  omega
theorem cost_len : ∀ xs : List Nd, xs.length ≤ cost xs
  | [] => Nat.zero_le _
  | x :: xs => by have := cost_len xs; simp only [List.length_cons, cost]; omega
theorem cost_txt : ∀ (xs : List Nd) (x : Nd), x ∈ xs → x.txt.size / 16 ≤ cost xs
  | [], _, h => by cases h
  | y :: ys, x, h => by
    simp only [cost]
    rcases List.mem_cons.1 h with rfl | h
    · omega
    · have := cost_txt ys x h; omega
/-- Nodes by a slice, however many. -/
def TRaw (w : World) (a : Option Addr) (xs : List Nd) : Prop := 0 < xs.length → ∃ g off, a = some ⟨g, off, none⟩ ∧ NAt w g off xs
theorem TRaw.below {B : Nat} {w w' : World} {a : Option Addr} {xs : List Nd} (h : TRaw w a xs) (hb : Below B w w') (hB : w.heap.size ≤ B) : TRaw w' a xs := fun h0 => by
  obtain ⟨g, off, h1, h2⟩ := h h0
  exact ⟨g, off, h1, h2.below hb (Nat.lt_of_lt_of_le h2.1 hB)⟩
def TxtRaw (xs : List Nd) : Prop := ∀ x ∈ xs, x.txt.size ≤ 140737488355328
set_option maxRecDepth 1000000 in
set_option maxHeartbeats 1000000 in
theorem termOf_any (w : World) (a : Option Addr) (c : Nat) (xs : List Nd) (hr : TRaw w a xs) (ht : TxtRaw xs) (hl : xs.length ≤ 140737488355328) :
    Calls Tryz.prog 41 #[.agg #[.slice a xs.length c], .int .i64 300] w fun e w' => ∃ r : Nat, e = .returned (.int .i64 r) ∧ (r ≤ 300 → r = cost xs) ∧ r ≤ 1000000000000000 ∧ Below w.heap.size w w' := by
  have hA : Lies (w.alloc (.cells #[.slice a xs.length c] 24)) w.heap.size #[.slice a xs.length c] 24 := Lies.new _ _ _
  have hb0 : Below w.heap.size w (w.alloc (.cells #[.slice a xs.length c] 24)) := (Below.refl _ _).alloc (Nat.le_refl _) _
  obtain ⟨n, hn⟩ : ∃ n, n = xs.length := ⟨_, rfl⟩
  rw [← hn] at hA hb0 hl ⊢
  have H := Lib.hid (And.intro hr (And.intro ht (And.intro hl hn)))
  clear hr ht hl hn
  go_enter Tryz.func41, Tryz.ntmps41
  go_upto_region 1 with fail
  generalize w.alloc (.cells #[.slice a n c] 24) = W0 at hA hb0 ⊢
  have c0 := hA.cell 0 (v := .slice a n c) rfl
  have HB := Lib.hid hb0
  clear hA hb0
  go_wp2_with fail
  go_loop [5, 6] (fun s i => ∃ k t : Nat, k ≤ n ∧ i = .int .i64 k ∧ s = .int .i64 t ∧ t = cost (xs.take k) ∧ t ≤ 1000000000000000) (fun _ i => (n - intOf i).toNat)
  case atStart => exact ⟨0, 0, by omega, by go_num, by go_num, rfl, by omega⟩
  case round =>
    obtain ⟨k, t, hk, rfl, rfl, hs, hts⟩ := hrel
    by_cases hlt : k < n
    · have q1 : (k : Int) < (n : Int) := by omega
      by_cases h3 : t ≤ 300
      · have q2 : (t : Int) ≤ 300 := by omega
        have hxl : k < xs.length := by rw [← H.out.2.2.2]; exact hlt
        obtain ⟨g, off, rfl, hN⟩ := H.out.1 (by omega)
        have hNW := hN.below HB.out hN.1
        obtain ⟨tx, htx⟩ : ∃ z, z = xs[k].txt := ⟨_, rfl⟩
        have c3 : W0.cell? ⟨g, off + k * 5 + 3, none⟩ = some (.string tx) := by rw [htx]; exact hNW.2 k hxl 3 _ rfl
        have hz : tx.size ≤ 140737488355328 := by rw [htx]; exact H.out.2.1 _ (List.getElem_mem hxl)
        have hct := cost_take hxl
        rw [← htx, ← hs] at hct
        have q0 : (0 : Int) ≤ (k : Int) := by omega
        have q3 : (k : Int) ≤ 140737488355328 := by have := H.out.2.2.1; omega
        have HC := Lib.hid (And.intro hct (And.intro hz hs))
        have q4 : (tx.size : Int) ≤ 140737488355328 := by omega
        have q5 : (0 : Int) ≤ (tx.size : Int) := by omega
        clear hN hNW htx hct hs hxl hz
        go_wp2_with fail
        have hz := HC.out.2.1
        refine ⟨⟨k + 1, t + 1 + tx.size / 16, by omega, by go_num, congrArg (Value.int .i64) (by omega), HC.out.1.symm, by omega⟩, by simp [intOf]; omega⟩
      · have q2 : ¬ (t : Int) ≤ 300 := by omega
        have HT := Lib.hid hs
        clear hs
        go_wp2_with fail
        go_ret
        exact ⟨t, rfl, fun h => by omega, hts, HB.out⟩
    · have q1 : ¬ (k : Int) < (n : Int) := by omega
      have hke : k = n := by omega
      have hz : t = cost xs := by rw [hs, hke, H.out.2.2.2, List.take_length]
      have HT := Lib.hid hz
      clear hs hz hke
      go_wp2_with fail
      go_ret
      exact ⟨t, rfl, fun _ => HT.out, hts, HB.out⟩
end Go.Proofs.YtilbbemdinpjcaaGreat.T
namespace Go.Proofs.YtilbbemdinpjcaaGreat.T
open Go.RowKit

/-- Terms in a row, however great. -/
def RsAt (w : World) (ad : Option Addr) (l : List TK) : Prop := (0 < l.length → ∃ g off, ad = some ⟨g, off, none⟩ ∧ g < w.heap.size ∧ ∀ j (h : j < l.length), w.cell? ⟨g, off + j, none⟩ = some l[j].v) ∧ ∀ t ∈ l, TRaw w t.a t.xs ∧ TxtRaw t.xs ∧ t.xs.length ≤ 140737488355328
theorem RsAt.below {B : Nat} {w w' : World} {ad : Option Addr} {l : List TK} (h : RsAt w ad l) (hb : Below B w w') (hB : w.heap.size ≤ B) : RsAt w' ad l :=
  ⟨fun h0 => by
    obtain ⟨g, off, h1, h2, h3⟩ := h.1 h0
    exact ⟨g, off, h1, Nat.lt_of_lt_of_le h2 hb.size, fun j hj => (hb.cell (p := ⟨g, off + j, none⟩) (Nat.lt_of_lt_of_le h2 hB)).trans (h3 j hj)⟩, fun t ht => ⟨(h.2 t ht).1.below hb hB, (h.2 t ht).2⟩⟩
theorem run_neq_struct (W : World) (t : TypeId) (xs ys : Array Value) : (binOp .neq t (.agg xs) (.agg ys)).run Tryz.prog W = ((Op.equalIn 10000 t (.agg xs) (.agg ys)).run Tryz.prog W).andThen fun b w' => .ok (.bool (!b)) w' := by
  simp only [binOp]
  simp [Op.equal, Op.maxDepth]
set_option maxRecDepth 100000 in
theorem neq_nodes (W : World) (k1 k2 n1 n2 : Int) (b1 b2 : Nat) (t1 t2 : ByteArray) (d1 d2 : Int) :
    (binOp .neq 72 (.agg #[.int .i64 k1, .int .i64 n1, .int .u64 b1, .string t1, .int .i64 d1]) (.agg #[.int .i64 k2, .int .i64 n2, .int .u64 b2, .string t2, .int .i64 d2])).run Tryz.prog W = .ok (.bool (!eqN ⟨k1, n1, b1, t1, d1⟩ ⟨k2, n2, b2, t2, d2⟩)) W := by
  have h2 := stood32
  rw [run_neq_struct, run_equalIn_agg W 9999 72 _ _ (by kernel_rfl) h2]
  unfold eqN
  simp only
  by_cases e0 : k1 = k2
  · by_cases e1 : n1 = n2
    · by_cases e2 : b1 = b2
      · by_cases e3 : t1.toList = t2.toList
        · by_cases e4 : d1 = d2 <;> simp [go_sem, e0, e1, e2, e3, e4]
        · simp [go_sem, e0, e1, e2, e3]
      · have e2' : ¬ (b1 : Int) = (b2 : Int) := by omega
        simp [go_sem, e0, e1, e2, e2']
    · simp [go_sem, e0, e1]
  · simp [go_sem, e0]
theorem sameN_false : ∀ {xs ys : List Nd} (j : Nat) (h1 : j < xs.length) (h2 : j < ys.length), eqN xs[j] ys[j] = false → sameN xs ys = false
  | x :: xs, y :: ys, 0, _, _, h => by
    have : eqN x y = false := h
    simp [sameN, this]
  | x :: xs, y :: ys, j + 1, h1, h2, h => by
    have := sameN_false (xs := xs) (ys := ys) j (by simpa using h1) (by simpa using h2) h
    simp [sameN, this]
theorem sameN_true : ∀ {xs ys : List Nd}, xs.length = ys.length → (∀ j (h1 : j < xs.length) (h2 : j < ys.length), eqN xs[j] ys[j] = true) → sameN xs ys = true
  | [], [], _, _ => rfl
  | [], _ :: _, h, _ => by simp at h
  | _ :: _, [], h, _ => by simp at h
  | x :: xs, y :: ys, hl, h => by
    have h0 : eqN x y = true := h 0 (by simp) (by simp)
    have := sameN_true (xs := xs) (ys := ys) (by simpa using hl) (fun j h1 h2 => h (j + 1) (by simpa using h1) (by simpa using h2))
    simp [sameN, h0, this]
set_option maxRecDepth 100000 in
set_option maxHeartbeats 1000000 in
theorem sameNodes_any (w : World) (a b : Option Addr) (c1 c2 : Nat) (xs ys : List Nd) (hx : TAt w a xs) (hy : TAt w b ys) :
    Calls Tryz.prog 122 #[.slice a xs.length c1, .slice b ys.length c2] w fun e w' => e = .returned (.bool (sameN xs ys)) ∧ Below w.heap.size w w' := by
  obtain ⟨res, hres⟩ : ∃ r, r = sameN xs ys := ⟨_, rfl⟩
  rw [← hres]
  obtain ⟨n, hn⟩ : ∃ n, n = xs.length := ⟨_, rfl⟩
  obtain ⟨m, hm⟩ : ∃ m, m = ys.length := ⟨_, rfl⟩
  have hle : n ≤ 1000000 := by rw [hn]; exact hx.2.1
  have hle2 : m ≤ 1000000 := by rw [hm]; exact hy.2.1
  rw [← hn, ← hm]
  have H := Lib.hid (And.intro hx (And.intro hy (And.intro hn (And.intro hm hres))))
  clear hx hy hn hm hres
  have q9 : (n : Int) ≤ 1000000 := by omega
  by_cases hnm : n = m
  · have HN := Lib.hid hnm
    have e1 : ((n : Int) != (m : Int)) = false := by rw [bne_eq_false_iff_eq]; omega
    clear hnm
    go_enter Tryz.func122, Tryz.ntmps122
    go_wp2_with fail
    clear e1
    go_loopw [5] (fun i W => ∃ k : Nat, k ≤ n ∧ i = .int .i64 k ∧ (∀ j (h1 : j < xs.length) (h2 : j < ys.length), j < k → eqN xs[j] ys[j] = true) ∧ Below w.heap.size w W) (fun i _ => (n - intOf i).toNat)
    case atStart => exact ⟨0, by omega, by go_num, fun j _ _ h => by omega, Below.refl _ _⟩
    case round =>
      obtain ⟨k, hk, rfl, hall, hbr⟩ := hrel
      by_cases hlt : k < n
      · have hx1 : k < xs.length := by rw [← H.out.2.2.1]; exact hlt
        have hy1 : k < ys.length := by rw [← H.out.2.2.2.1, ← HN.out]; exact hlt
        obtain ⟨g1, o1, ea, hN1⟩ := (H.out.1.below hbr (Nat.le_refl _)).1 (by omega)
        obtain ⟨g2, o2, eb, hN2⟩ := (H.out.2.1.below hbr (Nat.le_refl _)).1 (by omega)
        subst ea eb
        have hc1 := hN1.2 k hx1
        have hc2 := hN2.2 k hy1
        have hnext : eqN xs[k] ys[k] = true → ∀ j (h1 : j < xs.length) (h2 : j < ys.length), j < k + 1 → eqN xs[j] ys[j] = true := fun e j h1 h2 h => by
          by_cases e2 : j = k
          · subst e2; exact e
          · exact hall j h1 h2 (by omega)
        have hbad : eqN xs[k] ys[k] = false → res = false := fun e => by rw [H.out.2.2.2.2]; exact sameN_false k hx1 hy1 e
        obtain ⟨x, ex⟩ : ∃ x, x = xs[k] := ⟨_, rfl⟩
        obtain ⟨y, ey⟩ : ∃ y, y = ys[k] := ⟨_, rfl⟩
        rw [← ex] at hc1 hnext hbad
        rw [← ey] at hc2 hnext hbad
        obtain ⟨k1, n1, b1, t1, d1⟩ := x
        obtain ⟨k2, n2, b2, t2, d2⟩ := y
        have x0 : wr.cell? ⟨g1, o1 + k * 5, none⟩ = some (.int .i64 k1) := hc1 0 _ rfl
        have x1 : wr.cell? ⟨g1, o1 + k * 5 + 1, none⟩ = some (.int .i64 n1) := hc1 1 _ rfl
        have x2 : wr.cell? ⟨g1, o1 + k * 5 + 2, none⟩ = some (.int .u64 b1) := hc1 2 _ rfl
        have x3 : wr.cell? ⟨g1, o1 + k * 5 + 3, none⟩ = some (.string t1) := hc1 3 _ rfl
        have x4 : wr.cell? ⟨g1, o1 + k * 5 + 4, none⟩ = some (.int .i64 d1) := hc1 4 _ rfl
        have y0 : wr.cell? ⟨g2, o2 + k * 5, none⟩ = some (.int .i64 k2) := hc2 0 _ rfl
        have y1 : wr.cell? ⟨g2, o2 + k * 5 + 1, none⟩ = some (.int .i64 n2) := hc2 1 _ rfl
        have y2 : wr.cell? ⟨g2, o2 + k * 5 + 2, none⟩ = some (.int .u64 b2) := hc2 2 _ rfl
        have y3 : wr.cell? ⟨g2, o2 + k * 5 + 3, none⟩ = some (.string t2) := hc2 3 _ rfl
        have y4 : wr.cell? ⟨g2, o2 + k * 5 + 4, none⟩ = some (.int .i64 d2) := hc2 4 _ rfl
        have hqq := fun W => neq_nodes W k1 k2 n1 n2 b1 b2 t1 t2 d1 d2
        have hg := guard32
        obtain ⟨r, hr⟩ : ∃ r, r = eqN ⟨k1, n1, b1, t1, d1⟩ ⟨k2, n2, b2, t2, d2⟩ := ⟨_, rfl⟩
        rw [← hr] at hnext hbad
        simp only [← hr] at hqq
        have q0 : (0 : Int) ≤ (k : Int) := by omega
        have q1 : (k : Int) < (n : Int) := by omega
        have q2 : (k : Int) < (m : Int) := by have := HN.out; omega
        have HR := Lib.hid (And.intro hbr (And.intro hnext hbad))
        clear hbr hnext hbad hall hN1 hN2 hc1 hc2 ex ey hr hx1 hy1
        go_upto_region 6 with fail
        go_quiet (fail)
        have HW := Lib.hid (below_drewN HR.out.1 1)
        cases r with
        | true =>
          have HN2 := Lib.hid (HR.out.2.1 rfl)
          go_wp2_with fail
          refine ⟨⟨k + 1, by omega, by go_num, HN2.out, below_drewN HR.out.1 _⟩, by simp [intOf]; omega⟩
        | false =>
          have HB2 := Lib.hid (HR.out.2.2 rfl)
          go_wp2_with fail
          go_ret
          exact ⟨by rw [HB2.out]; rfl, below_drewN HR.out.1 _⟩
      · have hke : k = n := by omega
        have hz : res = true := by
          rw [H.out.2.2.2.2]
          exact sameN_true (by rw [← H.out.2.2.1, ← H.out.2.2.2.1]; exact HN.out) fun j h1 h2 => hall j h1 h2 (by rw [hke, H.out.2.2.1]; exact h1)
        have HZ := Lib.hid (And.intro hz hbr)
        clear hz hall hbr hke hk
        go_wp2_with fail
        go_ret
        exact ⟨by rw [HZ.out.1]; rfl, HZ.out.2⟩
  · have e1 : ((n : Int) != (m : Int)) = true := by rw [bne_iff_ne]; omega
    have HZ : Hid (res = false) := Lib.hid (by
      rw [H.out.2.2.2.2]
      cases hs : sameN xs ys with
      | false => rfl
      | true => exact absurd (sameN_len hs) (by rw [← H.out.2.2.1, ← H.out.2.2.2.1]; exact hnm))
    go_enter Tryz.func122, Tryz.ntmps122
    go_wp2_with fail
    go_ret
    exact ⟨by rw [HZ.out]; rfl, Below.refl _ _⟩
set_option maxRecDepth 100000 in
theorem sameTerm_any (w : World) (a b : Option Addr) (c1 c2 : Nat) (xs ys : List Nd) (hx : TAt w a xs) (hy : TAt w b ys) :
    Calls Tryz.prog 50 #[.agg #[.slice a xs.length c1], .agg #[.slice b ys.length c2]] w fun e w' => e = .returned (.bool (sameN xs ys)) ∧ Below w.heap.size w w' := by
  have hb0 : Below w.heap.size w ((w.alloc (.cells #[.slice a xs.length c1] 24)).alloc (.cells #[.slice b ys.length c2] 24)) := ((Below.refl _ _).alloc (Nat.le_refl _) _).alloc (by simp) _
  have h := sameNodes_any ((w.alloc (.cells #[.slice a xs.length c1] 24)).alloc (.cells #[.slice b ys.length c2] 24)) a b c1 c2 xs ys (hx.below hb0 (Nat.le_refl _)) (hy.below hb0 (Nat.le_refl _))
  obtain ⟨res, hres⟩ : ∃ r, r = sameN xs ys := ⟨_, rfl⟩
  rw [← hres] at h ⊢
  obtain ⟨n, hn⟩ : ∃ n, n = xs.length := ⟨_, rfl⟩
  obtain ⟨m, hm⟩ : ∃ m, m = ys.length := ⟨_, rfl⟩
  rw [← hn, ← hm] at h hb0 ⊢
  have H := Lib.hid (And.intro h hb0)
  clear h hb0 hx hy hn hm hres
  go_enter Tryz.func50, Tryz.ntmps50
  go_wp2_with fail
  refine H.out.1.mono ?_
  rintro e w2 ⟨rfl, hb2⟩
  have HB := Lib.hid (H.out.2.trans (hb2.mono H.out.2.size))
  clear hb2
  go_wp2_with fail
  go_ret
  exact ⟨rfl, HB.out⟩
end Go.Proofs.YtilbbemdinpjcaaGreat.T
namespace Go.Proofs.YtilbbemdinpjcaaGreat
set_option maxRecDepth 100000
open Go.RowKit Go.Sort

theorem To.ext_iff' (a b : To) : a = b ↔ a.nm = b.nm ∧ a.w = b.w := by
  constructor
  · rintro rfl; exact ⟨rfl, rfl⟩
  · rintro ⟨h, k⟩; cases a; cases b; simp only at h k; rw [h, k]
instance : DecidableEq To := fun a b => decidable_of_iff _ (To.ext_iff' a b).symm
def litT' (a : To) : List Lit := litN a.nm ++ litW a.w
theorem litT_inj {a b : To} (ha : a.nm.1.length = 32) (hb : b.nm.1.length = 32) (h : litT' a = litT' b) : a = b := by
  unfold litT' at h
  have := List.append_inj h (by simp [litN, ha, hb])
  exact (To.ext_iff' a b).2 ⟨litN_inj ha hb this.1, litW_inj this.2⟩
theorem lits_to (d : Nat) (a : To) (h : ToOk a) : Tryz.prog.keyLits (d + 3) 150 (toC a).toList = some (litT' a) := by
  have hl : (B8 a.nm.1).toList.length = 32 := by rw [Array.length_toList, B8_size, h.1]
  have e : (toC a).toList = (B8 a.nm.1).toList ++ [.string (txt a.nm.2), .int .i64 (hiS a.w), .int .u64 (loN a.w)] := by simp [toC]
  rw [e]
  unfold Program.keyLits
  simp only [Tryz.underlying150, cells48, List.length_append, hl, List.length_cons, List.length_nil]
  rw [if_pos ⟨trivial, by kernel_rfl⟩]
  have e33 : ((B8 a.nm.1).toList ++ [Value.string (txt a.nm.2), Value.int .i64 (hiS a.w), Value.int .u64 (loN a.w)]).drop 33 = (wC a.w).toList := by
    rw [show (33 : Nat) = 32 + 1 from rfl, ← List.drop_drop, List.drop_left' hl]
    rfl
  have e2 : (wC a.w).toList.take 2 = (wC a.w).toList := rfl
  simp only [List.mapM_cons, List.mapM_nil, cells26, cells9, cells39, List.drop_zero, List.take_left' hl, List.drop_left' hl, e33, e2]
  rw [litsH d a.nm.1 h.1, lits_w d a.w]
  simp [litT, h.2, litT', litN, litW]
theorem formed_to (a : To) (h : a.nm.1.length = 32) : (Value.agg (toC a)).formed Tryz.prog 150 = true := by
  obtain ⟨⟨p, t⟩, x⟩ := a
  obtain ⟨a0, a1, a2, a3, a4, a5, a6, a7, a8, a9, a10, a11, a12, a13, a14, a15, a16, a17, a18, a19, a20, a21, a22, a23, a24, a25, a26, a27, a28, a29, a30, a31, rfl⟩ := list32 p h
  kernel_rfl
theorem eq_to (w : World) (a b : To) (ha : ToOk a) (hb : ToOk b) : (Op.equalIn 10000 150 (.agg (toC a)) (.agg (toC b))).run Tryz.prog w = .ok (decide (a = b)) w := by
  obtain ⟨r, hr, hi⟩ := run_equalIn_deep 9995 5 150 keyed_total w 5 5 (.agg (toC a)) (.agg (toC b)) _ _ (formed_to a ha.1) (formed_to b hb.1) (lits_to 2 a ha) (lits_to 2 b hb)
  have e : r = decide (a = b) := by
    rw [Bool.eq_iff_iff, decide_eq_true_iff, hi]
    exact ⟨litT_inj ha.1 hb.1, fun e => by rw [e]⟩
  rw [← e]
  exact hr
theorem eq_w (w : World) (a b : BitVec 128) : (Op.equalIn 10000 148 (.agg (wC a)) (.agg (wC b))).run Tryz.prog w = .ok (decide (a = b)) w := by
  have hf : ∀ x, (Value.agg (wC x)).formed Tryz.prog 148 = true := fun x => by kernel_rfl
  obtain ⟨r, hr, hi⟩ := run_equalIn_deep 9995 5 148 keyed_wide w 5 5 (.agg (wC a)) (.agg (wC b)) _ _ (hf a) (hf b) (lits_w 3 a) (lits_w 3 b)
  have e : r = decide (a = b) := by
    rw [Bool.eq_iff_iff, decide_eq_true_iff, hi]
    exact ⟨litW_inj, fun e => by rw [e]⟩
  rw [← e]
  exact hr
/-- Totals lie one behind the other. -/
def HasT (w : World) (g off : Nat) (l : List To) : Prop := ∀ (i : Nat) (a : To), l[i]? = some a → w.rangeAt g (off + i * 35) (toC a).toList
theorem HasT.below {B : Nat} {w w' : World} {g off : Nat} {l : List To} (h : HasT w g off l) (hb : Below B w w') (hg : g < B) : HasT w' g off l :=
  fun i a hi j v hv => (hb.cell (p := ⟨g, off + i * 35 + j, none⟩) hg).trans (h i a hi j v hv)
def RowT (w : World) (pa : Option Addr) (l : List To) : Prop := l.length ≤ maxLen ∧ (∀ a, a ∈ l → ToOk a) ∧ (0 < l.length → ∃ g off, pa = some ⟨g, off, none⟩ ∧ g < w.heap.size ∧ HasT w g off l)
theorem RowT.below {B : Nat} {w w' : World} {pa : Option Addr} {l : List To} (h : RowT w pa l) (hb : Below B w w') (hB : w.heap.size ≤ B) : RowT w' pa l :=
  ⟨h.1, h.2.1, fun hl => by
    obtain ⟨g, off, e, hg, hh⟩ := h.2.2 hl
    exact ⟨g, off, e, Nat.lt_of_lt_of_le hg hb.size, hh.below hb (Nat.lt_of_lt_of_le hg hB)⟩⟩
set_option maxHeartbeats 4000000 in
theorem sameT_any (w : World) (pa pb : Option Addr) (l m : List To) (c e : Nat) (hl : RowT w pa l) (hm : RowT w pb m) :
    Calls Tryz.prog 81 #[.slice pa l.length c, .slice pb m.length e] w fun e w' => e = .returned (.bool (decide (l = m))) ∧ Below w.heap.size w w' := by
  have hli : (l.length : Int) ≤ 9223372036854775807 := by have := hl.1; unfold maxLen at this; omega
  have hmi : (m.length : Int) ≤ 9223372036854775807 := by have := hm.1; unfold maxLen at this; omega
  have HS := Lib.hid (And.intro hl hm)
  clear hl hm
  by_cases hlen : l.length = m.length
  · rw [hlen]
    have HL := Lib.hid hlen
    clear hlen
    go_enter Tryz.func81, Tryz.ntmps81
    go_wp2_with fail
    go_loopw [5] (fun i W => ∃ k : Nat, k ≤ m.length ∧ i = .int .i64 k ∧ Below w.heap.size w W ∧ ∀ i, i < k → l[i]? = m[i]?) (fun i _ => m.length - (intOf i).toNat)
    case atStart => exact ⟨0, Nat.zero_le _, rfl, Below.refl _ _, fun i hi => absurd hi (by omega)⟩
    case round =>
      obtain ⟨k, hk, rfl, hb, hall⟩ := hrel
      have hlen := HL.out
      by_cases hlt : k < m.length
      · have m1 : (k : Int) < (m.length : Int) := by omega
        have m0 : (0 : Int) ≤ (k : Int) := by omega
        obtain ⟨g, off, rfl, hg, hh⟩ := HS.out.1.2.2 (by omega)
        obtain ⟨g', off', rfl, hg', hh'⟩ := HS.out.2.2.2 (by omega)
        obtain ⟨a, ha⟩ : ∃ a, a = l[k] := ⟨_, rfl⟩
        obtain ⟨b, hb'⟩ : ∃ b, b = m[k] := ⟨_, rfl⟩
        have hka : l[k]? = some a := by rw [ha, List.getElem?_eq_getElem (by omega)]
        have hkb : m[k]? = some b := by rw [hb', List.getElem?_eq_getElem hlt]
        have oka := HS.out.1.2.1 a (List.mem_of_getElem? hka)
        have okb := HS.out.2.2.1 b (List.mem_of_getElem? hkb)
        obtain ⟨va, hva⟩ : ∃ v, v = toC a := ⟨_, rfl⟩
        obtain ⟨vb, hvb⟩ : ∃ v, v = toC b := ⟨_, rfl⟩
        have hvs : va.size = 35 := by rw [hva]; exact toC_size a oka.1
        have hvt : vb.size = 35 := by rw [hvb]; exact toC_size b okb.1
        have heq : ∀ W, (Op.equalIn 10000 150 (.agg va) (.agg vb)).run Tryz.prog W = .ok (decide (a = b)) W := fun W => by rw [hva, hvb]; exact eq_to W a b oka okb
        have HR1 : Hid (∀ W, Below w.heap.size w W → W.rangeAt g (off + k * 35) va.toList ∧ W.rangeAt g' (off' + k * 35) vb.toList) := Lib.hid fun W hW => by
          rw [hva, hvb]
          exact ⟨(hh.below hW hg) k a hka, (hh'.below hW hg') k b hkb⟩
        have HR := Lib.hid (And.intro hb (And.intro hall (And.intro hlt (And.intro hka (And.intro hkb (And.intro hvs hvt))))))
        have HI := Lib.hid (And.intro (show (Tryz.prog.info? 150).map (·.size) = some va.size by rw [hvs]; exact info_total) (show (Tryz.prog.info? 150).map (·.size) = some vb.size by rw [hvt]; exact info_total))
        clear hlen hb hall hlt hk ha hb' hka hkb oka okb hva hvb hvs hvt hh hh' hg hg'
        go_upto_region 6 with fail
        refine wp_region_noPanic (wp_region_held (S := fun V => V.rangeAt g (off + k * 35) va.toList ∧ V.rangeAt g' (off' + k * 35) vb.toList) (by kernel_rfl) ?_)
        change wpAnyH _ _ _ _ _ 9 _ _ (World.drew wr)
        have hcur := HR1.out _ HR.out.1.drew
        have hbd : Below w.heap.size w wr.drew := HR.out.1.drew
        have HBD := Lib.hid hbd
        clear hbd
        by_cases hab : a = b
        · have hd : decide (a = b) = true := by simp [hab]
          have HAB := Lib.hid hab
          clear hab
          refine tk 0 (.slice (some ⟨g, off, none⟩) m.length c) 17 rfl rfl hcur ?_
          refine tk 1 (.int .i64 k) 18 rfl rfl hcur ?_
          refine tk 2 (.pointer (some ⟨g, off + k * 35, none⟩)) 19 rfl rfl hcur ?_ (by intro w' hS'; unfold execOp; simp [go_sem, m0, m1])
          refine tk 3 (.agg va) 20 rfl rfl hcur ?_ (by intro w' hS'; exact exec_loadM 150 _ rfl _ _ rfl va hS'.1 Tryz.underlying150 rfl HI.out.1)
          refine tk 4 (.slice (some ⟨g', off', none⟩) m.length e) 21 rfl rfl hcur ?_
          refine tk 5 (.int .i64 k) 22 rfl rfl hcur ?_
          refine tk 6 (.pointer (some ⟨g', off' + k * 35, none⟩)) 23 rfl rfl hcur ?_ (by intro w' hS'; unfold execOp; simp [go_sem, m0, m1])
          refine tk 7 (.agg vb) 24 rfl rfl hcur ?_ (by intro w' hS'; exact exec_loadM 150 _ rfl _ _ rfl vb hS'.2 Tryz.underlying150 rfl HI.out.2)
          refine tk 8 (.bool false) 25 rfl rfl hcur ?_ (by intro w' hS'; unfold execOp; simp [go_sem, heq, hd])
          refine wpAnyH_done (by kernel_rfl) ?_ _
          unfold NoPanic
          dsimp only
          clear hcur heq hd
          go_wp2_with fail
          have e1 : (k : Int) + 1 = ((k + 1 : Nat) : Int) := by omega
          rw [e1]
          refine ⟨⟨k + 1, HR.out.2.2.1, rfl, HBD.out, fun i hi => ?_⟩, ?_⟩
          · by_cases e : i = k
            · rw [e, HR.out.2.2.2.1, HR.out.2.2.2.2.1, HAB.out]
            · exact HR.out.2.1 i (by omega)
          · have h := HR.out.2.2.1
            show m.length - (k + 1) < m.length - k
            omega
        · have hd : decide (a = b) = false := by simp [hab]
          have HAB := Lib.hid (show l ≠ m from fun e => hab (by
            have h1 := HR.out.2.2.2.1
            rw [e, HR.out.2.2.2.2.1] at h1
            exact (Option.some.inj h1).symm))
          clear hab
          refine tk 0 (.slice (some ⟨g, off, none⟩) m.length c) 17 rfl rfl hcur ?_
          refine tk 1 (.int .i64 k) 18 rfl rfl hcur ?_
          refine tk 2 (.pointer (some ⟨g, off + k * 35, none⟩)) 19 rfl rfl hcur ?_ (by intro w' hS'; unfold execOp; simp [go_sem, m0, m1])
          refine tk 3 (.agg va) 20 rfl rfl hcur ?_ (by intro w' hS'; exact exec_loadM 150 _ rfl _ _ rfl va hS'.1 Tryz.underlying150 rfl HI.out.1)
          refine tk 4 (.slice (some ⟨g', off', none⟩) m.length e) 21 rfl rfl hcur ?_
          refine tk 5 (.int .i64 k) 22 rfl rfl hcur ?_
          refine tk 6 (.pointer (some ⟨g', off' + k * 35, none⟩)) 23 rfl rfl hcur ?_ (by intro w' hS'; unfold execOp; simp [go_sem, m0, m1])
          refine tk 7 (.agg vb) 24 rfl rfl hcur ?_ (by intro w' hS'; exact exec_loadM 150 _ rfl _ _ rfl vb hS'.2 Tryz.underlying150 rfl HI.out.2)
          refine tk 8 (.bool true) 25 rfl rfl hcur ?_ (by intro w' hS'; unfold execOp; simp [go_sem, heq, hd])
          refine wpAnyH_done (by kernel_rfl) ?_ _
          unfold NoPanic
          dsimp only
          clear hcur heq hd
          go_wp2_with fail
          go_ret
          refine ⟨?_, HBD.out⟩
          rw [decide_eq_false HAB.out]
          rfl
      · have e1 : k = m.length := by omega
        have HF := Lib.hid (And.intro hb (show l = m from List.ext_getElem? fun i => by
          by_cases hi : i < k
          · exact hall i hi
          · rw [List.getElem?_eq_none (by omega), List.getElem?_eq_none (by omega)]))
        have m1 : ¬ (k : Int) < (m.length : Int) := by omega
        clear hb hall e1 hk hlt hlen
        go_wp2_with fail
        go_ret
        refine ⟨?_, HF.out.1⟩
        rw [decide_eq_true HF.out.2]
        rfl
  · have hne : ¬ (l.length : Int) = (m.length : Int) := by omega
    have HN := Lib.hid (show l ≠ m from fun e => hlen (by rw [e]))
    clear hlen
    go_enter Tryz.func81, Tryz.ntmps81
    go_wp2_with fail
    go_ret
    refine ⟨?_, Below.refl _ _⟩
    rw [decide_eq_false HN.out]
    rfl
end Go.Proofs.YtilbbemdinpjcaaGreat
namespace Go.Proofs.YtilbbemdinpjcaaGreat
set_option maxRecDepth 100000
open Go.RowKit Go.Sort Go.Maps

theorem laidOut : laidOutB Tryz.prog = true := by kernel_rfl
theorem row68 : (255 : TypeId) < Tryz.prog.types.size := of_decide_eq_true (by kernel_rfl)
theorem wide68 : (match Tryz.prog.underlying 255 with | some (.array _ _) | some (.struct _) => true | _ => false) = true := by rw [Tryz.underlying255]
theorem keyedName : Keyed Tryz.prog 255 := Keyed.of_law (deep_law_laid laidOut (m := 5) (by omega) row68 keyed_called wide68)
/-- What a name reads as, as a key. -/
def kN (n : Nm) : Lit := .string (keyBytes (litN n))
theorem key_nm (n : Nm) (h : n.1.length = 32) (ht : n.2.length ≤ maxLen) : keyOf Tryz.prog 255 (.agg (nmC n)) = some (kN n) := by
  obtain ⟨d, hd⟩ : ∃ d, Tryz.prog.types.size + 1 = d + 3 := ⟨Tryz.prog.types.size - 2, by have : 2 ≤ Tryz.prog.types.size := of_decide_eq_true (by kernel_rfl); omega⟩
  have hk : Tryz.prog.keyType 255 = true := by kernel_rfl
  unfold keyOf
  rw [Tryz.underlying255]
  simp only [hk, formed_nm n h, Bool.and_self, if_true, hd]
  rw [show (Value.agg (nmC n)).cells.toList = (nmC n).toList from rfl, lits_nm d n h ht]
  rfl
theorem kN_inj {a b : Nm} (ha : a.1.length = 32) (hb : b.1.length = 32) (ta : a.2.length ≤ maxLen) (tb : b.2.length ≤ maxLen) (h : kN a = kN b) : a = b := by
  unfold kN at h
  have h1 := keyLits_inj (lits_nm 0 a ha ta) (lits_nm 0 b hb tb) (by simpa using h)
  exact litN_inj ha hb h1
/-- How a sum reads. -/
noncomputable def rdW (v : Value) : Option (DataW Unit × List MemPlace) := open Classical in if h : ∃ x, v = wv x then some (.lit (.int .u64 (Classical.choose h).toNat), []) else none
def dW (x : BitVec 128) : DataW Unit := .lit (.int .u64 x.toNat)
theorem rdW_wv (x : BitVec 128) : rdW (wv x) = some (dW x, []) := by
  have h : ∃ y, wv x = wv y := ⟨x, rfl⟩
  unfold rdW
  rw [dif_pos h, ← wv_inj (Classical.choose_spec h)]
  rfl
theorem dW_inj {x y : BitVec 128} (h : dW x = dW y) : x = y := by
  unfold dW at h
  simp only [DataW.lit.injEq, Lit.int.injEq, true_and] at h
  exact BitVec.eq_of_toNat_eq (by omega)
theorem rdW_inv {v : Value} {x : BitVec 128} {ps : List MemPlace} (h : rdW v = some (dW x, ps)) : v = wv x := by
  unfold rdW at h
  split at h
  · rename_i hh
    have e := Classical.choose_spec hh
    simp only [Option.some.injEq, Prod.mk.injEq] at h
    rw [e, dW_inj (x := Classical.choose hh) h.1]
  · cases h
/-- The map holds f: what has no entry has 0. -/
def HoldsF (D : DataW Unit) (f : Nm → BitVec 128) : Prop := ∀ n : Nm, n.1.length = 32 → n.2.length ≤ maxLen → D.atKey (kN n) (dW 0) = dW (f n)
def addAt (f : Nm → BitVec 128) (n : Nm) (x : BitVec 128) : Nm → BitVec 128 := fun m => if m = n then f n + x else f m
theorem HoldsF.put {D : DataW Unit} {f : Nm → BitVec 128} (h : HoldsF D f) (hD : IsMap D) (n : Nm) (x : BitVec 128) (hn : n.1.length = 32) (ht : n.2.length ≤ maxLen) : HoldsF (D.put (kN n) (dW (f n + x))) (addAt f n x) := fun m hm hmt => by
  unfold addAt
  by_cases e : m = n
  · subst e
    have hkk : WideAt.IsKeyLit (kN m) := trivial
    rw [atKey_put_same hD hkk]
    simp
  · rw [atKey_put_other (fun k => e (kN_inj hm hn hmt ht k)), h m hm hmt]
    simp [e]
theorem zeroW (w : World) : (zeroValue 148).run Tryz.prog w = .ok (wv 0) w := by
  rw [wv_zero]
  kernel_rfl
end Go.Proofs.YtilbbemdinpjcaaGreat
namespace Go.Proofs.YtilbbemdinpjcaaGreat
set_option maxRecDepth 100000
open Go.RowKit Go.Sort Go.Maps

theorem grown_of {w w' : World} {r : Option Nat} (h : Below w.heap.size w w') : w.grownBy w' r := ⟨h.1, h.2, h.3, h.size, fun i hi _ => h.block i hi⟩
theorem grown_trans {w w' w'' : World} {r : Option Nat} (h : w.grownBy w' r) (k : w'.grownBy w'' r) : w.grownBy w'' r :=
  ⟨k.os.trans h.os, k.tape.trans h.tape, k.output.trans h.output, Nat.le_trans h.size k.size, fun i hi hr => (k.block i (Nat.lt_of_lt_of_le hi h.size) hr).trans (h.block i hi hr)⟩
/-- The map has turned to D', nothing else that was there has. -/
def PutW (w w' : World) (b n : Nat) (D' : DataW Unit) : Prop := w'.ownsMap Tryz.prog 255 rdW b n D' ∧ w.grownBy w' (some b)
theorem wpOp_mapU {P : Program} {ops : Array Oper} {Q : Exit → Act → World → Prop} {i : Nat} {o : Oper} {a : Act} {w w' : World} {K : Act → World → Prop} (hi : ops[i]? = some o) (hg : o.guard = none) (m x v : Operand) (t : TypeId) (hop : o.op = Op.mapUpdate t m x v)
    (hrun : (Instr.mapUpdate t (a.eval m) (a.eval x) (a.eval v)).run P w = .ok () w') (h : K (a.put o.dst undef) w') : wpOp P ops Q i K a w := by
  refine wpOp_wp hi hg ?_
  unfold Oper.wp
  simp [execOp, hop, hrun, Result.andThen]
  exact h
end Go.Proofs.YtilbbemdinpjcaaGreat
namespace Go.Proofs.YtilbbemdinpjcaaGreat
set_option maxRecDepth 100000
open Go.RowKit Go.Sort Go.Maps

/-- What a bundle, what bundles have of each name. -/
def ctsOf (v : Va) : List Ct := v.l.map fun a => (a.nm, wide a.amt)
def ctsL (vs : List Va) : List Ct := vs.flatMap ctsOf
def coinS (vs : List Va) : BitVec 128 := sumL (vs.map fun v => wide v.coin)
theorem addAt_sumAt (L : List Ct) (n : Nm) (x : BitVec 128) : addAt (sumAt L) n x = sumAt (L ++ [(n, x)]) := by
  funext m
  rw [sumAt_append]
  unfold addAt
  by_cases h : m = n
  · subst h
    simp [sumAt]
  · rw [if_neg h]
    have : ¬ n = m := fun e => h e.symm
    simp [sumAt, this]
theorem ctsL_take {vs : List Va} {k : Nat} {v : Va} (h : vs[k]? = some v) : ctsL (vs.take (k + 1)) = ctsL (vs.take k) ++ ctsOf v := by
  unfold ctsL
  rw [List.take_add_one, h, List.flatMap_append]
  simp
theorem ctsOf_take {v : Va} {j : Nat} {a : As} (h : v.l[j]? = some a) : (ctsOf v).take (j + 1) = (ctsOf v).take j ++ [(a.nm, wide a.amt)] := by
  unfold ctsOf
  rw [List.take_add_one, List.getElem?_map, h]
  rfl
theorem coinS_take {vs : List Va} {k : Nat} {v : Va} (h : vs[k]? = some v) : coinS (vs.take (k + 1)) = coinS (vs.take k) + wide v.coin := by
  unfold coinS
  rw [List.take_add_one, h, List.map_append]
  unfold sumL
  rw [List.foldl_append]
  rfl
theorem ctsL_le {vs : List Va} {k : Nat} {v : Va} {j : Nat} (h : vs[k]? = some v) (hj : j ≤ v.l.length) : (ctsL (vs.take k) ++ (ctsOf v).take j).length ≤ (ctsL vs).length := by
  have h1 : ctsL vs = ctsL (vs.take (k + 1)) ++ ctsL (vs.drop (k + 1)) := by
    unfold ctsL
    rw [← List.flatMap_append, List.take_append_drop]
  rw [h1, ctsL_take h]
  simp [ctsOf]
  omega
/-- A row that is new. -/
def Fresh (B : Nat) (pa : Option Addr) : Prop := ∀ a, pa = some a → B ≤ a.block
/-- A row that is told: none, or in a block of so much room, from B on. -/
def RoomT (B : Nat) (w : World) (pa : Option Addr) (n c : Nat) : Prop := (pa = none ∧ n = 0 ∧ c = 0) ∨ ∃ g, pa = some ⟨g, 0, none⟩ ∧ n ≤ c ∧ c ≤ maxLen ∧ B ≤ g ∧ ∃ cs, Lies w g cs 150 ∧ cs.size = c * 35
theorem RoomT.mono {B B' : Nat} {w : World} {pa : Option Addr} {n c : Nat} (h : RoomT B w pa n c) (hb : B' ≤ B) : RoomT B' w pa n c := by
  rcases h with h | ⟨g, h1, h2, h3, h4, h5⟩
  · exact .inl h
  · exact .inr ⟨g, h1, h2, h3, Nat.le_trans hb h4, h5⟩
theorem RoomT.below {B : Nat} {w u : World} {pa : Option Addr} {n c : Nat} (h : RoomT B w pa n c) (hb : Below w.heap.size w u) : RoomT B u pa n c := by
  rcases h with h | ⟨g, h1, h2, h3, h4, cs, h5, h6⟩
  · exact .inl h
  · exact .inr ⟨g, h1, h2, h3, h4, cs, h5.below hb h5.lt, h6⟩
theorem RoomT.setRow {B : Nat} {w : World} {pa : Option Addr} {n c : Nat} (h : RoomT B w pa n c) {b : Nat} (hb : b < B) (cs' : Array Value) : RoomT B (w.setRow b cs') pa n c := by
  rcases h with h | ⟨g, h1, h2, h3, h4, cs, h5, h6⟩
  · exact .inl h
  · exact .inr ⟨g, h1, h2, h3, h4, cs, h5.setRowOther _ _ (by omega), h6⟩
/-- The totals of f, in a row. -/
def TotRes (f : Nm → BitVec 128) (W : World) (e : Ending) (w' : World) : Prop := ∃ pa l c, e = .returned (.slice pa l.length c) ∧ RowT w' pa l ∧ IsTot f (l.map fun t => (t.nm, t.w)) ∧ Below W.heap.size W w' ∧ Fresh W.heap.size pa ∧ RoomT W.heap.size w' pa l.length c
/-- A world on the way: the old memory, the result's cell, the map, the sum of the numbers. -/
structure OnWay (w W : World) (s : BitVec 128) (L : List Ct) : Prop where
  below : Below w.heap.size w W
  res : Lies W w.heap.size #[.int .i64 0, .int .u64 0] 148
  map : ∃ D, W.ownsMap Tryz.prog 255 rdW (w.heap.size + 1) L.length D ∧ HoldsF D (sumAt L)
  sum : Lies W (w.heap.size + 1 + 1) (wC s) 148
theorem OnWay.sumTo {w W : World} {s : BitVec 128} {L : List Ct} (h : OnWay w W s L) (x : BitVec 128) : OnWay w (W.setRow (w.heap.size + 1 + 1) (wC x)) x L := by
  obtain ⟨D, h1, h2⟩ := h.map
  exact ⟨below_setRow h.below _ _ (by omega), h.res.setRowOther _ _ (by omega), ⟨D, h1.kept (row := some (w.heap.size + 1 + 1)) ⟨rfl, rfl, rfl, by simp, fun k _ hk => setRow_other W _ k _ (fun e => hk (by rw [e]))⟩ (by simp), h2⟩, h.sum.setRow _⟩
theorem wpOp_storeRow {P : Program} {ops : Array Oper} {Q : Exit → Act → World → Prop} {i : Nat} {o : Oper} {a : Act} {w : World} {K : Act → World → Prop} (hi : ops[i]? = some o) (hgd : o.guard = none) (ty : TypeId) (x y : Operand) (ho : o.op = .store ty x y)
    (g : Nat) (cells : Array Value) (hx : a.eval x = .pointer (some ⟨g, 0, none⟩)) (hy : a.eval y = .agg cells) (t : TypeId) (old : Array Value) (hg : w.heap[g]? = some (.cells old t (0, 0))) (hs : (P.info? ty).map (·.size) = some cells.size)
    (hold : old.size = cells.size) (h1 : cells.all (·.oneCell') = true) (h : K (a.put o.dst undef) (w.setRow g cells)) : wpOp P ops Q i K a w :=
  wpOp_wp hi hgd (wp_store_row ty x y ho g cells hx hy t old hg hs hold h1 h)
theorem sumAt_mem : ∀ {L : List Ct} {m : Nm}, sumAt L m ≠ 0 → ∃ p, p ∈ L ∧ p.1 = m
  | [], m, h => absurd rfl h
  | p :: L, m, h => by
    by_cases e : p.1 = m
    · exact ⟨p, by simp, e⟩
    · have h2 : sumAt L m ≠ 0 := fun e2 => h (by simp [sumAt, e, e2])
      obtain ⟨q, hq, e3⟩ := sumAt_mem h2
      exact ⟨q, by simp [hq], e3⟩
theorem results_row_tmp {P : Program} {fn : Func} {p u : Tmp} {ty : TypeId} (h : fn.results = #[.cell p ty, .tmp u]) (tmps : Array Value) (w : World) (g : Nat) (t : TypeId) (cs : Array Value) (fr : Nat × Nat) (d : TypeDesc)
    (hp : tmps.getD p undef = .pointer (some ⟨g, 0, none⟩)) (hg : w.heap[g]? = some (.cells cs t fr))
    (hu : P.underlying ty = some d) (hd : (match d with | .struct _ | .array _ _ => true | _ => false) = true) (hi : (P.info? ty).map (·.size) = some cs.size) :
    (results fn tmps).run P w = .ok (.tuple #[.agg cs, tmps.getD u undef]) w := by
  have hp' : tmps[p]?.getD undef = .pointer (some ⟨g, 0, none⟩) := by simpa using hp
  simp [results, h, hp', asAddr, run_loadVar_row w g t ty cs fr d hg hu hd hi]
theorem HoldsF.none : HoldsF (.map []) (sumAt []) := fun _ _ _ => rfl
theorem OnWay.step {w W W' : World} {s : BitVec 128} {L : List Ct} (h : OnWay w W s L) (hb : Below W.heap.size W W') : OnWay w W' s L := by
  obtain ⟨D, h1, h2⟩ := h.map
  exact ⟨h.below.trans (hb.mono h.below.size), h.res.below hb h.res.lt, ⟨D, h1.kept (grown_of (r := none) hb) (by simp), h2⟩, h.sum.below hb h.sum.lt⟩
theorem OnWay.put {w W W' : World} {s : BitVec 128} {L : List Ct} (h : OnWay w W s L) {D : DataW Unit} (hf : HoldsF D (sumAt L)) (hD : IsMap D) (n : Nm) (x : BitVec 128) (hn : n.1.length = 32) (ht : n.2.length ≤ maxLen)
    (hp : PutW W W' (w.heap.size + 1) (L.length + 1) (D.put (kN n) (dW (sumAt L n + x)))) : OnWay w W' s (L ++ [(n, x)]) := by
  obtain ⟨h1, h2⟩ := hp
  have hb : Below w.heap.size W W' := ⟨h2.os, h2.tape, h2.output, h2.size, fun i hi => h2.block i (Nat.lt_of_lt_of_le hi h.below.size) (by simp; omega)⟩
  refine ⟨h.below.trans hb, (h2.block _ h.res.lt (by simp)).trans h.res, ⟨D.put (kN n) (dW (sumAt L n + x)), ?_, ?_⟩, (h2.block _ h.sum.lt (by simp)).trans h.sum⟩
  · rw [List.length_append]; exact h1
  · rw [← addAt_sumAt]; exact hf.put hD n x hn ht
def SumsRes (vs : List Va) (w' : World) (e : Ending) : Prop := ∃ p l c', e = .returned (.tuple #[wv (coinS vs), .slice p l.length c']) ∧ RowT w' p l ∧ IsTot (sumAt (ctsL vs)) (l.map fun t => (t.nm, t.w))
/-- The same, the row being new. -/
def SumsResR (vs : List Va) (B : Nat) (w' : World) (e : Ending) : Prop := ∃ p l c', e = .returned (.tuple #[wv (coinS vs), .slice p l.length c']) ∧ RowT w' p l ∧ IsTot (sumAt (ctsL vs)) (l.map fun t => (t.nm, t.w)) ∧ Fresh B p ∧ RoomT B w' p l.length c'
def SumsResF (vs : List Va) (B : Nat) (w' : World) (e : Ending) : Prop := ∃ p l c', e = .returned (.tuple #[wv (coinS vs), .slice p l.length c']) ∧ RowT w' p l ∧ IsTot (sumAt (ctsL vs)) (l.map fun t => (t.nm, t.w)) ∧ Fresh B p
end Go.Proofs.YtilbbemdinpjcaaGreat
namespace Go.Proofs.YtilbbemdinpjcaaGreat
set_option maxRecDepth 100000
open Go.RowKit Go.Sort Go.Maps

theorem mapM_inv {α β : Type} {f : α → Option β} : ∀ {is : List α} {ls : List β}, is.mapM f = some ls → ∀ i, i ∈ is → ∃ y, f i = some y
  | [], _, _, i, hi => by simp at hi
  | j :: is, ls, h, i, hi => by
    rw [List.mapM_cons] at h
    simp only [bind, Option.bind_eq_some_iff, pure, Option.some.injEq] at h
    obtain ⟨y, hy, ys, hys, _⟩ := h
    rcases List.mem_cons.1 hi with rfl | hi
    · exact ⟨y, hy⟩
    · exact mapM_inv hys i hi
theorem lit8_inv {d : Nat} {cs : List Value} {l : List Lit} (h : Tryz.prog.keyLits (d + 1) 5 cs = some l) : ∃ b : UInt8, cs = [.int .u8 b.toNat] := by
  unfold Program.keyLits at h
  rw [Tryz.underlying5] at h
  split at h
  all_goals first
    | (rename_i q q' n hq
       split at h
       · rename_i hw
         simp only [Option.some.injEq, TypeDesc.int.injEq] at hq
         obtain ⟨rfl, hw⟩ := hw
         subst hq
         have h2 : (decide ((0 : Int) ≤ n) && decide (n ≤ 255)) = true := hw
         rw [Bool.and_eq_true_iff, decide_eq_true_iff, decide_eq_true_iff] at h2
         refine ⟨UInt8.ofNat n.toNat, ?_⟩
         have : ((UInt8.ofNat n.toNat).toNat : Int) = n := by simp; omega
         rw [this]
       · cases h)
    | (simp_all; done)
theorem litT_inv {d : Nat} {cs : List Value} {l : List Lit} (h : Tryz.prog.keyLits (d + 1) 9 cs = some l) : ∃ t : List UInt8, t.length ≤ maxLen ∧ cs = [.string (txt t)] := by
  unfold Program.keyLits at h
  rw [Tryz.underlying9] at h
  split at h
  all_goals first
    | (rename_i q sx hq
       split at h
       · rename_i hw
         refine ⟨sx.data.toList, ?_, ?_⟩
         · rw [Array.length_toList]; exact hw
         · show _ = [Value.string ⟨sx.data.toList.toArray⟩]
           rw [Array.toArray_toList]
       · cases h)
    | (simp_all; done)
theorem litsH_inv {d : Nat} {cs : List Value} {l : List Lit} (h : Tryz.prog.keyLits (d + 2) 30 cs = some l) : ∃ p : List UInt8, p.length = 32 ∧ cs = (B8 p).toList := by
  unfold Program.keyLits at h
  simp only [Tryz.underlying30, cells26, cells5] at h
  split at h
  · rename_i hl
    rw [Option.map_eq_some_iff] at h
    obtain ⟨ls, hm, _⟩ := h
    have hall : ∀ i, i < 32 → ∃ b : UInt8, cs[i]? = some (.int .u8 b.toNat) := fun i hi => by
      obtain ⟨y, hy⟩ := mapM_inv hm i (List.mem_range.2 hi)
      obtain ⟨b, hb⟩ := lit8_inv hy
      refine ⟨b, ?_⟩
      rw [Nat.mul_one, List.drop_eq_getElem_cons (by omega), List.take_succ_cons, List.take_zero] at hb
      rw [List.getElem?_eq_getElem (by omega)]
      simpa using hb
    let g : Nat → UInt8 := fun i => if hi : i < 32 then Classical.choose (hall i hi) else 0
    have hg : ∀ i, i < 32 → cs[i]? = some (.int .u8 (g i).toNat) := fun i hi => by
      show cs[i]? = some (.int .u8 (if hi : i < 32 then Classical.choose (hall i hi) else 0 : UInt8).toNat)
      rw [dif_pos hi]
      exact Classical.choose_spec (hall i hi)
    refine ⟨(List.range 32).map g, by simp, List.ext_getElem? fun i => ?_⟩
    by_cases hi : i < 32
    · rw [hg i hi, Array.getElem?_toList, B8_get _ i (by simpa using hi)]
      simp [hi]
    · rw [List.getElem?_eq_none (by omega), List.getElem?_eq_none (by rw [Array.length_toList, B8_size]; simp; omega)]
  · cases h
theorem lits_inv {d : Nat} {cs : Array Value} {l : List Lit} (h : Tryz.prog.keyLits (d + 3) 255 cs.toList = some l) : ∃ n : Nm, n.1.length = 32 ∧ n.2.length ≤ maxLen ∧ cs = nmC n := by
  unfold Program.keyLits at h
  simp only [Tryz.underlying255, cells68] at h
  split at h
  · rename_i hl
    rw [Option.map_eq_some_iff] at h
    obtain ⟨ls, hm, _⟩ := h
    obtain ⟨y0, h0⟩ := mapM_inv hm _ (by simp; exact .inl rfl)
    obtain ⟨y1, h1⟩ := mapM_inv hm _ (by simp; exact .inr rfl)
    simp only [cells26, cells9, List.drop_zero] at h0 h1
    obtain ⟨p, hp, e0⟩ := litsH_inv h0
    obtain ⟨t, ht, e1⟩ := litT_inv h1
    refine ⟨(p, t), hp, ht, ?_⟩
    apply Array.ext'
    have hd : cs.toList.drop 32 = [Value.string (txt t)] := by
      rw [← e1, List.take_of_length_le (by rw [List.length_drop]; omega)]
    rw [← List.take_append_drop 32 cs.toList, e0, hd]
    simp [nmC]
  · cases h
theorem key_inv {v : Value} {kl : Lit} (h : keyOf Tryz.prog 255 v = some kl) : ∃ n : Nm, n.1.length = 32 ∧ n.2.length ≤ maxLen ∧ v = .agg (nmC n) ∧ kl = kN n := by
  obtain ⟨d, hd⟩ : ∃ d, Tryz.prog.types.size + 1 = d + 3 := ⟨Tryz.prog.types.size - 2, by have : 2 ≤ Tryz.prog.types.size := of_decide_eq_true (by kernel_rfl); omega⟩
  have h' := h
  unfold keyOf at h
  rw [Tryz.underlying255] at h
  simp only at h
  split at h
  · rename_i hf
    rw [Option.map_eq_some_iff] at h
    obtain ⟨ls, hl, _⟩ := h
    rw [hd] at hl
    have hform := (Bool.and_eq_true_iff.1 hf).2
    cases v with
    | agg cs =>
      obtain ⟨n, hn, ht, rfl⟩ := lits_inv hl
      refine ⟨n, hn, ht, rfl, ?_⟩
      rw [key_nm n hn ht] at h'
      exact (Option.some.inj h').symm
    | _ => simp [Value.formed, Tryz.underlying255] at hform
  · cases h
/-- A name that may stand in the map. -/
abbrev OkNm := {n : Nm // n.1.length = 32 ∧ n.2.length ≤ maxLen}
def mkK (n : OkNm) : Value := .agg (nmC n.1)
theorem invK (key : Value) (kl : Lit) (h : keyOf Tryz.prog 255 key = some kl) : ∃ n : OkNm, key = mkK n := by
  obtain ⟨n, hn, ht, e, _⟩ := key_inv h
  exact ⟨⟨n, hn, ht⟩, e⟩
theorem invV (v : Value) (y : DataW Unit × List MemPlace) (h : rdW v = some y) : ∃ c, v = wv c := by
  unfold rdW at h
  split at h
  · rename_i hh
    exact hh
  · cases h
/-- What comes up at a step of the range: a name, what the map holds of it. -/
theorem next_is {D : DataW Unit} {f : Nm → BitVec 128} (hf : HoldsF D f) {n : OkNm} {c : BitVec 128} {kl : Lit} {y : DataW Unit × List MemPlace} (hk : keyOf Tryz.prog 255 (mkK n) = some kl) (hy : rdW (wv c) = some y) (hat : ∀ zd, D.atKey kl zd = y.1) : kl = kN n.1 ∧ c = f n.1 := by
  have h1 := key_nm n.1 n.2.1 n.2.2
  unfold mkK at hk
  rw [h1] at hk
  obtain rfl := Option.some.inj hk
  have h2 := hat (dW 0)
  rw [hf n.1 n.2.1 n.2.2] at h2
  rw [rdW_wv] at hy
  obtain rfl := Option.some.inj hy
  exact ⟨rfl, (dW_inj h2).symm⟩
end Go.Proofs.YtilbbemdinpjcaaGreat
