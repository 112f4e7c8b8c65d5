/-
  How the nodes of a term lie: one node (set).
-/
import Derived.Test.YtilbbemdinpjcaaGreatJTTm
import Derived.RegionTactic
import Derived.Deep.QuietTactic
import Derived.BigQuiet
import Derived.Outline
namespace Go.Proofs.YtilbbemdinpjcaaGreat.T
open Go.RowKit

/-- A block known whole. -/
def Lies (w : World) (g : Nat) (cs : Array Value) (t : TypeId) : Prop := w.heap[g]? = some (.cells cs t (0, 0))
theorem Lies.cell {w : World} {g : Nat} {cs : Array Value} {t : TypeId} (h : Lies w g cs t) (j : Nat) {v : Value} (hv : cs[j]? = some v) : w.cell? ⟨g, j, none⟩ = some v := by
  rw [cell_of_row w g j cs t (0, 0) h]; exact hv
theorem Lies.free {w : World} {g : Nat} {cs : Array Value} {t : TypeId} (h : Lies w g cs t) (j : Nat) : w.frozen? ⟨g, j, none⟩ = false := frozen_of_row w g j cs t h
theorem Lies.lt {w : World} {g : Nat} {cs : Array Value} {t : TypeId} (h : Lies w g cs t) : g < w.heap.size := (Array.getElem?_eq_some_iff.1 h).1
theorem Lies.set {w : World} {g : Nat} {cs : Array Value} {t : TypeId} (h : Lies w g cs t) (j : Nat) (v : Value) : Lies (w.setCell ⟨g, j, none⟩ v) g (cs.setIfInBounds j v) t := heap_setCell_same w g j cs t v h
theorem Lies.other {w : World} {g : Nat} {cs : Array Value} {t : TypeId} (h : Lies w g cs t) (a : Addr) (v : Value) (hne : g ≠ a.block) : Lies (w.setCell a v) g cs t := (heap_setCell_other w a g v hne).trans h
theorem Lies.below {B : Nat} {w w' : World} {g : Nat} {cs : Array Value} {t : TypeId} (h : Lies w g cs t) (hb : Below B w w') (hg : g < B) : Lies w' g cs t := (hb.block g hg).trans h
theorem Lies.new (w : World) (cs : Array Value) (t : TypeId) : Lies (w.alloc (.cells cs t)) w.heap.size cs t := heap_alloc_new w _
theorem Lies.alloc {w : World} {g : Nat} {cs : Array Value} {t : TypeId} (h : Lies w g cs t) (o : Obj) : Lies (w.alloc o) g cs t := (Below.heap_alloc w o g h.lt).trans h
/-- Whole numbers in a row. -/
def iv (n : Nat) (f : Nat → Nat) : Array Value := ((List.range n).map fun j => Value.int .i64 (f j)).toArray
theorem iv_get (n : Nat) (f : Nat → Nat) (j : Nat) (h : j < n) : (iv n f)[j]? = some (.int .i64 (f j)) := by simp [iv, h]
def upd (f : Nat → Nat) (i x : Nat) : Nat → Nat := fun j => if j = i then x else f j
theorem iv_set (n : Nat) (f : Nat → Nat) (i x : Nat) : (iv n f).setIfInBounds i (.int .i64 x) = iv n (upd f i x) := by
  apply Array.ext'
  simp only [iv, Array.toList_setIfInBounds]
  apply List.ext_getElem?
  intro j
  by_cases hj : j < n
  · rw [List.getElem?_set]
    by_cases e : i = j
    · subst e; simp [hj, upd]
    · have e2 : ¬ j = i := fun h => e h.symm
      simp [e, hj, upd, e2]
  · rw [List.getElem?_eq_none (by simp; omega), List.getElem?_eq_none (by simp; omega)]
/-- Nodes in a row. -/
def NAt (w : World) (g off : Nat) (ns : List Nd) : Prop := g < w.heap.size ∧ ∀ j (h : j < ns.length) i v, (ns[j]).cells[i]? = some v → w.cell? ⟨g, off + j * 5 + i, none⟩ = some v
theorem NAt.below {B : Nat} {w w' : World} {g off : Nat} {ns : List Nd} (h : NAt w g off ns) (hb : Below B w w') (hg : g < B) : NAt w' g off ns :=
  ⟨Nat.lt_of_lt_of_le h.1 hb.size, fun j hj i v hv => (hb.cell (p := ⟨g, off + j * 5 + i, none⟩) hg).trans (h.2 j hj i v hv)⟩
/-- k kids on, from a place. -/
def walk (E D : Nat → Nat) (n : Nat) : Nat → Nat × Nat → Option (Nat × Nat)
  | 0, s => some s
  | k + 1, s => match walk E D n k s with
    | none => none
    | some (a, m) => if a = n then none else some (E a, max m (D a))
/-- A kind of panic. -/
def ThrownT (e : Ending) : Prop := ∃ v, e = .panicked [{ v := .iface 64 v, recovered := false }]
theorem size_set (w : World) (a : Addr) (v : Value) : (w.setCell a v).heap.size = w.heap.size := by simp [World.setCell]
theorem below_drewN {B : Nat} {w w' : World} (h : Below B w w') (n : Nat) : Below B w (w'.drewN n) := ⟨h.os, h.tape, h.output, h.size, h.block⟩
theorem walk_le {E D : Nat → Nat} {n : Nat} (hE : ∀ j, E j ≤ n) (hD : ∀ j, D j ≤ n) : ∀ (k : Nat) (s : Nat × Nat) (a m : Nat), s.1 ≤ n → s.2 ≤ n → walk E D n k s = some (a, m) → a ≤ n ∧ m ≤ n
  | 0, s, a, m, h1, h2, h => by
    simp only [walk, Option.some.injEq] at h
    subst h
    exact ⟨h1, h2⟩
  | k + 1, s, a, m, h1, h2, h => by
    simp only [walk] at h
    cases hk : walk E D n k s with
    | none => rw [hk] at h; cases h
    | some x =>
      obtain ⟨a0, m0⟩ := x
      rw [hk] at h
      have ih := walk_le hE hD k s a0 m0 h1 h2 hk
      simp only at h
      split at h
      · cases h
      · cases h
        exact ⟨hE _, by have := hD a0; omega⟩
theorem walk_some {E D : Nat → Nat} {n k K : Nat} {s : Nat × Nat} {x : Nat × Nat} (h : walk E D n K s = some x) (hk : k ≤ K) : ∃ a m, walk E D n k s = some (a, m) ∧ (k < K → a ≠ n ∧ walk E D n (k + 1) s = some (E a, max m (D a))) := by
  induction K generalizing x with
  | zero =>
    obtain rfl : k = 0 := by omega
    exact ⟨s.1, s.2, rfl, fun h => by omega⟩
  | succ K ih =>
    simp only [walk] at h
    cases hK : walk E D n K s with
    | none => rw [hK] at h; cases h
    | some y =>
      obtain ⟨a0, m0⟩ := y
      rw [hK] at h
      simp only at h
      by_cases e : k = K + 1
      · subst e
        refine ⟨x.1, x.2, ?_, fun h => by omega⟩
        simp only [walk, hK]
        exact h
      · by_cases e2 : k = K
        · subst e2
          refine ⟨a0, m0, hK, fun _ => ?_⟩
          split at h
          · cases h
          · rename_i hne
            refine ⟨hne, ?_⟩
            simp only [walk, hK]
            rw [if_neg hne]
        · obtain ⟨a, m, h1, h2⟩ := ih hK (by omega)
          exact ⟨a, m, h1, fun _ => h2 (by omega)⟩
theorem walk_none {E D : Nat → Nat} {n : Nat} {s : Nat × Nat} : ∀ {K : Nat}, walk E D n K s = none → ∃ r m, r < K ∧ walk E D n r s = some (n, m)
  | 0, h => by simp [walk] at h
  | K + 1, h => by
    simp only [walk] at h
    cases hK : walk E D n K s with
    | none =>
      obtain ⟨r, m, h1, h2⟩ := walk_none hK
      exact ⟨r, m, by omega, h2⟩
    | some y =>
      obtain ⟨a0, m0⟩ := y
      rw [hK] at h
      simp only at h
      split at h
      · rename_i e
        subst e
        exact ⟨K, m0, by omega, hK⟩
      · cases h
set_option maxRecDepth 100000 in
set_option maxHeartbeats 1000000 in
theorem set_ok (n g off nc gE cE gD cD i at' m' : Nat) (K : Int) (E D : Nat → Nat) (w : World) (hi : i < n) (hkc : w.cell? ⟨g, off + i * 5 + 4, none⟩ = some (.int .i64 K)) (hg : g < w.heap.size) (hE : Lies w gE (iv n E) 3) (hD : Lies w gD (iv n D) 3) (hne : gE ≠ gD) (hsz : n ≤ 1000000)
    (hEb : ∀ j, E j ≤ n) (hDb : ∀ j, D j ≤ n) (hk : 0 ≤ K) (hk63 : K ≤ 9223372036854775807) (hw : walk E D n K.toNat (i + 1, 0) = some (at', m')) :
    Calls Tryz.prog 278 #[.agg #[.slice (some ⟨g, off, none⟩) n nc, .slice (some ⟨gE, 0, none⟩) n cE, .slice (some ⟨gD, 0, none⟩) n cD], .int .i64 i] w fun e w' => e = .returned (.tuple #[]) ∧
      Lies w' gE (iv n (upd E i at')) 3 ∧ Lies w' gD (iv n (upd D i (m' + 1))) 3 ∧ (∀ B, B ≤ gE → B ≤ gD → Below B w w') ∧ ∀ k, k < w.heap.size → k ≠ gE → k ≠ gD → w'.heap[k]? = w.heap[k]? := by
  have i0 : (0 : Int) ≤ (i : Int) := by omega
  have i1 : (i : Int) < (n : Int) := by omega
  have n1 : (n : Int) ≤ 1000000 := by omega
  have k0 : ¬ K < 0 := by omega
  have H := Lib.hid (And.intro hE (And.intro hD (And.intro hne (And.intro hEb (And.intro hDb (And.intro hw (And.intro hi (And.intro hk (And.intro hg (And.intro hkc hsz))))))))))
  clear hE hD hne hEb hDb hw hi hk hg hkc hsz
  go_enter Tryz.func278, Tryz.ntmps278
  go_upto_region 1 with fail
  have hA : Lies (w.alloc (.cells #[.slice (some ⟨g, off, none⟩) n nc, .slice (some ⟨gE, 0, none⟩) n cE, .slice (some ⟨gD, 0, none⟩) n cD] 279)) w.heap.size #[.slice (some ⟨g, off, none⟩) n nc, .slice (some ⟨gE, 0, none⟩) n cE, .slice (some ⟨gD, 0, none⟩) n cD] 279 := Lies.new _ _ _
  have hb0 : Below w.heap.size w (w.alloc (.cells #[.slice (some ⟨g, off, none⟩) n nc, .slice (some ⟨gE, 0, none⟩) n cE, .slice (some ⟨gD, 0, none⟩) n cD] 279)) := (Below.refl _ _).alloc (Nat.le_refl _) _
  generalize w.alloc (.cells #[.slice (some ⟨g, off, none⟩) n nc, .slice (some ⟨gE, 0, none⟩) n cE, .slice (some ⟨gD, 0, none⟩) n cD] 279) = W0 at hA hb0 ⊢
  have hall : ∀ V, Below W0.heap.size W0 V → V.cell? ⟨w.heap.size, 0, none⟩ = some (.slice (some ⟨g, off, none⟩) n nc) ∧ V.cell? ⟨w.heap.size, 1, none⟩ = some (.slice (some ⟨gE, 0, none⟩) n cE) ∧ V.cell? ⟨w.heap.size, 2, none⟩ = some (.slice (some ⟨gD, 0, none⟩) n cD) ∧
      V.cell? ⟨g, off + i * 5 + 4, none⟩ = some (.int .i64 K) ∧ Lies V gE (iv n E) 3 ∧ Lies V gD (iv n D) 3 ∧ Below w.heap.size w V := fun V hV => by
    have hbw := hb0.trans (hV.mono hb0.size)
    have hA' := hA.below hV hA.lt
    exact ⟨hA'.cell 0 rfl, hA'.cell 1 rfl, hA'.cell 2 rfl, (hbw.cell (p := ⟨g, off + i * 5 + 4, none⟩) H.out.2.2.2.2.2.2.2.2.1).trans H.out.2.2.2.2.2.2.2.2.2.1, H.out.1.below hbw H.out.1.lt, H.out.2.1.below hbw H.out.2.1.lt, hbw⟩
  have h0 := hall _ (Below.refl _ _)
  have s0 := h0.1
  have s3 := h0.2.2.2.1
  have HALL := Lib.hid hall
  clear hA hb0 hall h0
  go_wp2_with fail
  clear s0 s3
  go_loopw [4, 5, 22] (fun a m k W => ∃ (x y : Nat) (q : Nat), (q : Int) ≤ K ∧ a = .int .i64 x ∧ m = .int .i64 y ∧ k = .int .i64 q ∧ walk E D n q (i + 1, 0) = some (x, y) ∧ Below W0.heap.size W0 W) (fun _ _ k _ => (K - intOf k).toNat)
  case atStart => exact ⟨i + 1, 0, 0, by have := H.out.2.2.2.2.2.2.2.1; omega, by go_num, rfl, rfl, rfl, Below.refl _ _⟩
  case round =>
    obtain ⟨x, y, q, hq, rfl, rfl, rfl, hwk, hbr⟩ := hrel
    have hbd := walk_le H.out.2.2.2.1 H.out.2.2.2.2.1 q (i + 1, 0) x y (by have := H.out.2.2.2.2.2.2.1; simp; omega) (Nat.zero_le _) hwk
    by_cases hlt : (q : Int) < K
    · obtain ⟨a1, m1, h1, h2⟩ := walk_some H.out.2.2.2.2.2.1 (k := q) (by omega)
      rw [hwk] at h1
      cases h1
      obtain ⟨hxn, hw2⟩ := h2 (by omega)
      have hx := HALL.out _ hbr
      have s0 := hx.1
      have s1 := hx.2.1
      have s2 := hx.2.2.1
      have cE' := hx.2.2.2.2.1.cell x (iv_get n E x (by omega))
      have cD' := hx.2.2.2.2.2.1.cell x (iv_get n D x (by omega))
      obtain ⟨ex, hex⟩ : ∃ e, e = E x := ⟨_, rfl⟩
      obtain ⟨dx, hdx⟩ : ∃ e, e = D x := ⟨_, rfl⟩
      rw [← hex] at cE' hw2
      rw [← hdx] at cD' hw2
      have j1 : (x : Int) < (n : Int) := by omega
      have j0 : (0 : Int) ≤ (x : Int) := by omega
      have j2 : ((x : Int) == (n : Int)) = false := by rw [beq_eq_false_iff_ne]; omega
      have j3 : (x == n) = false := by rw [beq_eq_false_iff_ne]; exact hxn
      have HR := Lib.hid (And.intro hbr (And.intro hw2 hq))
      clear hx hbr hw2 hwk hex hdx hbd hxn hq h2
      go_wp2_with fail
      go_quiet (fail)
      go_wp2_with fail
      have hq := HR.out.2.2
      refine ⟨⟨ex, max y dx, q + 1, by omega, rfl, ?_, by go_num, HR.out.2.1, below_drewN HR.out.1 _⟩, ?_⟩
      · refine congrArg (Value.int .i64) ?_
        split <;> omega
      · simp [intOf]; omega
    · have hqk : (q : Int) = K := by omega
      have hqn : q = K.toNat := by omega
      rw [hqn, H.out.2.2.2.2.2.1] at hwk
      cases hwk
      have hx := HALL.out _ hbr
      have s1 := hx.2.1
      have s2 := hx.2.2.1
      have cE' := hx.2.2.2.2.1.cell i (iv_get n E i H.out.2.2.2.2.2.2.1)
      have cD' := hx.2.2.2.2.2.1.cell i (iv_get n D i H.out.2.2.2.2.2.2.1)
      have fE' := hx.2.2.2.2.1.free i
      have fD' := hx.2.2.2.2.2.1.free i
      have HX := Lib.hid hx
      have j3 : ¬ (q : Int) < K := by omega
      have j4 : decide ((q : Int) < K) = false := by simp; omega
      have hm1 : IntKind.i64.wrap ((m' : Int) + 1) = ((m' + 1 : Nat) : Int) := by rw [IntKind.wrap_i64]; omega
      clear hx hbr hlt hq hqk hqn
      have e1 : ¬ gE = gD := H.out.2.2.1
      have e2 : ¬ gD = gE := fun e => H.out.2.2.1 e.symm
      have l1 := H.out.1.lt
      have l2 := H.out.2.1.lt
      have e3 : ¬ gE = w.heap.size := by omega
      have e4 : ¬ w.heap.size = gE := by omega
      have e5 : ¬ gD = w.heap.size := by omega
      have e6 : ¬ w.heap.size = gD := by omega
      go_upto_region 10 with fail
      clear l1 l2
      go_region
      have hl := HX.out
      have f1 : Lies (wr.setCell ⟨gE, i, none⟩ (.int .i64 at')) gE (iv n (upd E i at')) 3 := by rw [← iv_set]; exact hl.2.2.2.2.1.set i _
      have f2 : Lies (wr.setCell ⟨gE, i, none⟩ (.int .i64 at')) gD (iv n D) 3 := hl.2.2.2.2.2.1.other _ _ (fun e => e2 e)
      have g1 : Lies ((wr.setCell ⟨gE, i, none⟩ (.int .i64 at')).setCell ⟨gD, i, none⟩ (.int .i64 ((m' : Int) + 1))) gE (iv n (upd E i at')) 3 := f1.other _ _ (fun e => e1 e)
      have g2 : Lies ((wr.setCell ⟨gE, i, none⟩ (.int .i64 at')).setCell ⟨gD, i, none⟩ (.int .i64 ((m' : Int) + 1))) gD (iv n (upd D i (m' + 1))) 3 := by
        rw [← iv_set, show ((m' + 1 : Nat) : Int) = (m' : Int) + 1 by omega]
        exact f2.set i _
      have g3 : ∀ B, B ≤ gE → B ≤ gD → Below B w ((wr.setCell ⟨gE, i, none⟩ (.int .i64 at')).setCell ⟨gD, i, none⟩ (.int .i64 ((m' : Int) + 1))) := fun B b1 b2 =>
        ((hl.2.2.2.2.2.2.mono (by have := H.out.1.lt; omega)).setCell (p := ⟨gE, i, none⟩) b1 _).setCell (p := ⟨gD, i, none⟩) b2 _
      have g4 : ∀ k, k < w.heap.size → k ≠ gE → k ≠ gD → ((wr.setCell ⟨gE, i, none⟩ (.int .i64 at')).setCell ⟨gD, i, none⟩ (.int .i64 ((m' : Int) + 1))).heap[k]? = w.heap[k]? := fun k h1 h2 h3 =>
        (heap_setCell_other _ ⟨gD, i, none⟩ k _ h3).trans ((heap_setCell_other _ ⟨gE, i, none⟩ k _ h2).trans (hl.2.2.2.2.2.2.block k h1))
      go_end0
      exact ⟨rfl, g1, g2, fun B b1 b2 => (g3 B b1 b2).drew, g4⟩
set_option maxRecDepth 100000 in
set_option maxHeartbeats 1000000 in
theorem set_bad (n g off nc gE cE gD cD i : Nat) (K : Int) (E D : Nat → Nat) (w : World) (hi : i < n) (hkc : w.cell? ⟨g, off + i * 5 + 4, none⟩ = some (.int .i64 K)) (hg : g < w.heap.size) (hE : Lies w gE (iv n E) 3) (hD : Lies w gD (iv n D) 3) (hne : gE ≠ gD) (hsz : n ≤ 1000000)
    (hEb : ∀ j, E j ≤ n) (hDb : ∀ j, D j ≤ n) (hk63 : K ≤ 9223372036854775807) (hw : K < 0 ∨ 0 ≤ K ∧ walk E D n K.toNat (i + 1, 0) = none) :
    Calls Tryz.prog 278 #[.agg #[.slice (some ⟨g, off, none⟩) n nc, .slice (some ⟨gE, 0, none⟩) n cE, .slice (some ⟨gD, 0, none⟩) n cD], .int .i64 i] w fun e w' => ThrownT e ∧ Below w.heap.size w w' := by
  have i0 : (0 : Int) ≤ (i : Int) := by omega
  have i1 : (i : Int) < (n : Int) := by omega
  have n1 : (n : Int) ≤ 1000000 := by omega
  have H := Lib.hid (And.intro hE (And.intro hD (And.intro hne (And.intro hEb (And.intro hDb (And.intro hw (And.intro hi (And.intro trivial (And.intro hg (And.intro hkc hsz))))))))))
  clear hE hD hne hEb hDb hw hi hg hkc hsz
  go_enter Tryz.func278, Tryz.ntmps278
  go_upto_region 1 with fail
  have hA : Lies (w.alloc (.cells #[.slice (some ⟨g, off, none⟩) n nc, .slice (some ⟨gE, 0, none⟩) n cE, .slice (some ⟨gD, 0, none⟩) n cD] 279)) w.heap.size #[.slice (some ⟨g, off, none⟩) n nc, .slice (some ⟨gE, 0, none⟩) n cE, .slice (some ⟨gD, 0, none⟩) n cD] 279 := Lies.new _ _ _
  have hb0 : Below w.heap.size w (w.alloc (.cells #[.slice (some ⟨g, off, none⟩) n nc, .slice (some ⟨gE, 0, none⟩) n cE, .slice (some ⟨gD, 0, none⟩) n cD] 279)) := (Below.refl _ _).alloc (Nat.le_refl _) _
  generalize w.alloc (.cells #[.slice (some ⟨g, off, none⟩) n nc, .slice (some ⟨gE, 0, none⟩) n cE, .slice (some ⟨gD, 0, none⟩) n cD] 279) = W0 at hA hb0 ⊢
  have hall : ∀ V, Below W0.heap.size W0 V → V.cell? ⟨w.heap.size, 0, none⟩ = some (.slice (some ⟨g, off, none⟩) n nc) ∧ V.cell? ⟨w.heap.size, 1, none⟩ = some (.slice (some ⟨gE, 0, none⟩) n cE) ∧ V.cell? ⟨w.heap.size, 2, none⟩ = some (.slice (some ⟨gD, 0, none⟩) n cD) ∧
      V.cell? ⟨g, off + i * 5 + 4, none⟩ = some (.int .i64 K) ∧ Lies V gE (iv n E) 3 ∧ Lies V gD (iv n D) 3 ∧ Below w.heap.size w V := fun V hV => by
    have hbw := hb0.trans (hV.mono hb0.size)
    have hA' := hA.below hV hA.lt
    exact ⟨hA'.cell 0 rfl, hA'.cell 1 rfl, hA'.cell 2 rfl, (hbw.cell (p := ⟨g, off + i * 5 + 4, none⟩) H.out.2.2.2.2.2.2.2.2.1).trans H.out.2.2.2.2.2.2.2.2.2.1, H.out.1.below hbw H.out.1.lt, H.out.2.1.below hbw H.out.2.1.lt, hbw⟩
  have h0 := hall _ (Below.refl _ _)
  have s0 := h0.1
  have s3 := h0.2.2.2.1
  have HALL := Lib.hid hall
  have HB0 := Lib.hid h0.2.2.2.2.2.2
  clear hA hb0 hall h0
  rcases H.out.2.2.2.2.2.1 with hneg | ⟨hk, hw⟩
  · go_wp2_with fail
    exact ⟨rfl, ⟨_, rfl⟩, HB0.out⟩
  · obtain ⟨r, mr, hr, hwr⟩ := walk_none hw
    have HW := Lib.hid (And.intro hr (And.intro hwr hk))
    have k0 : ¬ K < 0 := by omega
    clear hr hwr hw hk
    go_wp2_with fail
    clear s0 s3
    go_loopw [4, 5, 22] (fun a m k W => ∃ (x y : Nat) (q : Nat), q ≤ r ∧ a = .int .i64 x ∧ m = .int .i64 y ∧ k = .int .i64 q ∧ walk E D n q (i + 1, 0) = some (x, y) ∧ Below W0.heap.size W0 W) (fun _ _ k _ => (K - intOf k).toNat)
    case atStart => exact ⟨i + 1, 0, 0, by omega, by go_num, rfl, rfl, rfl, Below.refl _ _⟩
    case round =>
      obtain ⟨x, y, q, hq, rfl, rfl, rfl, hwk, hbr⟩ := hrel
      have hbd := walk_le H.out.2.2.2.1 H.out.2.2.2.2.1 q (i + 1, 0) x y (by have := H.out.2.2.2.2.2.2.1; simp; omega) (Nat.zero_le _) hwk
      have hqK : (q : Int) < K := by have := HW.out.1; have := HW.out.2.2; omega
      have hx := HALL.out _ hbr
      have s0 := hx.1
      by_cases hlt : q < r
      · obtain ⟨a1, m1, h1, h2⟩ := walk_some HW.out.2.1 (k := q) (by omega)
        rw [hwk] at h1
        cases h1
        obtain ⟨hxn, hw2⟩ := h2 (by omega)
        have s1 := hx.2.1
        have s2 := hx.2.2.1
        have cE' := hx.2.2.2.2.1.cell x (iv_get n E x (by omega))
        have cD' := hx.2.2.2.2.2.1.cell x (iv_get n D x (by omega))
        obtain ⟨ex, hex⟩ : ∃ e, e = E x := ⟨_, rfl⟩
        obtain ⟨dx, hdx⟩ : ∃ e, e = D x := ⟨_, rfl⟩
        rw [← hex] at cE' hw2
        rw [← hdx] at cD' hw2
        have j1 : (x : Int) < (n : Int) := by omega
        have j0 : (0 : Int) ≤ (x : Int) := by omega
        have j2 : ((x : Int) == (n : Int)) = false := by rw [beq_eq_false_iff_ne]; omega
        have j3 : (x == n) = false := by rw [beq_eq_false_iff_ne]; exact hxn
        have HR := Lib.hid (And.intro hbr (And.intro hw2 (And.intro hq (And.intro hqK hlt))))
        clear hx hbr hw2 hwk hex hdx hbd hxn hq h2 hlt
        go_wp2_with fail
        go_quiet (fail)
        go_wp2_with fail
        have hq := HR.out.2.2
        refine ⟨⟨ex, max y dx, q + 1, by omega, rfl, ?_, by go_num, HR.out.2.1, below_drewN HR.out.1 _⟩, ?_⟩
        · refine congrArg (Value.int .i64) ?_
          split <;> omega
        · simp [intOf]; omega
      · obtain rfl : q = r := by omega
        rw [HW.out.2.1] at hwk
        cases hwk
        have hfin := hx.2.2.2.2.2.2
        clear hx hbr hbd hlt hq
        go_wp2_with fail
        exact ⟨rfl, ⟨_, rfl⟩, hfin⟩
end Go.Proofs.YtilbbemdinpjcaaGreat.T
