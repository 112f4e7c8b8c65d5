/-
  Asks of slices (44, 47): what is told, or nil where a term is thrown.
  Kids (19): the terms below the first node.
-/
import Derived.Test.YtieoiklgoeclaaaGreatTjn
import Derived.Test.YtieoiklgoeclaaaGreatTrj
import Derived.Test.YtieoiklgoeclaaaGreatTfo
import Derived.Test.YtieoiklgoeclaaaGreatTv
import Derived.Deep.AppendLies
namespace Go.Proofs.YtieoiklgoeclaaaGreat
open Go.RowKit

/-- A slice is told, of which this holds. -/
def SliceR (w : World) (R : Value → World → Prop) (e : Ending) (w' : World) : Prop := ∃ a n c, e = .returned (.slice a n c) ∧ R (.slice a n c) w' ∧ Below w.heap.size w w'

theorem catchTs_panicking (p q : Addr) (x y : Value) (u : TypeId) (pv : Value) (older : List PanicEntry) (w : World) (a1 : Option Addr) (n1 c1 : Nat) (hx : x = .slice a1 n1 c1) (hp : w.cell? p = some x) (hc : w.cell? q = some y) (hz : w.frozen? q = false) :
    CallsD Tryz.prog 72 #[.pointer (some p), .pointer (some q)] (.panicking ({ v := .iface u pv, recovered := false } :: older)) w fun e u' w' =>
      e = .returned (.tuple #[]) ∧ u' = .panicking ({ v := .iface u pv, recovered := true } :: older) ∧ w' = w.setCell q x := by
  subst hx
  refine callsD_of_wpS Tryz.func72 rfl fun c₀ cs hu => ?_
  apply wpS_seq
  apply wpS_region
  simp [wpOpsS, go_sem, recoverD, hu, Tryz.ntmps72, Exit.thenS]
  refine wpS_cond (t := true) (by simp [Act.eval, Array.replicate]) ?_
  simp only [if_true]
  apply wpS_region
  simp [wpOpsS, go_sem, hp, hc, hz, bodyPostS, results, Tryz.results72]
theorem catchTs_idle (p q : Addr) (w : World) :
    CallsD Tryz.prog 72 #[.pointer (some p), .pointer (some q)] .returning w fun e u' w' => e = .returned (.tuple #[]) ∧ u' = .returning ∧ w' = w := by
  refine callsD_of_wpS Tryz.func72 rfl fun c₀ cs hu => ?_
  apply wpS_seq
  apply wpS_region
  simp [wpOpsS, go_sem, recoverD, hu, Tryz.ntmps72, Exit.thenS]
  refine wpS_cond (t := false) (by simp [Act.eval, Array.replicate]) ?_
  simp only [Bool.false_eq_true, if_false]
  refine wpS_of_wp (wp_skip ?_)
  cases c₀
  simp_all [bodyPostS, results, Tryz.results72]
set_option maxRecDepth 100000 in
theorem askTs_ok (w : World) (K : Nat) (cap : Array Value) (R : Value → World → Prop)
    (hR : ∀ v V x, R v V → R v (V.setCell ⟨w.heap.size + 1, 0, none⟩ x))
    (hK : ∀ w : World, (callFunc K cap).run Tryz.prog w = .ok (.enter K cap) w) (hbe : ∀ w1, Below w.heap.size w w1 → w.heap.size + 2 ≤ w1.heap.size → Calls Tryz.prog K cap w1 fun e w2 => ∃ a n c, e = .returned (.slice a n c) ∧ R (.slice a n c) w2 ∧ Below w1.heap.size w1 w2) :
    Calls Tryz.prog 53 #[.slice none 0 0, .func (Fn.func K) #[] cap] w (SliceR w R) := by
  have hmf : ∀ (fn : Fn) (first cap : Array Value) (w : World), (Instr.makeFunc fn first cap).run Tryz.prog w = .ok (.func fn first cap) w := fun _ _ _ _ => rfl
  have hb : Below w.heap.size w ((w.alloc (.cells #[.slice none 0 0] 22)).alloc (.cells #[.slice none 0 0] 22)) := ((Below.refl _ _).alloc (Nat.le_refl _) _).alloc (by simp) _
  have hc2 := hbe _ hb (by simp)
  have HC := Lib.hid hc2
  have HB := Lib.hid hb
  have HR := Lib.hid hR
  clear hb hc2 hbe hR
  go_enter_defers Tryz.func53, Tryz.ntmps53
  go_wp2_with fail
  refine HC.out.mono ?_
  rintro e w2 ⟨a, n, c, rfl, hr, hb2⟩
  have hz2 : w.heap.size + 1 < w2.heap.size := by have := hb2.size; simp at this; omega
  obtain ⟨hcc, hff⟩ := bcell hb2
  have k1 : w2.cell? ⟨w.heap.size + 1, 0, none⟩ = some (.slice none 0 0) := by rw [hcc _ _ (by simp)]; simp [go_sem]
  have k2 : w2.frozen? ⟨w.heap.size + 1, 0, none⟩ = false := by rw [hff _ _ (by simp)]; simp [go_sem]
  have HB2 := Lib.hid (And.intro hb2 hr)
  clear hcc hff hb2 hr
  go_wp2_with fail
  refine leaves_cons (f := 72) (args := #[.pointer (some ⟨w.heap.size, 0, none⟩), .pointer (some ⟨w.heap.size + 1, 0, none⟩)]) (by simp) (by simp [go_sem]) ?_
  refine (catchTs_idle ⟨w.heap.size, 0, none⟩ ⟨w.heap.size + 1, 0, none⟩ _).mono ?_
  rintro e u' w'' ⟨rfl, rfl, hw⟩
  subst hw
  simp [Leaves, settle, results, Tryz.results53, go_sem, k1]
  exact ⟨a, n, c, rfl, HR.out _ _ _ HB2.out.2, (HB.out.trans (HB2.out.1.mono (by simp; omega))).setCell (by simp) _⟩
set_option maxRecDepth 100000 in
theorem askTs_thrown (w : World) (K : Nat) (cap : Array Value)
    (hK : ∀ w : World, (callFunc K cap).run Tryz.prog w = .ok (.enter K cap) w) (hbe : ∀ w1, Below w.heap.size w w1 → Calls Tryz.prog K cap w1 fun e w2 => ThrownT e ∧ Below w1.heap.size w1 w2) :
    Calls Tryz.prog 53 #[.slice none 0 0, .func (Fn.func K) #[] cap] w fun e w' => e = .returned (.slice none 0 0) ∧ Below w.heap.size w w' := by
  have hmf : ∀ (fn : Fn) (first cap : Array Value) (w : World), (Instr.makeFunc fn first cap).run Tryz.prog w = .ok (.func fn first cap) w := fun _ _ _ _ => rfl
  have hb : Below w.heap.size w ((w.alloc (.cells #[.slice none 0 0] 22)).alloc (.cells #[.slice none 0 0] 22)) := ((Below.refl _ _).alloc (Nat.le_refl _) _).alloc (by simp) _
  have hc2 := hbe _ hb
  have HC := Lib.hid hc2
  have HB := Lib.hid hb
  clear hb hc2 hbe
  go_enter_defers Tryz.func53, Tryz.ntmps53
  go_wp2_with fail
  refine HC.out.mono ?_
  rintro e w2 ⟨⟨v, rfl⟩, hb2⟩
  have hz2 : w.heap.size + 1 < w2.heap.size := by have := hb2.size; simp at this; omega
  obtain ⟨hcc, hff⟩ := bcell hb2
  have k0 : w2.cell? ⟨w.heap.size, 0, none⟩ = some (.slice none 0 0) := by rw [hcc _ _ (by simp; omega)]; simp [go_sem]
  have k1 : w2.cell? ⟨w.heap.size + 1, 0, none⟩ = some (.slice none 0 0) := by rw [hcc _ _ (by simp)]; simp [go_sem]
  have k2 : w2.frozen? ⟨w.heap.size + 1, 0, none⟩ = false := by rw [hff _ _ (by simp)]; simp [go_sem]
  have HB2 := Lib.hid hb2
  clear hcc hff hb2
  go_wp2_with fail
  refine leaves_cons (f := 72) (args := #[.pointer (some ⟨w.heap.size, 0, none⟩), .pointer (some ⟨w.heap.size + 1, 0, none⟩)]) (by simp) (by simp [go_sem]) ?_
  refine (catchTs_panicking ⟨w.heap.size, 0, none⟩ ⟨w.heap.size + 1, 0, none⟩ (.slice none 0 0) (.slice none 0 0) 71 _ [] _ none 0 0 rfl k0 k1 k2).mono ?_
  rintro e u' w'' ⟨rfl, rfl, hw⟩
  subst hw
  simp [Leaves, settle, results, Tryz.results53, go_sem, k1]
  exact ((HB.out.trans (HB2.out.mono (by simp; omega))).setCell (by simp) _)

theorem catchNs_panicking (p q : Addr) (x y : Value) (u : TypeId) (pv : Value) (older : List PanicEntry) (w : World) (a1 : Option Addr) (n1 c1 : Nat) (hx : x = .slice a1 n1 c1) (hp : w.cell? p = some x) (hc : w.cell? q = some y) (hz : w.frozen? q = false) :
    CallsD Tryz.prog 69 #[.pointer (some p), .pointer (some q)] (.panicking ({ v := .iface u pv, recovered := false } :: older)) w fun e u' w' =>
      e = .returned (.tuple #[]) ∧ u' = .panicking ({ v := .iface u pv, recovered := true } :: older) ∧ w' = w.setCell q x := by
  subst hx
  refine callsD_of_wpS Tryz.func69 rfl fun c₀ cs hu => ?_
  apply wpS_seq
  apply wpS_region
  simp [wpOpsS, go_sem, recoverD, hu, Tryz.ntmps69, Exit.thenS]
  refine wpS_cond (t := true) (by simp [Act.eval, Array.replicate]) ?_
  simp only [if_true]
  apply wpS_region
  simp [wpOpsS, go_sem, hp, hc, hz, bodyPostS, results, Tryz.results69]
theorem catchNs_idle (p q : Addr) (w : World) :
    CallsD Tryz.prog 69 #[.pointer (some p), .pointer (some q)] .returning w fun e u' w' => e = .returned (.tuple #[]) ∧ u' = .returning ∧ w' = w := by
  refine callsD_of_wpS Tryz.func69 rfl fun c₀ cs hu => ?_
  apply wpS_seq
  apply wpS_region
  simp [wpOpsS, go_sem, recoverD, hu, Tryz.ntmps69, Exit.thenS]
  refine wpS_cond (t := false) (by simp [Act.eval, Array.replicate]) ?_
  simp only [Bool.false_eq_true, if_false]
  refine wpS_of_wp (wp_skip ?_)
  cases c₀
  simp_all [bodyPostS, results, Tryz.results69]
set_option maxRecDepth 100000 in
theorem askNs_ok (w : World) (K : Nat) (cap : Array Value) (R : Value → World → Prop)
    (hR : ∀ v V x, R v V → R v (V.setCell ⟨w.heap.size + 1, 0, none⟩ x))
    (hK : ∀ w : World, (callFunc K cap).run Tryz.prog w = .ok (.enter K cap) w) (hbe : ∀ w1, Below w.heap.size w w1 → w.heap.size + 2 ≤ w1.heap.size → Calls Tryz.prog K cap w1 fun e w2 => ∃ a n c, e = .returned (.slice a n c) ∧ R (.slice a n c) w2 ∧ Below w1.heap.size w1 w2) :
    Calls Tryz.prog 48 #[.slice none 0 0, .func (Fn.func K) #[] cap] w (SliceR w R) := by
  have hmf : ∀ (fn : Fn) (first cap : Array Value) (w : World), (Instr.makeFunc fn first cap).run Tryz.prog w = .ok (.func fn first cap) w := fun _ _ _ _ => rfl
  have hb : Below w.heap.size w ((w.alloc (.cells #[.slice none 0 0] 25)).alloc (.cells #[.slice none 0 0] 25)) := ((Below.refl _ _).alloc (Nat.le_refl _) _).alloc (by simp) _
  have hc2 := hbe _ hb (by simp)
  have HC := Lib.hid hc2
  have HB := Lib.hid hb
  have HR := Lib.hid hR
  clear hb hc2 hbe hR
  go_enter_defers Tryz.func48, Tryz.ntmps48
  go_wp2_with fail
  refine HC.out.mono ?_
  rintro e w2 ⟨a, n, c, rfl, hr, hb2⟩
  have hz2 : w.heap.size + 1 < w2.heap.size := by have := hb2.size; simp at this; omega
  obtain ⟨hcc, hff⟩ := bcell hb2
  have k1 : w2.cell? ⟨w.heap.size + 1, 0, none⟩ = some (.slice none 0 0) := by rw [hcc _ _ (by simp)]; simp [go_sem]
  have k2 : w2.frozen? ⟨w.heap.size + 1, 0, none⟩ = false := by rw [hff _ _ (by simp)]; simp [go_sem]
  have HB2 := Lib.hid (And.intro hb2 hr)
  clear hcc hff hb2 hr
  go_wp2_with fail
  refine leaves_cons (f := 69) (args := #[.pointer (some ⟨w.heap.size, 0, none⟩), .pointer (some ⟨w.heap.size + 1, 0, none⟩)]) (by simp) (by simp [go_sem]) ?_
  refine (catchNs_idle ⟨w.heap.size, 0, none⟩ ⟨w.heap.size + 1, 0, none⟩ _).mono ?_
  rintro e u' w'' ⟨rfl, rfl, hw⟩
  subst hw
  simp [Leaves, settle, results, Tryz.results48, go_sem, k1]
  exact ⟨a, n, c, rfl, HR.out _ _ _ HB2.out.2, (HB.out.trans (HB2.out.1.mono (by simp; omega))).setCell (by simp) _⟩
set_option maxRecDepth 100000 in
theorem askNs_thrown (w : World) (K : Nat) (cap : Array Value)
    (hK : ∀ w : World, (callFunc K cap).run Tryz.prog w = .ok (.enter K cap) w) (hbe : ∀ w1, Below w.heap.size w w1 → Calls Tryz.prog K cap w1 fun e w2 => ThrownT e ∧ Below w1.heap.size w1 w2) :
    Calls Tryz.prog 48 #[.slice none 0 0, .func (Fn.func K) #[] cap] w fun e w' => e = .returned (.slice none 0 0) ∧ Below w.heap.size w w' := by
  have hmf : ∀ (fn : Fn) (first cap : Array Value) (w : World), (Instr.makeFunc fn first cap).run Tryz.prog w = .ok (.func fn first cap) w := fun _ _ _ _ => rfl
  have hb : Below w.heap.size w ((w.alloc (.cells #[.slice none 0 0] 25)).alloc (.cells #[.slice none 0 0] 25)) := ((Below.refl _ _).alloc (Nat.le_refl _) _).alloc (by simp) _
  have hc2 := hbe _ hb
  have HC := Lib.hid hc2
  have HB := Lib.hid hb
  clear hb hc2 hbe
  go_enter_defers Tryz.func48, Tryz.ntmps48
  go_wp2_with fail
  refine HC.out.mono ?_
  rintro e w2 ⟨⟨v, rfl⟩, hb2⟩
  have hz2 : w.heap.size + 1 < w2.heap.size := by have := hb2.size; simp at this; omega
  obtain ⟨hcc, hff⟩ := bcell hb2
  have k0 : w2.cell? ⟨w.heap.size, 0, none⟩ = some (.slice none 0 0) := by rw [hcc _ _ (by simp; omega)]; simp [go_sem]
  have k1 : w2.cell? ⟨w.heap.size + 1, 0, none⟩ = some (.slice none 0 0) := by rw [hcc _ _ (by simp)]; simp [go_sem]
  have k2 : w2.frozen? ⟨w.heap.size + 1, 0, none⟩ = false := by rw [hff _ _ (by simp)]; simp [go_sem]
  have HB2 := Lib.hid hb2
  clear hcc hff hb2
  go_wp2_with fail
  refine leaves_cons (f := 69) (args := #[.pointer (some ⟨w.heap.size, 0, none⟩), .pointer (some ⟨w.heap.size + 1, 0, none⟩)]) (by simp) (by simp [go_sem]) ?_
  refine (catchNs_panicking ⟨w.heap.size, 0, none⟩ ⟨w.heap.size + 1, 0, none⟩ (.slice none 0 0) (.slice none 0 0) 71 _ [] _ none 0 0 rfl k0 k1 k2).mono ?_
  rintro e u' w'' ⟨rfl, rfl, hw⟩
  subst hw
  simp [Leaves, settle, results, Tryz.results48, go_sem, k1]
  exact ((HB.out.trans (HB2.out.mono (by simp; omega))).setCell (by simp) _)
end Go.Proofs.YtieoiklgoeclaaaGreat
namespace Go.Proofs.YtieoiklgoeclaaaGreat
open Go.RowKit

/-- The trees of a forest, each as nodes. -/
def kidsFo : Fo → List (List Nd)
  | .nil => []
  | .cons n k r => (Fo.cons n k .nil).flat :: kidsFo r
theorem kidsFo_len : ∀ f : Fo, (kidsFo f).length = f.cnt
  | .nil => rfl
  | .cons n k r => by simp [kidsFo, Fo.cnt, kidsFo_len r]
theorem laid_good {f : Fo} {E D : Nat → Nat} (h : Laid (ksOf f.flat) f.flat.length E D) : GoodL f.flat E D 0 := by
  obtain ⟨E', D', h1, h2⟩ := lay_fo f.flat (fun i hi => by
    have := fo_at f [] i (by rw [Fo.flat_len] at hi; exact hi)
    simpa using this) _ (Nat.le_refl _)
  rw [h.2.1] at h1
  cases h1
  rw [Nat.sub_self] at h2
  exact h2
/-- Where a forest goes on, its first tree ends where it is told. -/
theorem good_step {xs : List Nd} {E D : Nat → Nat} (hg : GoodL xs E D 0) {p : Nat} {n : Nd} {k r : Fo} (h : xs.drop p = (Fo.cons n k r).flat) :
    p < xs.length ∧ p < E p ∧ E p ≤ xs.length ∧ sub xs p (E p) = (Fo.cons n k .nil).flat ∧ xs.drop (E p) = r.flat := by
  have hat : AtFo xs p n k r.flat := by unfold AtFo; rw [h]; rfl
  obtain ⟨e1, -⟩ := hg p (Nat.zero_le _) n k _ hat
  have hq : p < xs.length := by
    rcases Nat.lt_or_ge p xs.length with h1 | h1
    · exact h1
    · rw [List.drop_eq_nil_of_le h1] at h; simp [Fo.flat] at h
  have hl := congrArg List.length h
  rw [List.length_drop, Fo.flat_len] at hl
  simp only [Fo.len] at hl
  have hd : xs.drop (E p) = r.flat := by
    rw [e1, show p + 1 + k.len = p + (k.len + 1) by omega, ← List.drop_drop, h]
    simp only [Fo.flat, List.drop_succ_cons]
    exact List.drop_left' (Fo.flat_len k)
  refine ⟨hq, by omega, by omega, ?_, hd⟩
  unfold sub
  rw [h, e1, show p + 1 + k.len - p = k.len + 1 by omega]
  simp only [Fo.flat, List.append_nil, List.take_succ_cons]
  rw [List.take_left' (Fo.flat_len k)]
theorem info24z : (Tryz.prog.info? 27).map (fun i => (i.zero, i.size, i.bytes)) = some (some (.agg #[.slice none 0 0]), 1, 24) := by kernel_rfl
/-- Terms in memory of the call's own. -/
def OwnK (w : World) (B : Nat) (v : Value) (l : List TK) : Prop := w.ownsRow B 27 1 v l.length (l.map TK.v) ∧ ∀ t ∈ l, OwnT w B t.v t.xs
theorem ownsRow_kept {w w' : World} {B : Nat} {e : TypeId} {z n : Nat} {v : Value} {xs : List Value} (h : w.ownsRow B e z v n xs) (hb : Below w.heap.size w w') : w'.ownsRow B e z v n xs := by
  refine ⟨h.1, ?_⟩
  rcases h.2 with hn | ⟨g, cap, cur, h1, h2, h3, h4⟩
  · exact .inl hn
  · exact .inr ⟨g, cap, cur, h1, h2, (hb.block g (Array.getElem?_eq_some_iff.1 h3).1).trans h3, h4⟩
theorem OwnK.kept {w w' : World} {B : Nat} {v : Value} {l : List TK} (h : OwnK w B v l) (hb : Below w.heap.size w w') : OwnK w' B v l := ⟨ownsRow_kept h.1 hb, fun t ht => (h.2 t ht).kept hb⟩
theorem OwnK.setCell {w : World} {B : Nat} {v : Value} {l : List TK} (h : OwnK w B v l) (ad : Addr) (x : Value) (hk : ad.block < B) : OwnK (w.setCell ad x) B v l := by
  refine ⟨⟨h.1.1, ?_⟩, fun t ht => (h.2 t ht).setCell ad x (fun e => by have := (h.2 t ht).above e; omega)⟩
  rcases h.1.2 with hn | ⟨g, cap, cur, h1, h2, h3, h4⟩
  · exact .inl hn
  · exact .inr ⟨g, cap, cur, h1, h2, (heap_setCell_other w ad g x (by omega)).trans h3, h4⟩
theorem OwnK.mono {w : World} {B B' : Nat} {v : Value} {l : List TK} (h : OwnK w B v l) (hB : B' ≤ B) : OwnK w B' v l := by
  refine ⟨⟨h.1.1, ?_⟩, fun t ht => (h.2 t ht).mono hB⟩
  rcases h.1.2 with hn | ⟨g, cap, cur, h1, h2, h3⟩
  · exact .inl hn
  · exact .inr ⟨g, cap, cur, h1, by omega, h3⟩
theorem OwnK.isSlice {w : World} {B : Nat} {v : Value} {l : List TK} (h : OwnK w B v l) : ∃ a c, v = .slice a l.length c ∧ l.length ≤ c ∧ (0 < l.length → ∃ g, a = some ⟨g, 0, none⟩ ∧ g < w.heap.size ∧ ∀ j (hj : j < l.length), w.cell? ⟨g, j, none⟩ = some l[j].v) := by
  rcases h.1.2 with ⟨h1, h2⟩ | ⟨g, cap, cur, h1, h2, h3, h4, h5, h6, h7⟩
  · exact ⟨none, 0, by rw [h1, h2], by omega, fun h => by omega⟩
  · refine ⟨_, cap, h1, h4, fun _ => ⟨g, rfl, (Array.getElem?_eq_some_iff.1 h3).1, fun j hj => ?_⟩⟩
    have h8 : (l.map TK.v)[j]? = some l[j].v := by simp [hj]
    rw [← h7, List.getElem?_take, if_pos (by omega)] at h8
    exact Lies.cell (cs := cur) (t := 27) h3 j (by simpa using h8)
theorem OwnT.grown24 {w w' : World} {B B' : Nat} {v u : Value} {ys : List Nd} {n : Nat} {zs : List Value} (h : OwnT w B v ys) (hr : w.ownsRow B' 27 1 u n zs) (hg : w.grownBy w' u.ownBlock) : OwnT w' B v ys := by
  refine ⟨h.1, ?_⟩
  rcases h.2 with hn | ⟨g, cap, cur, h1, h2, h3, h4⟩
  · exact .inl hn
  · refine .inr ⟨g, cap, cur, h1, h2, (hg.block g (Array.getElem?_eq_some_iff.1 h3).1 (fun e => ?_)).trans h3, h4⟩
    rcases hr.2 with ⟨k1, -⟩ | ⟨g', cap', cur', k1, k2, k3, -⟩
    · rw [k1] at e; cases e
    · rw [k1] at e
      have e2 : g = g' := Option.some.inj e
      subst e2
      rw [h3] at k3
      simp at k3
theorem kids_bound {t : List Nd} {K : Fo} {x : Nd} (h : t = (Fo.cons x K .nil).flat) : K.cnt ≤ t.length ∧ ∀ r ∈ kidsFo K, ∀ y ∈ r, y ∈ t := by
  subst h
  refine ⟨?_, ?_⟩
  · have := K.cnt_le
    simp [Fo.flat, Fo.flat_len]; omega
  · have key : ∀ f : Fo, ∀ r ∈ kidsFo f, ∀ y ∈ r, y ∈ f.flat := by
      intro f
      induction f with
      | nil => intro r hr; cases hr
      | cons n k r _ ih =>
        intro q hq y hy
        simp only [kidsFo, List.mem_cons] at hq
        rcases hq with rfl | hq
        · simp only [Fo.flat, List.append_nil, List.mem_cons] at hy ⊢
          rcases hy with h | h
          · exact .inl h
          · exact .inr (List.mem_append_left _ h)
        · exact List.mem_cons_of_mem _ (List.mem_append_right _ (ih q hq y hy))
    intro r hr y hy
    simp only [Fo.flat, List.append_nil]
    exact List.mem_cons_of_mem _ (key K r hr y hy)
set_option maxRecDepth 100000 in
set_option maxHeartbeats 2000000 in
theorem clo45_ok (w : World) (p : Nat) (a : Option Addr) (nc : Nat) (xs : List Nd) (x0 : Nd) (K : Fo) (hxs : xs = (Fo.cons x0 K .nil).flat) (hp : w.cell? ⟨p, 0, none⟩ = some (.slice a xs.length nc)) (hpl : p < w.heap.size) (hk : TAt w a xs) (ht : TxtIn xs) (hc : xs.length ≤ nc) :
    Calls Tryz.prog 54 #[.pointer (some ⟨p, 0, none⟩)] w fun e w' => ∃ (va : Option Addr) (vn vc : Nat), e = .returned (.slice va vn vc) ∧ (∃ l : List TK, OwnK w' w.heap.size (.slice va vn vc) l ∧ l.map TK.xs = kidsFo K) ∧ Below w.heap.size w w' := by
  obtain ⟨E, D, hl, -⟩ := laid_fo (Fo.cons x0 K .nil) rfl
  rw [← hxs] at hl
  have hgood : GoodL xs E D 0 := by rw [hxs] at hl ⊢; exact laid_good hl
  have h := laid_ok a xs.length nc (ksOf xs) E D w hk.2.1 hk.ks hl
  obtain ⟨g, off, ea, hx⟩ := hk.1 hl.1
  subst ea
  have hends := ends_of hl
  have hkin := kidsIn_of hl hk.2.1
  have h1d : xs.drop 1 = K.flat := by rw [hxs]; simp [Fo.flat]
  obtain ⟨n, hn⟩ : ∃ n, n = xs.length := ⟨_, rfl⟩
  have hle : n ≤ 1000000 := by rw [hn]; exact hk.2.1
  rw [← hn] at hp h hc
  have hcn : K.cnt ≤ 1000000 := by have := (kids_bound hxs).1; omega
  have H := Lib.hid (And.intro h (And.intro hx (And.intro hn (And.intro hgood (And.intro h1d (And.intro ht (And.intro hk.2.2 (And.intro hcn (And.intro hl.1 (And.intro hp hpl))))))))))
  have q9 : (n : Int) ≤ 1000000 := by omega
  have hc' := hc
  clear h hx hn hgood h1d ht hk hcn hl hends hkin hxs hpl
  go_enter Tryz.func54, Tryz.ntmps54
  go_wp2_with fail
  refine H.out.1.mono ?_
  rintro e w2 ⟨gE, gD, rfl, b1, b2, z1, z2, hb⟩
  unfold layV
  have HB := Lib.hid (And.intro z1 hb)
  clear b1 b2 z1 z2 hb hp
  go_upto_region 2 with fail
  have hA : Lies (w2.alloc (.cells #[.slice (some ⟨g, off, none⟩) n nc, .slice (some ⟨gE, 0, none⟩) n n, .slice (some ⟨gD, 0, none⟩) n n] 55)) w2.heap.size #[.slice (some ⟨g, off, none⟩) n nc, .slice (some ⟨gE, 0, none⟩) n n, .slice (some ⟨gD, 0, none⟩) n n] 55 := Lies.new _ _ _
  have hb3 : Below w2.heap.size w2 (w2.alloc (.cells #[.slice (some ⟨g, off, none⟩) n nc, .slice (some ⟨gE, 0, none⟩) n n, .slice (some ⟨gD, 0, none⟩) n n] 55)) := (Below.refl _ _).alloc (Nat.le_refl _) _
  generalize w2.alloc (.cells #[.slice (some ⟨g, off, none⟩) n nc, .slice (some ⟨gE, 0, none⟩) n n, .slice (some ⟨gD, 0, none⟩) n n] 55) = W3 at hA hb3 ⊢
  have hbw := HB.out.2.trans (hb3.mono HB.out.2.size)
  have hS : ∀ V, Below W3.heap.size W3 V → V.cell? ⟨w2.heap.size, 0, none⟩ = some (.slice (some ⟨g, off, none⟩) n nc) ∧ V.cell? ⟨w2.heap.size, 1, none⟩ = some (.slice (some ⟨gE, 0, none⟩) n n) ∧ V.cell? ⟨w2.heap.size, 2, none⟩ = some (.slice (some ⟨gD, 0, none⟩) n n) ∧ V.cell? ⟨p, 0, none⟩ = some (.slice (some ⟨g, off, none⟩) n nc) ∧ Lies V gE (iv n E) 3 ∧ NAt V g off xs := fun V hV => by
    have a1 := hA.below hV hA.lt
    have hV0 := hbw.trans (hV.mono hbw.size)
    exact ⟨a1.cell 0 rfl, a1.cell 1 rfl, a1.cell 2 rfl, (hV0.cell (p := ⟨p, 0, none⟩) H.out.2.2.2.2.2.2.2.2.2.2).trans H.out.2.2.2.2.2.2.2.2.2.1, (HB.out.1.below hb3 HB.out.1.lt).below hV (Nat.lt_of_lt_of_le HB.out.1.lt hb3.size), H.out.2.1.below hV0 H.out.2.1.1⟩
  have HS := Lib.hid hS
  have HW := Lib.hid hbw
  clear hS hbw hA hb3
  go_wp2_with fail
  go_loopw [1, 3] (fun v i W => ∃ (r : Fo) (l : List TK) (pp : Nat) (va : Option Addr) (vn vc : Nat), v = .slice va vn vc ∧ i = .int .i64 pp ∧ pp ≤ n ∧ xs.drop pp = r.flat ∧ l.map TK.xs ++ kidsFo r = kidsFo K ∧ OwnK W W3.heap.size (.slice va vn vc) l ∧ Below W3.heap.size W3 W) (fun _ i _ => (n - intOf i).toNat)
  case atStart => exact ⟨K, [], 1, none, 0, 0, rfl, by go_num, by have := H.out.2.2.2.2.2.2.2.2.1; have := H.out.2.2.1; omega, H.out.2.2.2.2.1, rfl, ⟨World.ownsRow_nil _ _ _ _, fun t ht => by cases ht⟩, Below.refl _ _⟩
  case round =>
    obtain ⟨r, l, pp, va, vn, vc, rfl, rfl, hpp, hdr, hkl, hown, hbr⟩ := hrel
    cases r with
    | nil =>
      have hge : ¬ pp < n := fun h => by
        have := congrArg List.length hdr
        rw [List.length_drop, ← H.out.2.2.1] at this
        simp only [Fo.flat, List.length_nil] at this
        omega
      have q1 : ¬ (pp : Int) < (n : Int) := by omega
      obtain ⟨-, -, -, c3, -, -⟩ := HS.out _ hbr
      have hkl2 : l.map TK.xs = kidsFo K := by rw [← hkl]; simp [kidsFo]
      have HR := Lib.hid (And.intro hown (And.intro hbr hkl2))
      clear hown hbr hkl hkl2 hdr hge
      go_wp2_with fail
      go_ret
      exact ⟨va, vn, vc, rfl, ⟨l, HR.out.1.mono HW.out.size, HR.out.2.2⟩, HW.out.trans (HR.out.2.1.mono HW.out.size)⟩
    | cons n' k' r' =>
      obtain ⟨s1, s2, s3, s4, s5⟩ := good_step H.out.2.2.2.1 hdr
      rw [← H.out.2.2.1] at s1 s3
      have q0 : (0 : Int) ≤ (pp : Int) := by omega
      have q1 : (pp : Int) < (n : Int) := by omega
      obtain ⟨e0, e1, e2, c3, hE, hN⟩ := HS.out _ hbr
      have hbl := below_any wr g off n nc gE gD pp E hE s1 (by omega) s3 hc'
      unfold layV at hbl
      obtain ⟨x1, hx1⟩ : ∃ x, x = E pp := ⟨_, rfl⟩
      rw [← hx1] at s2 s3 s4 s5 hbl
      have hlen : (sub xs pp x1).length = x1 - pp := sub_len (by rw [← H.out.2.2.1]; exact s3)
      have hsub : ∀ y ∈ sub xs pp x1, y ∈ xs := fun y hy => List.drop_subset _ _ (List.take_subset _ _ hy)
      have htk : ∀ V, Below W3.heap.size W3 V → TAt V (some ⟨g, off + pp * 5, none⟩) (sub xs pp x1) := fun V hV =>
        ⟨fun _ => ⟨g, off + pp * 5, rfl, (HS.out V hV).2.2.2.2.2.sub pp x1 (by rw [← H.out.2.2.1]; exact s3)⟩, by rw [hlen]; omega, fun y hy => H.out.2.2.2.2.2.2.1 y (hsub y hy)⟩
      have htt : TxtIn (sub xs pp x1) := fun y hy => H.out.2.2.2.2.2.1 y (hsub y hy)
      have hstep : (l.map TK.xs ++ [sub xs pp x1]) ++ kidsFo r' = kidsFo K := by
        rw [← hkl, s4]
        simp [kidsFo]
      have hll : l.length + 1 ≤ 1000000 := by
        have := congrArg List.length hkl
        rw [List.length_append, List.length_map, kidsFo_len, kidsFo_len] at this
        simp only [Fo.cnt] at this
        have := H.out.2.2.2.2.2.2.2.1
        omega
      have HR := Lib.hid (And.intro hown (And.intro hbr (And.intro hbl (And.intro hlen (And.intro htk (And.intro htt (And.intro hstep (And.intro hll (And.intro s5 (And.intro s2 (And.intro s3 (And.intro s1 hx1))))))))))))
      clear hown hbr hbl hlen htk htt hstep hll s1 s2 s3 s4 s5 hkl hdr hE hN hsub hx1
      go_wp2_with fail
      refine HR.out.2.2.1.mono ?_
      rintro e w5 ⟨rfl, hb5⟩
      have h35 := HR.out.2.1.trans (hb5.mono HR.out.2.1.size)
      have hown5 := own_any w5 (some ⟨g, off + pp * 5, none⟩) (nc - pp) (sub xs pp x1) (HR.out.2.2.2.2.1 w5 h35) HR.out.2.2.2.2.2.1
      rw [HR.out.2.2.2.1] at hown5
      have HO5 := Lib.hid (And.intro hown5 (And.intro h35 (HR.out.1.kept hb5)))
      clear hown5 h35 hb5 e0 e1 e2 c3
      go_wp2_with fail
      refine HO5.out.1.mono ?_
      rintro e w6 ⟨v6, rfl, ho6, hb6⟩
      obtain ⟨ka, kn, kc, rfl⟩ := ho6.isSlice
      have h36 := HO5.out.2.1.trans (hb6.mono HO5.out.2.1.size)
      have hkn : kn = (sub xs pp x1).length := by
        rcases ho6.form with ⟨h1, h2⟩ | ⟨gg, cap, h1, -⟩
        · cases h1; rw [h2]; rfl
        · cases h1; rfl
      have hoK := HO5.out.2.2.kept hb6
      have ha7 : Below w6.heap.size w6 (w6.alloc (.cells #[.slice ka kn kc] 27)) := (Below.refl _ _).alloc (Nat.le_refl _) _
      have hoK7 := hoK.kept ha7
      have ho7 := (ho6.mono HO5.out.2.1.size).kept ha7
      have h37 : Below W3.heap.size W3 (w6.alloc (.cells #[.slice ka kn kc] 27)) := h36.trans (ha7.mono h36.size)
      have hA7 := Lies.new w6 #[.slice ka kn kc] 27
      have HX := Lib.hid (And.intro hoK7 (And.intro ho7 (And.intro h37 (And.intro hA7 hkn))))
      clear ho6 hb6 h36 hoK ha7 hoK7 ho7 h37 hA7 hkn
      obtain ⟨i0, hi0, hz0, hz1, hz2⟩ := info_parts info24z
      obtain ⟨cc, hcc1, -, -⟩ := HX.out.1.isSlice
      have hll := HR.out.2.2.2.2.2.2.2.1
      go_wp2_with (at_builtin; go_must (refine wpList_append_own_at _ rfl _ _ 22 rfl W3.heap.size 27 i0 (.agg #[.slice none 0 0]) 1 24 Tryz.underlying22 hi0 hz0 hz1 hz2 rfl (by decide) _ l.length (l.map TK.v) rfl HX.out.1.1 ⟨w6.heap.size, 0, none⟩ 1 1 [.slice ka kn kc] rfl rfl (World.news_of_block (cs := #[.slice ka kn kc]) (t := 27) (fr := (0, 0)) HX.out.2.2.2.1) (by simp [Value.oneCell']) (by unfold maxLen; omega) (by omega) HX.out.2.2.1.size ?_; intro v' w8 hown8 hgrow8 _ hat8; have h38 : Below W3.heap.size W3 w8 := HX.out.2.2.1.grown hgrow8 HX.out.2.2.1.size (fun k e => (HX.out.1.1.lt k e).1); obtain ⟨e0, e1, e2, c3, hE, hN⟩ := HS.out w8 h38; have ce : w8.cell? ⟨gE, pp, none⟩ = some (.int .i64 x1) := (by rw [HR.out.2.2.2.2.2.2.2.2.2.2.2.2]; exact hE.cell pp (iv_get n E pp HR.out.2.2.2.2.2.2.2.2.2.2.2.1)); clear hE hN))
      have hl2 : (l.map TK.v) ++ [Value.slice ka kn kc] = ((l ++ [(⟨ka, kc, sub xs pp x1⟩ : TK)]).map TK.v) := by
        rw [HX.out.2.2.2.2]
        simp [TK.v]
      rw [hl2] at hown8
      have hown9 : OwnK w8 W3.heap.size v' (l ++ [(⟨ka, kc, sub xs pp x1⟩ : TK)]) := by
        refine ⟨by rw [List.length_append]; exact hown8, fun t ht => ?_⟩
        have hlift : ∀ {v : Value} {ys : List Nd}, OwnT (w6.alloc (.cells #[.slice ka kn kc] 27)) W3.heap.size v ys → OwnT w8 W3.heap.size v ys := fun {v} {ys} h => h.grown24 HX.out.1.1 hgrow8
        rcases List.mem_append.1 ht with h | h
        · exact hlift (HX.out.1.2 t h)
        · obtain rfl := List.mem_singleton.1 h
          have := hlift HX.out.2.1
          unfold TK.v
          rw [← HX.out.2.2.2.2]
          exact this
      obtain ⟨va9, vc9, hv9, -⟩ := hown9.isSlice
      subst hv9
      refine ⟨⟨r', _, x1, va9, _, vc9, rfl, rfl, HR.out.2.2.2.2.2.2.2.2.2.2.1, HR.out.2.2.2.2.2.2.2.2.1, ?_, hown9, h38⟩, ?_⟩
      · rw [List.map_append]
        exact HR.out.2.2.2.2.2.2.1
      · have := HR.out.2.2.2.2.2.2.2.2.2.1
        have := HR.out.2.2.2.2.2.2.2.2.2.2.1
        simp [intOf]; omega
end Go.Proofs.YtieoiklgoeclaaaGreat
