/-
  append(append([]Node{}, xs...), n) into a fresh box, in whatever order.
-/
import Derived.Test.YtilbbemdinpjcaaGreatJTTawk
namespace Go.Proofs.YtilbbemdinpjcaaGreat.T
open Go.RowKit

/-- A frame with some slots said. -/
def putF (a : Act) : List Tmp → (Tmp → Value) → Act
  | [], _ => a
  | s :: l, f => (putF a l f).put (some s) (f s)
theorem putF_size (a : Act) (f : Tmp → Value) : ∀ l : List Tmp, (putF a l f).tmps.size = a.tmps.size
  | [] => rfl
  | s :: l => by rw [putF, put_size, putF_size a f l]
theorem putF_eval (a : Act) (f : Tmp → Value) (s : Tmp) (h : s < a.tmps.size) : ∀ l : List Tmp, s ∈ l → (putF a l f).eval (.tmp s) = f s
  | [], hs => by cases hs
  | t :: l, hs => by
    by_cases e : t = s
    · subst e
      exact eval_put_same _ _ _ (by rw [putF_size]; exact h)
    · rw [putF, eval_put_other _ _ _ _ e]
      exact putF_eval a f s h l (by rcases List.mem_cons.1 hs with h1 | h1; exact absurd h1.symm e; exact h1)
theorem putF_none (a : Act) (f : Tmp → Value) (s : Tmp) (v : Value) : ∀ l : List Tmp, s ∉ l → putF a l (fun t => if t = s then v else f t) = putF a l f
  | [], _ => rfl
  | t :: l, h => by
    have h1 : ¬ t = s := fun e => h (by rw [e]; simp)
    rw [putF, putF, if_neg h1, putF_none a f s v l (fun h2 => h (List.mem_cons_of_mem _ h2))]
theorem putF_put (a : Act) (f : Tmp → Value) (s : Tmp) (v : Value) : ∀ l : List Tmp, l.Nodup → s ∈ l → (putF a l f).put (some s) v = putF a l (fun t => if t = s then v else f t)
  | [], _, h => by cases h
  | t :: l, hn, h => by
    have hn2 := List.nodup_cons.1 hn
    by_cases e : t = s
    · subst e
      rw [putF, put_twice, putF, if_pos rfl, putF_none a f t v l hn2.1]
    · rw [putF, put_turn _ _ _ _ _ e, putF_put a f s v l hn2.2 (by rcases List.mem_cons.1 h with h1 | h1; exact absurd h1.symm e; exact h1), putF, if_neg e]
theorem put_none (a : Act) (v : Value) : a.put none v = a := rfl
theorem putF_self (a : Act) : ∀ l : List Tmp, putF a l (fun t => a.tmps.getD t undef) = a
  | [] => rfl
  | s :: l => by rw [putF, putF_self a l, put_self]
theorem alloc24 (w : World) : (Instr.alloc 24 true (.tuple #[])).run Tryz.prog w = .ok (.pointer (some ⟨w.heap.size, 0, none⟩)) (w.alloc (.cells #[.slice none 0 0] 24)) := by kernel_rfl
theorem wp_alloc24 {Q : Exit → Act → World → Prop} {o : Oper} {a : Act} {w : World} {K : Act → World → Prop} (ho : o.op = .alloc 24) (h : K (a.put o.dst (.pointer (some ⟨w.heap.size, 0, none⟩))) (w.alloc (.cells #[.slice none 0 0] 24))) : o.wp Tryz.prog a w K Q := by
  unfold Oper.wp
  simp [execOp, ho, alloc24, Result.andThen]
  exact h
theorem OwnT.setRow24 {w : World} {B : Nat} {v : Value} {xs : List Nd} (h : OwnT w B v xs) {k : Nat} {cs : Array Value} (hk : Lies w k cs 24) (cs' : Array Value) : OwnT (w.setRow k cs') B v xs := by
  refine ⟨h.1, ?_⟩
  rcases h.2 with hn | ⟨g, cap, cur, h1, h2, h3, h4⟩
  · exact .inl hn
  · exact .inr ⟨g, cap, cur, h1, h2, (setRow_other w k g cs' (Lies.apart (t := 72) (u := 24) h3 hk (by decide))).trans h3, h4⟩
theorem OwnT.alloc {w : World} {B : Nat} {v : Value} {xs : List Nd} (h : OwnT w B v xs) (o : Obj) : OwnT (w.alloc o) B v xs := h.kept ((Below.refl _ _).alloc (Nat.le_refl _) _)
structure JIdx where
  b1 : Nat
  c1 : Nat
  b2 : Nat
  c2 : Nat
  a1 : Nat
  a2 : Nat
  d1 : Nat
  d2 : Nat
def jRow (x : JIdx) (r : List Nat) (b1 c1 b2 c2 a1 a2 d1 d2 : Bool) : Bool :=
  r.all (fun i => (i == x.b1 && !b1) || (i == x.c1 && !c1 && b1) || (i == x.b2 && !b2) || (i == x.c2 && !c2 && b2 && c1) || (i == x.a1 && !a1) || (i == x.a2 && !a2) || (i == x.d1 && !d1 && c1 && c2 && a1 && a2) || (i == x.d2 && !d2 && d1 && c1 && c2 && a1 && a2)) &&
    (!r.isEmpty || (b1 && c1 && b2 && c2 && a1 && a2 && d1 && d2))
abbrev JL := Bool → Bool → Bool → Bool → Bool → Bool → Bool → Bool → Array Bool
def jReadyB (x : JIdx) (L : JL) (ops : Array Oper) : Bool :=
  [false, true].all fun b1 => [false, true].all fun c1 => [false, true].all fun b2 => [false, true].all fun c2 => [false, true].all fun a1 => [false, true].all fun a2 => [false, true].all fun d1 => [false, true].all fun d2 => jRow x (Region.ready .any ops (L b1 c1 b2 c2 a1 a2 d1 d2)) b1 c1 b2 c2 a1 a2 d1 d2
theorem j_ready {x : JIdx} {L : JL} {ops : Array Oper} (h : jReadyB x L ops = true) (b1 c1 b2 c2 a1 a2 d1 d2 : Bool) :
    (∀ i ∈ Region.ready .any ops (L b1 c1 b2 c2 a1 a2 d1 d2), i = x.b1 ∧ b1 = false ∨ i = x.c1 ∧ c1 = false ∧ b1 = true ∨ i = x.b2 ∧ b2 = false ∨ i = x.c2 ∧ c2 = false ∧ b2 = true ∧ c1 = true ∨ i = x.a1 ∧ a1 = false ∨ i = x.a2 ∧ a2 = false ∨
      i = x.d1 ∧ d1 = false ∧ c1 = true ∧ c2 = true ∧ a1 = true ∧ a2 = true ∨ i = x.d2 ∧ d2 = false ∧ d1 = true ∧ c1 = true ∧ c2 = true ∧ a1 = true ∧ a2 = true) ∧
    (Region.ready .any ops (L b1 c1 b2 c2 a1 a2 d1 d2) = [] → b1 = true ∧ c1 = true ∧ b2 = true ∧ c2 = true ∧ a1 = true ∧ a2 = true ∧ d1 = true ∧ d2 = true) := by
  have h2 := all_two (all_two (all_two (all_two (all_two (all_two (all_two (all_two h b1) c1) b2) c2) a1) a2) d1) d2
  generalize Region.ready .any ops (L b1 c1 b2 c2 a1 a2 d1 d2) = r at h2 ⊢
  unfold jRow at h2
  rw [Bool.and_eq_true, List.all_eq_true] at h2
  refine ⟨fun i hi => ?_, fun e => ?_⟩
  · have := h2.1 i hi
    simp only [Bool.or_eq_true, Bool.and_eq_true, beq_iff_eq, Bool.not_eq_true'] at this
    rcases this with ((((((h | h) | h) | h) | h) | h) | h) | h
    · exact .inl h
    · exact .inr (.inl ⟨h.1.1, h.1.2, h.2⟩)
    · exact .inr (.inr (.inl h))
    · exact .inr (.inr (.inr (.inl ⟨h.1.1.1, h.1.1.2, h.1.2, h.2⟩)))
    · exact .inr (.inr (.inr (.inr (.inl h))))
    · exact .inr (.inr (.inr (.inr (.inr (.inl h)))))
    · exact .inr (.inr (.inr (.inr (.inr (.inr (.inl ⟨h.1.1.1.1.1, h.1.1.1.1.2, h.1.1.1.2, h.1.1.2, h.1.2, h.2⟩))))))
    · exact .inr (.inr (.inr (.inr (.inr (.inr (.inr ⟨h.1.1.1.1.1.1, h.1.1.1.1.1.2, h.1.1.1.1.2, h.1.1.1.2, h.1.1.2, h.1.2, h.2⟩))))))
  · have := h2.2
    subst e
    simp only [List.isEmpty_nil, Bool.not_true, Bool.false_or, Bool.and_eq_true] at this
    exact ⟨this.1.1.1.1.1.1.1, this.1.1.1.1.1.1.2, this.1.1.1.1.1.2, this.1.1.1.1.2, this.1.1.1.2, this.1.1.2, this.1.2, this.2⟩
/-- What has come up of: two rows made, two calls, two blocks, two stores. -/
def JI (w0 : World) (R1 R2 : Array Value) (m1 m2 : Nat) (p q : List Nd) (L : JL) (a0 : Act) (s1 r1 s2 r2 p1 p2 : Tmp) (l : Array Bool) (a : Act) (w : World) : Prop :=
  ∃ b1 c1 b2 c2 a1 a2 d1 d2 : Bool, l = L b1 c1 b2 c2 a1 a2 d1 d2 ∧ ∃ (f : Tmp → Value) (g1 g2 : Nat) (v1 v2 : Value), a = putF a0 [s1, r1, s2, r2, p1, p2] f ∧
    (b1 = true → c1 = false → ∃ g, f s1 = .slice (some ⟨g, 0, none⟩) m1 m1 ∧ Lies w g R1 24) ∧
    (b2 = true → c2 = false → ∃ g, f s2 = .slice (some ⟨g, 0, none⟩) m2 m2 ∧ Lies w g R2 24) ∧
    (c1 = true → b1 = true ∧ f r1 = .agg #[v1] ∧ v1.oneCell' = true ∧ OwnT w 0 v1 p) ∧
    (c2 = true → b2 = true ∧ c1 = true ∧ f r2 = .agg #[v2] ∧ v2.oneCell' = true ∧ OwnT w 0 v2 q) ∧
    (a1 = true → f p1 = .pointer (some ⟨g1, 0, none⟩) ∧ w0.heap.size ≤ g1 ∧ Lies w g1 (if d1 then #[v1] else #[.slice none 0 0]) 24) ∧
    (a2 = true → f p2 = .pointer (some ⟨g2, 0, none⟩) ∧ w0.heap.size ≤ g2 ∧ Lies w g2 (if d2 then #[v2] else #[.slice none 0 0]) 24) ∧
    (a1 = true → a2 = true → g1 ≠ g2) ∧ (d1 = true → c1 = true ∧ c2 = true ∧ a1 = true ∧ a2 = true) ∧ (d2 = true → d1 = true) ∧ Below w0.heap.size w0 w
end Go.Proofs.YtilbbemdinpjcaaGreat.T
namespace Go.Proofs.YtilbbemdinpjcaaGreat.T
open Go.RowKit

theorem append_T_run {o : Oper} {a : Act} {w : World} (s x : Operand)
    (ho : o.op = .call { callee := .builtin .append, args := #[s, x], argTypes := #[22, 22] }) (B : Nat) (v bv : Value) (ys xs : List Nd) (hs : a.eval s = v) (hown : OwnT w B v ys) (hx : a.eval x = bv) (hsrc : SrcT w bv xs) (hlen : ys.length + xs.length ≤ 1000000) (hB : B ≤ w.heap.size) :
    ∃ v' w', (execOp a.eval o).run Tryz.prog w = .ok (.value v') w' ∧ OwnT w' B v' (ys ++ xs) ∧ w.grownBy w' v.ownBlock ∧ (v'.ownBlock = v.ownBlock ∨ v'.ownBlock = some w.heap.size) := by
  obtain ⟨i0, hi0, hz0, hz1, hz2⟩ := info_parts info32
  have key : ∃ v' w', (Builtin.append_ #[22, 22] o.type #[v, bv]).run Tryz.prog w = .ok v' w' ∧ OwnT w' B v' (ys ++ xs) ∧ w.grownBy w' v.ownBlock ∧ (v'.ownBlock = v.ownBlock ∨ v'.ownBlock = some w.heap.size) := by
    rcases hsrc with ⟨rfl, rfl⟩ | ⟨ad, c, rfl, hsrc⟩
    · refine ⟨v, w, run_append_owned_none (P := Tryz.prog) (w := w) B 22 o.type 72 i0 5 Tryz.underlying22 hi0 v ys.length _ hown, by rw [List.append_nil]; exact hown, grownT_refl w _, .inl rfl⟩
    · obtain ⟨v', w', hr, h2, h3, _, h5⟩ := run_append_own_at (P := Tryz.prog) w B 22 o.type 72 i0 (.agg #[.int .i64 0, .int .i64 0, .int .u64 0, .string ⟨#[]⟩, .int .i64 0]) 5 48 Tryz.underlying22 hi0 hz0 hz1 hz2 rfl (by decide) v ys.length _ hown ad xs.length c (cellsL xs) (cellsL_len xs) hsrc (cellsL_one xs) (by unfold maxLen; omega) (by omega) hB
      exact ⟨v', w', hr, by unfold OwnT; rw [List.length_append, cellsL_app]; exact h2, h3, h5⟩
  obtain ⟨v', w', hr, h2, h3, h5⟩ := key
  obtain ⟨a', n', c', rfl⟩ := h2.isSlice
  refine ⟨_, w', ?_, h2, h3, h5⟩
  unfold execOp
  simp only [ho, resolve, invoke, builtin, Sem.run_bind, Sem.run_pure, Result.andThen_ok, List.map_toArray, List.map_cons, List.map_nil, hs, hx, hr]
theorem OwnT.far {w : World} {B : Nat} {v : Value} {xs : List Nd} (h : OwnT w B v xs) {k : Nat} {cs : Array Value} (hk : Lies w k cs 24) : some k ≠ v.ownBlock := by
  rcases h.2 with ⟨h1, -⟩ | ⟨g, cap, cur, h1, h2, h3, -⟩
  · rw [h1]; exact fun e => by cases e
  · rw [h1]
    intro e
    have : k = g := Option.some.inj e
    exact Lies.apart (t := 72) (u := 24) h3 hk (by decide) this.symm
theorem OwnT.fresh {w : World} {B : Nat} {v : Value} {xs : List Nd} (h : OwnT w B v xs) : v.ownBlock ≠ some w.heap.size := by
  rcases h.2 with ⟨h1, -⟩ | ⟨g, cap, cur, h1, h2, h3, -⟩
  · rw [h1]; exact fun e => by cases e
  · rw [h1]
    intro e
    have e2 : g = w.heap.size := Option.some.inj e
    have := (Array.getElem?_eq_some_iff.1 h3).1
    omega
theorem own_nil (w : World) (B : Nat) (hB : B ≤ w.heap.size) : OwnT (w.alloc (.cells #[] 72)) B (.slice (some ⟨w.heap.size, 0, none⟩) 0 0) [] :=
  ⟨rfl, .inr ⟨w.heap.size, 0, #[], rfl, hB, Lies.new w #[] 72, Nat.le_refl _, by unfold maxLen; omega, rfl, rfl⟩⟩
theorem src_node {w : World} {g : Nat} {n : Nd} (h : Lies w g n.cells 72) : SrcT w (.slice (some ⟨g, 0, none⟩) 1 1) [n] :=
  .inr ⟨⟨g, 0, none⟩, 1, rfl, fun j u hu => by
    have : n.cells[j]? = some u := by
      rw [cellsL_cons] at hu
      simpa [cellsL] using hu
    have h2 := h.cell j this
    have e : (⟨g, 0, none⟩ : Addr).add j = ⟨g, j, none⟩ := by cases j <;> simp [Addr.add]
    rw [e]; exact h2⟩
theorem grown_lies {w w' : World} {v : Value} {g : Nat} {cs : Array Value} {t : TypeId} (hg : w.grownBy w' v.ownBlock) (h : Lies w g cs t) (hn : some g ≠ v.ownBlock) : Lies w' g cs t := (hg.block g h.lt hn).trans h
abbrev AL := Bool → Bool → Bool → Bool → Bool → Bool → Bool → Array Bool
def apRow (r : List Nat) (b c e f g a d : Bool) : Bool :=
  r.all (fun i => (i == 0 && !b) || (i == 3 && !c && b) || (i == 5 && !e) || (i == 6 && !f && c && e) || (i == 7 && !g && f) || (i == 8 && !a) || (i == 9 && !d && g && a)) && (!r.isEmpty || (b && c && e && f && g && a && d))
def apReadyB (L : AL) (ops : Array Oper) : Bool :=
  [false, true].all fun b => [false, true].all fun c => [false, true].all fun e => [false, true].all fun f => [false, true].all fun g => [false, true].all fun a => [false, true].all fun d => apRow (Region.ready .any ops (L b c e f g a d)) b c e f g a d
theorem ap_ready {L : AL} {ops : Array Oper} (h : apReadyB L ops = true) (b c e f g a d : Bool) :
    (∀ i ∈ Region.ready .any ops (L b c e f g a d), i = 0 ∧ b = false ∨ i = 3 ∧ c = false ∧ b = true ∨ i = 5 ∧ e = false ∨ i = 6 ∧ f = false ∧ c = true ∧ e = true ∨ i = 7 ∧ g = false ∧ f = true ∨ i = 8 ∧ a = false ∨ i = 9 ∧ d = false ∧ g = true ∧ a = true) ∧
    (Region.ready .any ops (L b c e f g a d) = [] → b = true ∧ c = true ∧ e = true ∧ f = true ∧ g = true ∧ a = true ∧ d = true) := by
  have h2 := all_two (all_two (all_two (all_two (all_two (all_two (all_two h b) c) e) f) g) a) d
  generalize Region.ready .any ops (L b c e f g a d) = r at h2 ⊢
  unfold apRow at h2
  rw [Bool.and_eq_true, List.all_eq_true] at h2
  refine ⟨fun i hi => ?_, fun e => ?_⟩
  · have := h2.1 i hi
    simp only [Bool.or_eq_true, Bool.and_eq_true, beq_iff_eq, Bool.not_eq_true'] at this
    rcases this with (((((h | h) | h) | h) | h) | h) | h
    · exact .inl h
    · exact .inr (.inl ⟨h.1.1, h.1.2, h.2⟩)
    · exact .inr (.inr (.inl h))
    · exact .inr (.inr (.inr (.inl ⟨h.1.1.1, h.1.1.2, h.1.2, h.2⟩)))
    · exact .inr (.inr (.inr (.inr (.inl ⟨h.1.1, h.1.2, h.2⟩))))
    · exact .inr (.inr (.inr (.inr (.inr (.inl h)))))
    · exact .inr (.inr (.inr (.inr (.inr (.inr ⟨h.1.1.1, h.1.1.2, h.1.2, h.2⟩)))))
  · have := h2.2
    subst e
    simp only [List.isEmpty_nil, Bool.not_true, Bool.false_or, Bool.and_eq_true] at this
    exact ⟨this.1.1.1.1.1.1, this.1.1.1.1.1.2, this.1.1.1.1.2, this.1.1.1.2, this.1.1.2, this.1.2, this.2⟩
/-- What has come up. -/
def AI (w0 : World) (nd : Nd) (xs : List Nd) (L : AL) (a0 : Act) (s0 r1 s5 r2 t7 p : Tmp) (l : Array Bool) (a : Act) (w : World) : Prop :=
  ∃ b c e f g a' d : Bool, l = L b c e f g a' d ∧ ∃ (F : Tmp → Value) (gp : Nat), a = putF a0 [s0, r1, s5, r2, t7, p] F ∧
    (b = true → c = false → OwnT w w0.heap.size (F s0) []) ∧
    (c = true → f = false → OwnT w w0.heap.size (F r1) xs) ∧
    (e = true → f = false → ∃ g5, F s5 = .slice (some ⟨g5, 0, none⟩) 1 1 ∧ Lies w g5 nd.cells 72 ∧ (b = true → c = false → some g5 ≠ (F s0).ownBlock) ∧ (c = true → some g5 ≠ (F r1).ownBlock)) ∧
    (f = true → OwnT w w0.heap.size (F r2) (xs ++ [nd])) ∧
    (g = true → F t7 = .agg #[F r2]) ∧
    (a' = true → F p = .pointer (some ⟨gp, 0, none⟩) ∧ w0.heap.size ≤ gp ∧ Lies w gp (if d then #[F r2] else #[.slice none 0 0]) 24) ∧
    (c = true → b = true) ∧ (f = true → c = true ∧ e = true) ∧ (g = true → f = true) ∧ (d = true → g = true ∧ a' = true) ∧ Below w0.heap.size w0 w
set_option maxHeartbeats 8000000 in
theorem app2_any {ops : Array Oper} {Q : Exit → Act → World → Prop} (w0 : World) (nd : Nd) (xs : List Nd) (av : Value) (L : AL) (a0 : Act) (s0 r1 s5 r2 t7 p x2 : Tmp)
    (hnd : [s0, r1, s5, r2, t7, p].Nodup) (hsz : ∀ s ∈ [s0, r1, s5, r2, t7, p], s < a0.tmps.size) (hxl : xs.length + 1 ≤ 1000000) (ob oc oe of og oa od : Oper)
    (i0 : ops[0]? = some ob) (g0 : ob.guard = none) (d0 : ob.dst = some s0) (rb : ∀ f w, (execOp (putF a0 [s0, r1, s5, r2, t7, p] f).eval ob).run Tryz.prog w = .ok (.value (.slice (some ⟨w.heap.size, 0, none⟩) 0 0)) (w.alloc (.cells #[] 72)))
    (i3 : ops[3]? = some oc) (g3 : oc.guard = none) (d3 : oc.dst = some r1) (hoc : oc.op = .call { callee := .builtin .append, args := #[.tmp s0, .tmp x2], argTypes := #[22, 22] }) (hav : ∀ f, (putF a0 [s0, r1, s5, r2, t7, p] f).eval (.tmp x2) = av) (hsrc : ∀ W, Below w0.heap.size w0 W → SrcT W av xs)
    (i5 : ops[5]? = some oe) (g5 : oe.guard = none) (d5 : oe.dst = some s5) (re : ∀ f w, (execOp (putF a0 [s0, r1, s5, r2, t7, p] f).eval oe).run Tryz.prog w = .ok (.value (.slice (some ⟨w.heap.size, 0, none⟩) 1 1)) (w.alloc (.cells nd.cells 72)))
    (i6 : ops[6]? = some of) (g6 : of.guard = none) (d6 : of.dst = some r2) (hof : of.op = .call { callee := .builtin .append, args := #[.tmp r1, .tmp s5], argTypes := #[22, 22] })
    (i7 : ops[7]? = some og) (g7 : og.guard = none) (d7 : og.dst = some t7) (rg : ∀ f x y z w, f r2 = .slice x y z → (execOp (putF a0 [s0, r1, s5, r2, t7, p] f).eval og).run Tryz.prog w = .ok (.value (.agg #[.slice x y z])) w)
    (i8 : ops[8]? = some oa) (g8 : oa.guard = none) (d8 : oa.dst = some p) (hoa : oa.op = .alloc 24)
    (i9 : ops[9]? = some od) (g9 : od.guard = none) (d9 : od.dst = none) (hod : od.op = .store 24 (.tmp p) (.tmp t7))
    (hr : apReadyB L ops = true)
    (l0 : ∀ c e f g a d, (L false c e f g a d).setIfInBounds 0 true = L true c e f g a d)
    (l3 : ∀ b e f g a d, (L b false e f g a d).setIfInBounds 3 true = L b true e f g a d)
    (l5 : ∀ b c f g a d, (L b c false f g a d).setIfInBounds 5 true = L b c true f g a d)
    (l6 : ∀ b c e g a d, (L b c e false g a d).setIfInBounds 6 true = L b c e true g a d)
    (l7 : ∀ b c e f a d, (L b c e f false a d).setIfInBounds 7 true = L b c e f true a d)
    (l8 : ∀ b c e f g d, (L b c e f g false d).setIfInBounds 8 true = L b c e f g true d)
    (l9 : ∀ b c e f g a, (L b c e f g a false).setIfInBounds 9 true = L b c e f g a true)
    (hQ : ∀ F gp w', w0.heap.size ≤ gp → Lies w' gp #[F r2] 24 → OwnT w' w0.heap.size (F r2) (xs ++ [nd]) → Below w0.heap.size w0 w' → F p = .pointer (some ⟨gp, 0, none⟩) → Q .normal (putF a0 [s0, r1, s5, r2, t7, p] F) w')
    (w : World) (hb : Below w0.heap.size w0 w) (fuel : Nat) (hfu : (L false false false false false false false).toList.count false ≤ fuel) : wpAnyH Tryz.prog .any ops Q (Below w0.heap.size w0) fuel (L false false false false false false false) a0 w := by
  have hn := hnd
  simp only [List.nodup_cons, List.mem_cons, List.not_mem_nil, or_false, not_or, List.nodup_nil, not_false_eq_true, and_true] at hn
  obtain ⟨⟨n1, n2, n3, n4, n5⟩, ⟨n6, n7, n8, n9⟩, ⟨n10, n11, n12⟩, ⟨n13, n14⟩, n15⟩ := hn
  refine wpAnyH_inv (AI w0 nd xs L a0 s0 r1 s5 r2 t7 p) ?_ ?_ fuel _ _ _ hfu ?_
  · rintro l a w1 ⟨b, c, e, f, g, a', d, rfl, F, gp, rfl, -, -, -, k4, -, k6, -, -, -, -, k9⟩ hnil
    obtain ⟨rfl, rfl, rfl, rfl, rfl, rfl, rfl⟩ := (ap_ready hr b c e f g a' d).2 hnil
    exact hQ F gp w1 (k6 rfl).2.1 (k6 rfl).2.2 (k4 rfl) k9 (k6 rfl).1
  · rintro l a w1 i ⟨b, c, e, f, g, a', d, rfl, F, gp, rfl, k1, k2, k3, k4, k5, k6, kc, kf, kg, kd, k9⟩ hi
    have hs9 := k9.size
    have ev : ∀ s, s ∈ [s0, r1, s5, r2, t7, p] → (putF a0 [s0, r1, s5, r2, t7, p] F).eval (.tmp s) = F s := fun s hs => putF_eval a0 F s (hsz s hs) _ hs
    rcases (ap_ready hr b c e f g a' d).1 i hi with ⟨rfl, h1⟩ | ⟨rfl, h1, h2⟩ | ⟨rfl, h1⟩ | ⟨rfl, h1, h2, h3⟩ | ⟨rfl, h1, h2⟩ | ⟨rfl, h1⟩ | ⟨rfl, h1, h2, h3⟩
    · subst h1
      have hc : c = false := by
        cases c
        · rfl
        · have := kc rfl; cases this
      subst hc
      have hf : f = false := by
        cases f
        · rfl
        · have := (kf rfl).1; cases this
      subst hf
      have hb2 := k9.alloc hs9 (.cells #[] 72)
      refine wpOp_valueTo i0 g0 s0 d0 (rb _ _) ⟨hb2, ?_⟩
      rw [putF_put _ _ _ _ _ hnd (by simp), l0]
      refine ⟨true, false, e, false, g, a', d, rfl, _, gp, rfl, fun _ _ => by rw [if_pos rfl]; exact own_nil w1 _ hs9, (fun h => by cases h), fun h _ => ?_, (fun h => by cases h), fun h => ?_, fun h => ?_, (fun h => by cases h), (fun h => by cases h), kg, kd, hb2⟩
      · obtain ⟨g5, h2, h3, -, -⟩ := k3 h rfl
        refine ⟨g5, by rw [if_neg (Ne.symm n2)]; exact h2, h3.alloc _, fun _ _ => ?_, (fun h => by cases h)⟩
        rw [if_pos rfl]
        intro e
        have e2 : g5 = w1.heap.size := Option.some.inj e
        have := h3.lt
        omega
      · have := kg h; cases this
      · rw [if_neg (Ne.symm n5), if_neg (Ne.symm n3)]; exact ⟨(k6 h).1, (k6 h).2.1, (k6 h).2.2.alloc _⟩
    · subst h1 h2
      have hf : f = false := by
        cases f
        · rfl
        · have := (kf rfl).1; cases this
      subst hf
      have hg : g = false := by
        cases g
        · rfl
        · have := kg rfl; cases this
      subst hg
      have hd : d = false := by
        cases d
        · rfl
        · have := (kd rfl).1; cases this
      subst hd
      have ho := k1 rfl rfl
      obtain ⟨v', w', hrun, ho', hgr, hat⟩ := append_T_run (.tmp s0) (.tmp x2) hoc w0.heap.size (F s0) av [] xs (ev s0 (by simp)) ho (hav F) (hsrc w1 k9) (by simp; omega) hs9
      rw [List.nil_append] at ho'
      have hb2 := k9.grown hgr hs9 (fun k e => ho.above e)
      refine wpOp_valueTo i3 g3 r1 d3 hrun ⟨hb2, ?_⟩
      rw [putF_put _ _ _ _ _ hnd (by simp), l3]
      refine ⟨true, true, e, false, false, a', false, rfl, _, gp, rfl, (fun _ h => by cases h), fun _ _ => by rw [if_pos rfl]; exact ho', fun h _ => ?_, (fun h => by cases h), (fun h => by cases h), fun h => ?_, fun _ => rfl, (fun h => by cases h), (fun h => by cases h), (fun h => by cases h), hb2⟩
      · obtain ⟨g5, h2, h3, h4, -⟩ := k3 h rfl
        refine ⟨g5, by rw [if_neg (Ne.symm n6)]; exact h2, grown_lies hgr h3 (h4 rfl rfl), (fun _ h => by cases h), fun _ => ?_⟩
        rw [if_pos rfl]
        rcases hat with e | e
        · rw [e]; exact h4 rfl rfl
        · rw [e]
          intro e3
          have e2 : g5 = w1.heap.size := Option.some.inj e3
          have := h3.lt
          omega
      · rw [if_neg (Ne.symm n9)]; exact ⟨(k6 h).1, (k6 h).2.1, grown_lies hgr (k6 h).2.2 (ho.far (k6 h).2.2)⟩
    · subst h1
      have hf : f = false := by
        cases f
        · rfl
        · have := (kf rfl).2; cases this
      subst hf
      have hb2 := k9.alloc hs9 (.cells nd.cells 72)
      refine wpOp_valueTo i5 g5 s5 d5 (re _ _) ⟨hb2, ?_⟩
      rw [putF_put _ _ _ _ _ hnd (by simp), l5]
      refine ⟨b, c, true, false, g, a', d, rfl, _, gp, rfl, fun h1 h2 => ?_, fun h _ => ?_, fun _ _ => ⟨w1.heap.size, by rw [if_pos rfl], Lies.new _ _ _, fun h1 h2 => ?_, fun h => ?_⟩, (fun h => by cases h), fun h => ?_, fun h => ?_, kc, (fun h => by cases h), kg, kd, hb2⟩
      · rw [if_neg n2]; exact (k1 h1 h2).alloc _
      · rw [if_neg n6]; exact (k2 h rfl).alloc _
      · rw [if_neg n2]; exact Ne.symm (k1 h1 h2).fresh
      · rw [if_neg n6]; exact Ne.symm (k2 h rfl).fresh
      · have := kg h; cases this
      · rw [if_neg (Ne.symm n12), if_neg (Ne.symm n10)]; exact ⟨(k6 h).1, (k6 h).2.1, (k6 h).2.2.alloc _⟩
    · subst h1 h2 h3
      have hg : g = false := by
        cases g
        · rfl
        · have := kg rfl; cases this
      subst hg
      have hd : d = false := by
        cases d
        · rfl
        · have := (kd rfl).1; cases this
      subst hd
      have ho := k2 rfl rfl
      obtain ⟨g5', h2, h3, -, h4⟩ := k3 rfl rfl
      obtain ⟨v', w', hrun, ho', hgr, hat⟩ := append_T_run (.tmp r1) (.tmp s5) hof w0.heap.size (F r1) _ xs [nd] (ev r1 (by simp)) ho ((ev s5 (by simp)).trans h2) (src_node h3) (by simp; omega) hs9
      have hb2 := k9.grown hgr hs9 (fun k e => ho.above e)
      refine wpOp_valueTo i6 g6 r2 d6 hrun ⟨hb2, ?_⟩
      rw [putF_put _ _ _ _ _ hnd (by simp), l6]
      refine ⟨b, true, true, true, false, a', false, rfl, _, gp, rfl, (fun _ h => by cases h), (fun _ h => by cases h), (fun _ h => by cases h), fun _ => by rw [if_pos rfl]; exact ho', (fun h => by cases h), fun h => ?_, kc, fun _ => ⟨rfl, rfl⟩, (fun h => by cases h), (fun h => by cases h), hb2⟩
      rw [if_neg (Ne.symm n14)]; exact ⟨(k6 h).1, (k6 h).2.1, grown_lies hgr (k6 h).2.2 (ho.far (k6 h).2.2)⟩
    · subst h1 h2
      have hd : d = false := by
        cases d
        · rfl
        · have := (kd rfl).1; cases this
      subst hd
      obtain ⟨ra, rn, rc, hre⟩ := (k4 rfl).isSlice
      refine wpOp_valueTo i7 g7 t7 d7 (rg F ra rn rc w1 hre) ⟨k9, ?_⟩
      rw [putF_put _ _ _ _ _ hnd (by simp), l7]
      refine ⟨b, c, e, true, true, a', false, rfl, _, gp, rfl, fun h1 h2 => ?_, (fun _ h => by cases h), (fun _ h => by cases h), fun _ => ?_, fun _ => ?_, fun h => ?_, kc, kf, fun _ => rfl, (fun h => by cases h), k9⟩
      · rw [if_neg n4]; exact k1 h1 h2
      · rw [if_neg n13]; exact k4 rfl
      · rw [if_pos rfl, if_neg n13, hre]
      · rw [if_neg (Ne.symm n15)]; exact k6 h
    · subst h1
      have hd : d = false := by
        cases d
        · rfl
        · have := (kd rfl).2; cases this
      subst hd
      have hb2 := k9.alloc hs9 (.cells #[.slice none 0 0] 24)
      refine wpOp_wp i8 g8 (wp_alloc24 hoa ⟨hb2, ?_⟩)
      rw [d8, putF_put _ _ _ _ _ hnd (by simp), l8]
      refine ⟨b, c, e, f, g, true, false, rfl, _, w1.heap.size, rfl, fun h1 h2 => ?_, fun h1 h2 => ?_, fun h1 h2 => ?_, fun h => ?_, fun h => ?_, fun _ => ⟨by rw [if_pos rfl], hs9, Lies.new _ _ _⟩, kc, kf, kg, (fun h => by cases h), hb2⟩
      · rw [if_neg n5]; exact (k1 h1 h2).alloc _
      · rw [if_neg n9]; exact (k2 h1 h2).alloc _
      · obtain ⟨g5', h3, h4, h5, h6⟩ := k3 h1 h2
        refine ⟨g5', by rw [if_neg n12]; exact h3, h4.alloc _, fun a1 a2 => ?_, fun a1 => ?_⟩
        · rw [if_neg n5]; exact h5 a1 a2
        · rw [if_neg n9]; exact h6 a1
      · rw [if_neg n14]; exact (k4 h).alloc _
      · rw [if_neg n15, if_neg n14]; exact k5 h
    · subst h1 h2 h3
      have hft := kg rfl
      subst hft
      obtain ⟨hce, hee⟩ := kf rfl
      subst hce hee
      obtain ⟨hp, hgp, y⟩ := k6 rfl
      have h7 := k5 rfl
      have ho := k4 rfl
      have hone : (F r2).oneCell' = true := by obtain ⟨a, n, c, e⟩ := ho.isSlice; rw [e]; rfl
      have hb2 := below_setRow k9 gp #[F r2] hgp
      refine wpOp_wp i9 g9 (wp_store_row 24 (.tmp p) (.tmp t7) hod gp #[F r2] ((ev p (by simp)).trans hp) ((ev t7 (by simp)).trans h7) 24 _ y info24 rfl (by simp [hone]) ⟨hb2, ?_⟩)
      rw [d9, put_none, l9]
      exact ⟨b, true, true, true, true, true, true, rfl, F, gp, rfl, (fun _ h => by cases h), (fun _ h => by cases h), (fun _ h => by cases h), fun _ => ho.setRow24 y _, k5, fun _ => ⟨hp, hgp, y.setRow _⟩, kc, kf, kg, fun _ => ⟨rfl, rfl⟩, hb2⟩
  · exact ⟨false, false, false, false, false, false, false, rfl, fun t => a0.tmps.getD t undef, 0, (putF_self a0 _).symm, (fun h => by cases h), (fun h => by cases h), (fun h => by cases h), (fun h => by cases h), (fun h => by cases h), (fun h => by cases h), (fun h => by cases h), (fun h => by cases h), (fun h => by cases h), (fun h => by cases h), hb⟩
end Go.Proofs.YtilbbemdinpjcaaGreat.T
