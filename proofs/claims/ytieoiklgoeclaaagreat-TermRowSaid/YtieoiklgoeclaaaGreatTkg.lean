/-
  Kids (19), Kid (20).
  Kid (20): the term at a place below the first node.
  Kid (20) where there is none, and what TermTree wants of forests.
-/
import Derived.Test.YtieoiklgoeclaaaGreatTkd
import Derived.Test.YtieoiklgoeclaaaGreatTjp
import Derived.Test.YtieoiklgoeclaaaGreatLord
namespace Go.Proofs.YtieoiklgoeclaaaGreat
open Go.RowKit

theorem clo45_bad (w : World) (p : Nat) (a : Option Addr) (n nc : Nat) (ks : Nat → Int) (hn : n ≤ 1000000) (hp : w.cell? ⟨p, 0, none⟩ = some (.slice a n nc)) (hk : KsAt w a n ks) (hl : layOf ks n = none) :
    Calls Tryz.prog 54 #[.pointer (some ⟨p, 0, none⟩)] w fun e w' => ThrownT e ∧ Below w.heap.size w w' := by
  have h := laid_bad a n nc ks w hn hk (layOf_none hl)
  have H := Lib.hid h
  clear h hk hl hn
  go_enter Tryz.func54, Tryz.ntmps54
  go_wp2_with fail
  refine H.out.mono ?_
  rintro e w2 ⟨⟨v, rfl⟩, hb⟩
  have HB := Lib.hid hb
  clear hb
  go_wp2_with fail
  exact ⟨rfl, ⟨_, rfl⟩, HB.out⟩
theorem clo48_bad (w : World) (p q : Nat) (a : Option Addr) (n nc : Nat) (ks : Nat → Int) (hn : n ≤ 1000000) (hp : w.cell? ⟨p, 0, none⟩ = some (.slice a n nc)) (hk : KsAt w a n ks) (hl : layOf ks n = none) :
    Calls Tryz.prog 49 #[.pointer (some ⟨p, 0, none⟩), .pointer (some ⟨q, 0, none⟩)] w fun e w' => ThrownT e ∧ Below w.heap.size w w' := by
  have h := laid_bad a n nc ks w hn hk (layOf_none hl)
  have H := Lib.hid h
  clear h hk hl hn
  go_enter Tryz.func49, Tryz.ntmps49
  go_wp2_with fail
  refine H.out.mono ?_
  rintro e w2 ⟨⟨v, rfl⟩, hb⟩
  have HB := Lib.hid hb
  clear hb
  go_wp2_with fail
  exact ⟨rfl, ⟨_, rfl⟩, HB.out⟩
theorem layOf_in {xs : List Nd} (h : inO xs = false) : layOf (ksOf xs) xs.length = none := by
  unfold inO inOrd at h
  cases hl : layOf (ksOf xs) xs.length with
  | none => rfl
  | some y => rw [hl] at h; cases h
def KidsR (B : Nat) (K : Fo) (v : Value) (V : World) : Prop := ∃ l : List TK, OwnK V B v l ∧ l.map TK.xs = kidsFo K
set_option maxRecDepth 100000 in
theorem kids_ok (w : World) (a : Option Addr) (nc : Nat) (xs : List Nd) (x0 : Nd) (K : Fo) (hxs : xs = (Fo.cons x0 K .nil).flat) (hk : TAt w a xs) (ht : TxtIn xs) (hc : xs.length ≤ nc) :
    Calls Tryz.prog 32 #[.agg #[.slice a xs.length nc]] w (SliceR w (KidsR w.heap.size K)) := by
  have hmf : ∀ (fn : Fn) (first cap : Array Value) (w : World), (Instr.makeFunc fn first cap).run Tryz.prog w = .ok (.func fn first cap) w := fun _ _ _ _ => rfl
  have hb : Below w.heap.size w (w.alloc (.cells #[.slice a xs.length nc] 27)) := (Below.refl _ _).alloc (Nat.le_refl _) _
  have hA := Lies.new w #[.slice a xs.length nc] 27
  have h := askTs_ok (w.alloc (.cells #[.slice a xs.length nc] 27)) 54 #[.pointer (some ⟨w.heap.size, 0, none⟩)] (KidsR ((w.alloc (.cells #[.slice a xs.length nc] 27)).heap.size + 2) K)
    (fun v V x ⟨l, h1, h2⟩ => ⟨l, h1.setCell _ _ (by simp), h2⟩) (fun w => callK 54 Tryz.f54 Tryz.func54 (by kernel_rfl) (by kernel_rfl) _ w)
    (fun w1 h1 hs => (clo45_ok w1 w.heap.size a nc xs x0 K hxs ((hA.below h1 hA.lt).cell 0 rfl) (Nat.lt_of_lt_of_le hA.lt h1.size) ((hk.below hb (Nat.le_refl _)).below h1 (Nat.le_refl _)) ht hc).mono fun e w2 ⟨va, vn, vc, e1, ⟨l, e2, e3⟩, e4⟩ => ⟨va, vn, vc, e1, ⟨l, e2.mono hs, e3⟩, e4⟩)
  have H := Lib.hid (And.intro h hb)
  obtain ⟨n, hn⟩ : ∃ n, n = xs.length := ⟨_, rfl⟩
  rw [← hn] at H ⊢
  clear h hb hA hk ht hc hxs hn
  go_enter Tryz.func32, Tryz.ntmps32
  go_wp2_with fail
  refine H.out.1.mono ?_
  rintro e w2 ⟨va, vn, vc, rfl, hr, hb2⟩
  have HB := Lib.hid (And.intro hr (H.out.2.trans (hb2.mono H.out.2.size)))
  clear hr hb2
  go_wp2_with fail
  go_ret
  obtain ⟨l, e2, e3⟩ := HB.out.1
  exact ⟨va, vn, vc, rfl, ⟨l, e2.mono (by simp; omega), e3⟩, HB.out.2⟩
set_option maxRecDepth 100000 in
theorem kids_bad (w : World) (a : Option Addr) (nc : Nat) (xs : List Nd) (hi : inO xs = false) (hk : TAt w a xs) :
    Calls Tryz.prog 32 #[.agg #[.slice a xs.length nc]] w fun e w' => e = .returned (.slice none 0 0) ∧ Below w.heap.size w w' := by
  have hmf : ∀ (fn : Fn) (first cap : Array Value) (w : World), (Instr.makeFunc fn first cap).run Tryz.prog w = .ok (.func fn first cap) w := fun _ _ _ _ => rfl
  have hb : Below w.heap.size w (w.alloc (.cells #[.slice a xs.length nc] 27)) := (Below.refl _ _).alloc (Nat.le_refl _) _
  have hA := Lies.new w #[.slice a xs.length nc] 27
  have h := askTs_thrown (w.alloc (.cells #[.slice a xs.length nc] 27)) 54 #[.pointer (some ⟨w.heap.size, 0, none⟩)] (fun w => callK 54 Tryz.f54 Tryz.func54 (by kernel_rfl) (by kernel_rfl) _ w)
    (fun w1 h1 => clo45_bad w1 w.heap.size a xs.length nc (ksOf xs) hk.2.1 ((hA.below h1 hA.lt).cell 0 rfl) ((hk.below hb (Nat.le_refl _)).below h1 (Nat.le_refl _)).ks (layOf_in hi))
  have H := Lib.hid (And.intro h hb)
  obtain ⟨n, hn⟩ : ∃ n, n = xs.length := ⟨_, rfl⟩
  rw [← hn] at H ⊢
  clear h hb hA hk hi hn
  go_enter Tryz.func32, Tryz.ntmps32
  go_wp2_with fail
  refine H.out.1.mono ?_
  rintro e w2 ⟨rfl, hb2⟩
  have HB := Lib.hid (H.out.2.trans (hb2.mono H.out.2.size))
  clear hb2
  go_wp2_with fail
  go_ret
  exact ⟨rfl, HB.out⟩
theorem nodes_some (w : World) (a : Option Addr) (l c : Nat) : (binOp .neq 25 (.slice a l c) (.slice none 0 0)).run Tryz.prog w = .ok (.bool (!a.isNone)) w := Go.run_neq_slice_nil_any w _ _ a l c 0 0 Tryz.underlying25
/-- What is told where there is no kid. -/
def NoKid (w : World) (e : Ending) (w' : World) : Prop := e = .returned (.tuple #[.agg #[.slice none 0 0], .bool false]) ∧ Below w.heap.size w w'
set_option maxRecDepth 100000 in
set_option maxHeartbeats 1000000 in
theorem kid_tail_none (w : World) (a : Option Addr) (n nc : Nat) (i : Int)
    (h : ∀ W0, Below w.heap.size w W0 → Lies W0 w.heap.size #[.slice a n nc] 27 → Lies W0 (w.heap.size + 1) #[.int .i64 i] 3 → Calls Tryz.prog 48 #[.slice none 0 0, .func (Fn.func 49) #[] #[.pointer (some ⟨w.heap.size, 0, none⟩), .pointer (some ⟨w.heap.size + 1, 0, none⟩)]] W0 fun e w' => e = .returned (.slice none 0 0) ∧ Below W0.heap.size W0 w') :
    Calls Tryz.prog 28 #[.agg #[.slice a n nc], .int .i64 i] w (NoKid w) := by
  have hmf : ∀ (fn : Fn) (first cap : Array Value) (w : World), (Instr.makeFunc fn first cap).run Tryz.prog w = .ok (.func fn first cap) w := fun _ _ _ _ => rfl
  have hA : Lies (((w.alloc (.cells #[.slice a n nc] 27)).alloc (.cells #[.int .i64 i] 3)).alloc (.cells #[.slice none 0 0] 27)) w.heap.size #[.slice a n nc] 27 := ((Lies.new _ _ _).alloc _).alloc _
  have hB : Lies (((w.alloc (.cells #[.slice a n nc] 27)).alloc (.cells #[.int .i64 i] 3)).alloc (.cells #[.slice none 0 0] 27)) (w.heap.size + 1) #[.int .i64 i] 3 := by
    have := (Lies.new (w.alloc (.cells #[.slice a n nc] 27)) #[.int .i64 i] 3).alloc (.cells #[.slice none 0 0] 27)
    simpa using this
  have hC : Lies (((w.alloc (.cells #[.slice a n nc] 27)).alloc (.cells #[.int .i64 i] 3)).alloc (.cells #[.slice none 0 0] 27)) (w.heap.size + 2) #[.slice none 0 0] 27 := by
    have := Lies.new ((w.alloc (.cells #[.slice a n nc] 27)).alloc (.cells #[.int .i64 i] 3)) #[.slice none 0 0] 27
    simpa using this
  have hb0 : Below w.heap.size w (((w.alloc (.cells #[.slice a n nc] 27)).alloc (.cells #[.int .i64 i] 3)).alloc (.cells #[.slice none 0 0] 27)) := (((Below.refl _ _).alloc (Nat.le_refl _) _).alloc (by simp) _).alloc (by simp; omega) _
  have hh := h _ hb0 hA hB
  have H := Lib.hid (And.intro hh (And.intro hb0 hC))
  have hq := nodes_some
  clear h hh hA hB hC hb0
  go_enter Tryz.func28, Tryz.ntmps28
  go_upto_region 1 with fail
  generalize ((w.alloc (.cells #[.slice a n nc] 27)).alloc (.cells #[.int .i64 i] 3)).alloc (.cells #[.slice none 0 0] 27) = W0 at H ⊢
  go_wp2_with fail
  refine H.out.1.mono ?_
  rintro e w2 ⟨rfl, hb2⟩
  have hC2 := H.out.2.2.below hb2 H.out.2.2.lt
  have HX := Lib.hid (And.intro hC2 (H.out.2.1.trans (hb2.mono H.out.2.1.size)))
  clear hC2 hb2
  go_wp2_with (refine wpList_store_row rfl 27 _ _ rfl (w.heap.size + 2) #[.slice none 0 0] rfl rfl 27 #[.slice none 0 0] HX.out.1 info24 rfl (by simp [Value.oneCell']) ?_)
  have hrow := HX.out.1.setRow #[.slice none 0 0]
  have hrc := hrow.cell 0 (v := .slice none 0 0) rfl
  refine bodyPost_ret (v := .tuple #[.agg #[.slice none 0 0], .bool false]) (by simp [results, Tryz.results28, go_sem, hrc]) rfl ⟨rfl, below_setRow HX.out.2 _ _ (by omega)⟩
end Go.Proofs.YtieoiklgoeclaaaGreat
namespace Go.Proofs.YtieoiklgoeclaaaGreat
open Go.RowKit

theorem kidsFo_drop : ∀ (f : Fo) (k : Nat), k < f.cnt → ∃ n' k' r', (kidsFo f).drop k = kidsFo (.cons n' k' r') ∧ (Fo.cons n' k' r').cnt + k = f.cnt
  | .nil, k, h => by simp [Fo.cnt] at h
  | .cons n k r, 0, _ => ⟨n, k, r, rfl, by simp⟩
  | .cons n k r, j + 1, h => by
    obtain ⟨n', k', r', h1, h2⟩ := kidsFo_drop r j (by simp [Fo.cnt] at h; omega)
    exact ⟨n', k', r', by simp only [kidsFo, List.drop_succ_cons]; exact h1, by simp only [Fo.cnt] at h2 ⊢; omega⟩
/-- What the closure of Kid is handed: the boxes of a term and of a place. -/
structure KidIn (w : World) (p q : Nat) (a : Option Addr) (nc : Nat) (xs : List Nd) (i : Int) (x0 : Nd) (K : Fo) : Prop where
  form : xs = (Fo.cons x0 K .nil).flat
  box : w.cell? ⟨p, 0, none⟩ = some (.slice a xs.length nc)
  boxlt : p < w.heap.size
  num : w.cell? ⟨q, 0, none⟩ = some (.int .i64 i)
  numlt : q < w.heap.size
  at_ : TAt w a xs
  txt : TxtIn xs
  room : xs.length ≤ nc
set_option maxRecDepth 100000 in
set_option maxHeartbeats 1000000 in
theorem clo48_out (w : World) (p q : Nat) (a : Option Addr) (nc : Nat) (xs : List Nd) (i : Int) (x0 : Nd) (K : Fo) (hin : KidIn w p q a nc xs i x0 K) (hi : i < 0 ∨ (K.cnt : Int) ≤ i) :
    Calls Tryz.prog 49 #[.pointer (some ⟨p, 0, none⟩), .pointer (some ⟨q, 0, none⟩)] w fun e w' => e = .returned (.slice none 0 0) ∧ Below w.heap.size w w' := by
  obtain ⟨E, D, hl, -⟩ := laid_fo (Fo.cons x0 K .nil) rfl
  rw [← hin.form] at hl
  have h := laid_ok a xs.length nc (ksOf xs) E D w hin.at_.2.1 hin.at_.ks hl
  obtain ⟨g, off, ea, hx⟩ := hin.at_.1 hl.1
  have hk4 : w.cell? ⟨g, off + 4, none⟩ = some (.int .i64 (K.cnt : Int)) := by
    have h0 : 0 < xs.length := hl.1
    have := hx.2 0 h0 4 (.int .i64 (K.cnt : Int)) (by
      have : xs[0] = { x0 with kids := (K.cnt : Int) } := by simp [hin.form, Fo.flat]
      rw [this]; rfl)
    simpa using this
  have hbox := hin.box
  subst ea
  obtain ⟨n, hn⟩ : ∃ n, n = xs.length := ⟨_, rfl⟩
  rw [← hn] at hbox h
  have hn0 : 0 < n := by rw [hn]; exact hl.1
  obtain ⟨m, hm⟩ : ∃ m : Int, m = (K.cnt : Int) := ⟨_, rfl⟩
  rw [← hm] at hk4 hi
  have H := Lib.hid (And.intro h (And.intro hbox (And.intro hk4 (And.intro hx.1 (And.intro hin.boxlt (And.intro hin.numlt hin.num))))))
  have p1 : (0 : Int) < (n : Int) := by omega
  clear h hbox hk4 hx hn hm hl hin
  go_enter Tryz.func49, Tryz.ntmps49
  have hbox := H.out.2.1
  go_wp2_with fail
  refine H.out.1.mono ?_
  rintro e w2 ⟨gE, gD, rfl, b1, b2, z1, z2, hb⟩
  unfold layV
  have HB := Lib.hid hb
  clear b1 b2 z1 z2 hb hbox
  go_upto_region 2 with fail
  have hb3 : Below w2.heap.size w2 (w2.alloc (.cells #[.slice (some ⟨g, off, none⟩) n nc, .slice (some ⟨gE, 0, none⟩) n n, .slice (some ⟨gD, 0, none⟩) n n] 55)) := (Below.refl _ _).alloc (Nat.le_refl _) _
  generalize w2.alloc (.cells #[.slice (some ⟨g, off, none⟩) n nc, .slice (some ⟨gE, 0, none⟩) n n, .slice (some ⟨gD, 0, none⟩) n n] 55) = W3 at hb3 ⊢
  have hbw := HB.out.trans (hb3.mono HB.out.size)
  have c0 : W3.cell? ⟨p, 0, none⟩ = some (.slice (some ⟨g, off, none⟩) n nc) := (hbw.cell (p := ⟨p, 0, none⟩) H.out.2.2.2.2.1).trans H.out.2.1
  have c1 : W3.cell? ⟨q, 0, none⟩ = some (.int .i64 i) := (hbw.cell (p := ⟨q, 0, none⟩) H.out.2.2.2.2.2.1).trans H.out.2.2.2.2.2.2
  have c4 : W3.cell? ⟨g, off + 4, none⟩ = some (.int .i64 m) := (hbw.cell (p := ⟨g, off + 4, none⟩) H.out.2.2.2.1).trans H.out.2.2.1
  have HW := Lib.hid hbw
  clear hb3 hbw
  by_cases hneg : i < 0
  · go_quiet (fail)
    go_wp2_with fail
    go_ret
    exact ⟨rfl, below_drewN HW.out _⟩
  · have hge : m ≤ i := by omega
    have hd : decide (i < 0) = false := decide_eq_false hneg
    go_quiet (fail)
    go_wp2_with fail
    go_ret
    exact ⟨rfl, below_drewN HW.out _⟩
set_option maxRecDepth 100000 in
set_option maxHeartbeats 2000000 in
theorem clo48_in (w : World) (p q : Nat) (a : Option Addr) (nc : Nat) (xs : List Nd) (i : Nat) (x0 : Nd) (K : Fo) (hin : KidIn w p q a nc xs i x0 K) (hi : i < K.cnt) (ys : List Nd) (hys : (kidsFo K)[i]? = some ys) :
    Calls Tryz.prog 49 #[.pointer (some ⟨p, 0, none⟩), .pointer (some ⟨q, 0, none⟩)] w fun e w' => ∃ va vn vc, e = .returned (.slice va vn vc) ∧ OwnT w' w.heap.size (.slice va vn vc) ys ∧ Below w.heap.size w w' := by
  obtain ⟨E, D, hl, -⟩ := laid_fo (Fo.cons x0 K .nil) rfl
  rw [← hin.form] at hl
  have hgood : GoodL xs E D 0 := by have := hin.form; rw [this] at hl ⊢; exact laid_good hl
  have h := laid_ok a xs.length nc (ksOf xs) E D w hin.at_.2.1 hin.at_.ks hl
  obtain ⟨g, off, ea, hx⟩ := hin.at_.1 hl.1
  have hk4 : w.cell? ⟨g, off + 4, none⟩ = some (.int .i64 (K.cnt : Int)) := by
    have h0 : 0 < xs.length := hl.1
    have := hx.2 0 h0 4 (.int .i64 (K.cnt : Int)) (by
      have : xs[0] = { x0 with kids := (K.cnt : Int) } := by simp [hin.form, Fo.flat]
      rw [this]; rfl)
    simpa using this
  have h1d : xs.drop 1 = K.flat := by rw [hin.form]; simp [Fo.flat]
  have hbox := hin.box
  subst ea
  obtain ⟨n, hn⟩ : ∃ n, n = xs.length := ⟨_, rfl⟩
  have hle : n ≤ 1000000 := by rw [hn]; exact hin.at_.2.1
  have hc' : n ≤ nc := by rw [hn]; exact hin.room
  have hcm : K.cnt ≤ 1000000 := by have := (kids_bound hin.form).1; omega
  rw [← hn] at hbox h
  have hn0 : 0 < n := by rw [hn]; exact hl.1
  obtain ⟨m, hm⟩ : ∃ m : Nat, m = K.cnt := ⟨_, rfl⟩
  rw [← hm] at hk4 hi hcm
  have H := Lib.hid (And.intro h (And.intro hbox (And.intro hk4 (And.intro hx (And.intro hin.boxlt (And.intro hin.numlt (And.intro hin.num (And.intro hgood (And.intro h1d (And.intro hn (And.intro hm (And.intro hys (And.intro hin.txt hin.at_.2.2)))))))))))))
  have p1 : (0 : Int) < (n : Int) := by omega
  have p2 : (i : Int) < (m : Int) := by omega
  have p3 : (0 : Int) ≤ (i : Int) := by omega
  have p4 : (m : Int) ≤ 1000000 := by omega
  clear h hbox hk4 hx hn hm hl hin hgood h1d hys
  go_enter Tryz.func49, Tryz.ntmps49
  have hbox := H.out.2.1
  go_wp2_with fail
  refine H.out.1.mono ?_
  rintro e w2 ⟨gE, gD, rfl, b1, b2, z1, z2, hb⟩
  unfold layV
  have HB := Lib.hid (And.intro z1 hb)
  clear b1 b2 z1 z2 hb hbox
  go_upto_region 2 with fail
  have hA : Lies (w2.alloc (.cells #[.slice (some ⟨g, off, none⟩) n nc, .slice (some ⟨gE, 0, none⟩) n n, .slice (some ⟨gD, 0, none⟩) n n] 55)) w2.heap.size #[.slice (some ⟨g, off, none⟩) n nc, .slice (some ⟨gE, 0, none⟩) n n, .slice (some ⟨gD, 0, none⟩) n n] 55 := Lies.new _ _ _
  have hb3 : Below w2.heap.size w2 (w2.alloc (.cells #[.slice (some ⟨g, off, none⟩) n nc, .slice (some ⟨gE, 0, none⟩) n n, .slice (some ⟨gD, 0, none⟩) n n] 55)) := (Below.refl _ _).alloc (Nat.le_refl _) _
  generalize w2.alloc (.cells #[.slice (some ⟨g, off, none⟩) n nc, .slice (some ⟨gE, 0, none⟩) n n, .slice (some ⟨gD, 0, none⟩) n n] 55) = W3 at hA hb3 ⊢
  have hbw := HB.out.2.trans (hb3.mono HB.out.2.size)
  have hS : ∀ V, Below W3.heap.size W3 V → V.cell? ⟨w2.heap.size, 0, none⟩ = some (.slice (some ⟨g, off, none⟩) n nc) ∧ V.cell? ⟨w2.heap.size, 1, none⟩ = some (.slice (some ⟨gE, 0, none⟩) n n) ∧ V.cell? ⟨w2.heap.size, 2, none⟩ = some (.slice (some ⟨gD, 0, none⟩) n n) ∧ V.cell? ⟨p, 0, none⟩ = some (.slice (some ⟨g, off, none⟩) n nc) ∧ V.cell? ⟨q, 0, none⟩ = some (.int .i64 i) ∧ V.cell? ⟨g, off + 4, none⟩ = some (.int .i64 m) ∧ Lies V gE (iv n E) 3 ∧ NAt V g off xs := fun V hV => by
    have a1 := hA.below hV hA.lt
    have hV0 := hbw.trans (hV.mono hbw.size)
    exact ⟨a1.cell 0 rfl, a1.cell 1 rfl, a1.cell 2 rfl, (hV0.cell (p := ⟨p, 0, none⟩) H.out.2.2.2.2.1).trans H.out.2.1, (hV0.cell (p := ⟨q, 0, none⟩) H.out.2.2.2.2.2.1).trans H.out.2.2.2.2.2.2.1, (hV0.cell (p := ⟨g, off + 4, none⟩) H.out.2.2.2.1.1).trans H.out.2.2.1, (HB.out.1.below hb3 HB.out.1.lt).below hV (Nat.lt_of_lt_of_le HB.out.1.lt hb3.size), H.out.2.2.2.1.below hV0 H.out.2.2.2.1.1⟩
  obtain ⟨s0, s1, s2, c0, c1, c4, -, -⟩ := hS W3 (Below.refl _ _)
  have HS := Lib.hid hS
  have HW := Lib.hid hbw
  clear hS hbw hA hb3
  have hneg : decide ((i : Int) < 0) = false := by simp
  go_quiet (fail)
  have hW4 := below_drewN (Below.refl W3.heap.size W3) nq
  generalize W3.drewN nq = W4 at hW4 ⊢
  clear s0 s1 s2 c0 c1 c4 hneg
  obtain ⟨-, -, -, -, c1, -, -, -⟩ := HS.out W4 hW4
  have HW4 := Lib.hid hW4
  clear hW4
  go_wp2_with fail
  clear c1
  go_loop [4, 19] (fun v c => ∃ (k pp : Nat) (r : Fo), k ≤ i ∧ c = .int .i64 k ∧ v = .int .i64 pp ∧ xs.drop pp = r.flat ∧ (kidsFo K).drop k = kidsFo r ∧ r.cnt + k = K.cnt) (fun _ c => (i - intOf c).toNat)
  case atStart => exact ⟨0, 1, K, by omega, by go_num, by go_num, H.out.2.2.2.2.2.2.2.2.1, by simp, by omega⟩
  case round =>
    obtain ⟨k, pp, r, hk, rfl, rfl, hdr, hkr, hcn⟩ := hrel
    have hrc : 0 < r.cnt := by have := H.out.2.2.2.2.2.2.2.2.2.2.1; omega
    cases r with
    | nil => simp [Fo.cnt] at hrc
    | cons n' k' r' =>
      obtain ⟨s1, s2, s3, s4, s5⟩ := good_step H.out.2.2.2.2.2.2.2.1 hdr
      rw [← H.out.2.2.2.2.2.2.2.2.2.1] at s1 s3
      obtain ⟨e0, e1, e2, -, -, -, hE, hN⟩ := HS.out W4 HW4.out
      obtain ⟨x1, hx1⟩ : ∃ x, x = E pp := ⟨_, rfl⟩
      have ce : W4.cell? ⟨gE, pp, none⟩ = some (.int .i64 x1) := by rw [hx1]; exact hE.cell pp (iv_get n E pp s1)
      have hbl := below_any W4 g off n nc gE gD pp E hE s1 (by omega) s3 hc'
      unfold layV at hbl
      rw [← hx1] at s2 s3 s4 s5 hbl
      have q0 : (0 : Int) ≤ (pp : Int) := by omega
      have q1 : (pp : Int) < (n : Int) := by omega
      have hkr' : (kidsFo K).drop (k + 1) = kidsFo r' := by
        rw [← List.drop_drop, hkr]; rfl
      have hyk : k = i → sub xs pp x1 = ys := fun e => by
        subst e
        have h1 := H.out.2.2.2.2.2.2.2.2.2.2.2.1
        have h2 := congrArg List.head? hkr
        rw [List.head?_drop, h1] at h2
        rw [s4]
        exact (Option.some.inj h2).symm
      have hlen : (sub xs pp x1).length = x1 - pp := sub_len (by rw [← H.out.2.2.2.2.2.2.2.2.2.1]; exact s3)
      have hsub : ∀ y ∈ sub xs pp x1, y ∈ xs := fun y hy => List.drop_subset _ _ (List.take_subset _ _ hy)
      have htk : ∀ V, Below W3.heap.size W3 V → TAt V (some ⟨g, off + pp * 5, none⟩) (sub xs pp x1) := fun V hV =>
        ⟨fun _ => ⟨g, off + pp * 5, rfl, (HS.out V hV).2.2.2.2.2.2.2.sub pp x1 (by rw [← H.out.2.2.2.2.2.2.2.2.2.1]; exact s3)⟩, by rw [hlen]; omega, fun y hy => H.out.2.2.2.2.2.2.2.2.2.2.2.2.2 y (hsub y hy)⟩
      have htt : TxtIn (sub xs pp x1) := fun y hy => H.out.2.2.2.2.2.2.2.2.2.2.2.2.1 y (hsub y hy)
      have HR := Lib.hid (And.intro hbl (And.intro hlen (And.intro htk (And.intro htt (And.intro hyk (And.intro hkr' (And.intro s5 hcn)))))))
      clear hbl hlen htk htt hyk hkr' s4 s5 hcn hdr hkr hE hN hsub hx1 hrc
      by_cases hlt : k < i
      · have q2 : (k : Int) < (i : Int) := by omega
        go_wp2_with fail
        have h7 := HR.out.2.2.2.2.2.2.2
        simp only [Fo.cnt] at h7
        exact ⟨⟨k + 1, x1, r', by omega, by go_num, rfl, HR.out.2.2.2.2.2.2.1, HR.out.2.2.2.2.2.1, by omega⟩, by simp [intOf]; omega⟩
      · have hke : k = i := by omega
        have q2 : ¬ (k : Int) < (i : Int) := by omega
        have HY := Lib.hid (HR.out.2.2.2.2.1 hke)
        clear hke ce
        go_wp2_with fail
        refine HR.out.1.mono ?_
        rintro e w5 ⟨rfl, hb5⟩
        have h35 := HW4.out.trans (hb5.mono HW4.out.size)
        have hown5 := own_any w5 (some ⟨g, off + pp * 5, none⟩) (nc - pp) (sub xs pp x1) (HR.out.2.2.1 w5 h35) HR.out.2.2.2.1
        rw [HR.out.2.1] at hown5
        have HO5 := Lib.hid (And.intro hown5 h35)
        clear hown5 h35 hb5 e0 e1 e2
        go_wp2_with fail
        refine HO5.out.1.mono ?_
        rintro e w6 ⟨v6, rfl, ho6, hb6⟩
        obtain ⟨ka, kn, kc, rfl⟩ := ho6.isSlice
        have h36 := HO5.out.2.trans (hb6.mono HO5.out.2.size)
        have HX := Lib.hid (And.intro (ho6.mono (Nat.le_trans HW.out.size HO5.out.2.size)) (HW.out.trans (h36.mono HW.out.size)))
        clear ho6 hb6 h36
        go_wp2_with fail
        go_ret
        exact ⟨ka, kn, kc, rfl, by rw [← HY.out]; exact HX.out.1, HX.out.2⟩
def KidR (w : World) (ys : List Nd) (e : Ending) (w' : World) : Prop := ∃ a c, e = .returned (.tuple #[.agg #[.slice a ys.length c], .bool true]) ∧ TAt w' a ys ∧ Below w.heap.size w w'
set_option maxRecDepth 100000 in
set_option maxHeartbeats 1000000 in
theorem kid_some (w : World) (a : Option Addr) (nc : Nat) (xs : List Nd) (i : Nat) (x0 : Nd) (K : Fo) (hxs : xs = (Fo.cons x0 K .nil).flat) (hk : TAt w a xs) (ht : TxtIn xs) (hc : xs.length ≤ nc) (hi : i < K.cnt) (ys : List Nd) (hys : (kidsFo K)[i]? = some ys) (hy0 : 0 < ys.length) (hyl : ys.length ≤ 1000000) (hyk : ∀ y ∈ ys, y.kids ≤ 9223372036854775807) :
    Calls Tryz.prog 28 #[.agg #[.slice a xs.length nc], .int .i64 i] w (KidR w ys) := by
  have hmf : ∀ (fn : Fn) (first cap : Array Value) (w : World), (Instr.makeFunc fn first cap).run Tryz.prog w = .ok (.func fn first cap) w := fun _ _ _ _ => rfl
  obtain ⟨n, hn⟩ : ∃ n, n = xs.length := ⟨_, rfl⟩
  rw [← hn]
  have hA : Lies (((w.alloc (.cells #[.slice a n nc] 27)).alloc (.cells #[.int .i64 i] 3)).alloc (.cells #[.slice none 0 0] 27)) w.heap.size #[.slice a n nc] 27 := ((Lies.new _ _ _).alloc _).alloc _
  have hB : Lies (((w.alloc (.cells #[.slice a n nc] 27)).alloc (.cells #[.int .i64 i] 3)).alloc (.cells #[.slice none 0 0] 27)) (w.heap.size + 1) #[.int .i64 i] 3 := by
    have := (Lies.new (w.alloc (.cells #[.slice a n nc] 27)) #[.int .i64 i] 3).alloc (.cells #[.slice none 0 0] 27)
    simpa using this
  have hC : Lies (((w.alloc (.cells #[.slice a n nc] 27)).alloc (.cells #[.int .i64 i] 3)).alloc (.cells #[.slice none 0 0] 27)) (w.heap.size + 2) #[.slice none 0 0] 27 := by
    have := Lies.new ((w.alloc (.cells #[.slice a n nc] 27)).alloc (.cells #[.int .i64 i] 3)) #[.slice none 0 0] 27
    simpa using this
  have hb0 : Below w.heap.size w (((w.alloc (.cells #[.slice a n nc] 27)).alloc (.cells #[.int .i64 i] 3)).alloc (.cells #[.slice none 0 0] 27)) := (((Below.refl _ _).alloc (Nat.le_refl _) _).alloc (by simp) _).alloc (by simp; omega) _
  have hsz : (((w.alloc (.cells #[.slice a n nc] 27)).alloc (.cells #[.int .i64 i] 3)).alloc (.cells #[.slice none 0 0] 27)).heap.size = w.heap.size + 3 := by simp
  have hq := nodes_some
  have HZ := Lib.hid (And.intro hxs (And.intro hn (And.intro hys hy0)))
  have hszz := Lib.hid hsz
  clear hxs hn hys hy0 hsz
  go_enter Tryz.func28, Tryz.ntmps28
  go_upto_region 1 with fail
  generalize ((w.alloc (.cells #[.slice a n nc] 27)).alloc (.cells #[.int .i64 i] 3)).alloc (.cells #[.slice none 0 0] 27) = W0 at hA hB hC hb0 hszz ⊢
  have hh := askNs_ok W0 49 #[.pointer (some ⟨w.heap.size, 0, none⟩), .pointer (some ⟨w.heap.size + 1, 0, none⟩)] (fun v V => OwnT V (W0.heap.size + 2) v ys)
    (fun v V x h1 => h1.setCell _ _ (fun e => by have := h1.above e; simp at this)) (fun w => callK 49 Tryz.f49 Tryz.func49 (by kernel_rfl) (by kernel_rfl) _ w)
    (fun w1 h1 hs => (clo48_in w1 w.heap.size (w.heap.size + 1) a nc xs i x0 K ⟨HZ.out.1, by rw [← HZ.out.2.1]; exact (hA.below h1 hA.lt).cell 0 rfl, Nat.lt_of_lt_of_le hA.lt h1.size, (hB.below h1 hB.lt).cell 0 rfl, Nat.lt_of_lt_of_le hB.lt h1.size, (hk.below hb0 (Nat.le_refl _)).below h1 (Nat.le_refl _), ht, hc⟩ hi ys HZ.out.2.2.1).mono fun e w2 ⟨va, vn, vc, e1, e2, e4⟩ => ⟨va, vn, vc, e1, e2.mono hs, e4⟩)
  have H := Lib.hid (And.intro hh (And.intro hb0 (And.intro hC hszz.out)))
  clear hh hA hB hC hb0 hszz hk ht hc hi
  go_wp2_with fail
  refine H.out.1.mono ?_
  rintro e w2 ⟨va, vn, vc, rfl, hr, hb2⟩
  have hC2 := H.out.2.2.1.below hb2 H.out.2.2.1.lt
  obtain ⟨g, rfl⟩ : ∃ g, va = some g := by
    rcases hr.form with ⟨h1, h2⟩ | ⟨g, cap, h1, -⟩
    · have hy0 := HZ.out.2.2.2; rw [h2] at hy0; simp at hy0
    · cases h1; exact ⟨_, rfl⟩
  obtain ⟨ht2, hvn, -⟩ := hr.tat hyl hyk
  have HX := Lib.hid (And.intro hC2 (And.intro (H.out.2.1.trans (hb2.mono H.out.2.1.size)) (And.intro hr hvn)))
  clear hC2 hb2 hr ht2 hvn
  go_wp2_with (refine wpList_store_row rfl 27 _ _ rfl (w.heap.size + 2) #[.slice (some g) vn vc] rfl rfl 27 #[.slice none 0 0] HX.out.1 info24 rfl (by simp [Value.oneCell']) ?_)
  have hrow := HX.out.1.setRow #[.slice (some g) vn vc]
  have hrc := hrow.cell 0 (v := .slice (some g) vn vc) rfl
  have hot := (HX.out.2.2.1.setRow24 HX.out.1 #[.slice (some g) vn vc]).tat hyl hyk
  refine bodyPost_ret (v := .tuple #[.agg #[.slice (some g) vn vc], .bool true]) (by simp [results, Tryz.results28, go_sem, hrc]) rfl ⟨some g, vc, by rw [HX.out.2.2.2], hot.1, below_setRow HX.out.2.1 _ _ (by omega)⟩
end Go.Proofs.YtieoiklgoeclaaaGreat
namespace Go.Proofs.YtieoiklgoeclaaaGreat
open Go.RowKit

theorem kid_out (w : World) (a : Option Addr) (nc : Nat) (xs : List Nd) (i : Int) (x0 : Nd) (K : Fo) (hxs : xs = (Fo.cons x0 K .nil).flat) (hk : TAt w a xs) (ht : TxtIn xs) (hc : xs.length ≤ nc) (hi : i < 0 ∨ (K.cnt : Int) ≤ i) :
    Calls Tryz.prog 28 #[.agg #[.slice a xs.length nc], .int .i64 i] w (NoKid w) :=
  kid_tail_none w a xs.length nc i fun W0 hb hA hB =>
    (askNs_ok W0 49 #[.pointer (some ⟨w.heap.size, 0, none⟩), .pointer (some ⟨w.heap.size + 1, 0, none⟩)] (fun v _ => v = .slice none 0 0) (fun v V x h => h) (fun w => callK 49 Tryz.f49 Tryz.func49 (by kernel_rfl) (by kernel_rfl) _ w)
      (fun w1 h1 _ => (clo48_out w1 w.heap.size (w.heap.size + 1) a nc xs i x0 K ⟨hxs, (hA.below h1 hA.lt).cell 0 rfl, Nat.lt_of_lt_of_le hA.lt h1.size, (hB.below h1 hB.lt).cell 0 rfl, Nat.lt_of_lt_of_le hB.lt h1.size, (hk.below hb (Nat.le_refl _)).below h1 (Nat.le_refl _), ht, hc⟩ hi).mono fun e w2 ⟨e1, e2⟩ => ⟨none, 0, 0, e1, rfl, e2⟩)).mono fun e w' ⟨a', n', c', h1, h2, h3⟩ => ⟨by rw [h1]; rw [h2], h3⟩
theorem kid_bad (w : World) (a : Option Addr) (nc : Nat) (xs : List Nd) (i : Int) (hi : inO xs = false) (hk : TAt w a xs) :
    Calls Tryz.prog 28 #[.agg #[.slice a xs.length nc], .int .i64 i] w (NoKid w) :=
  kid_tail_none w a xs.length nc i fun W0 hb hA hB =>
    askNs_thrown W0 49 #[.pointer (some ⟨w.heap.size, 0, none⟩), .pointer (some ⟨w.heap.size + 1, 0, none⟩)] (fun w => callK 49 Tryz.f49 Tryz.func49 (by kernel_rfl) (by kernel_rfl) _ w)
      (fun w1 h1 => clo48_bad w1 w.heap.size (w.heap.size + 1) a xs.length nc (ksOf xs) hk.2.1 ((hA.below h1 hA.lt).cell 0 rfl) ((hk.below hb (Nat.le_refl _)).below h1 (Nat.le_refl _)).ks (layOf_in hi))
theorem sameN_refl : ∀ xs : List Nd, sameN xs xs = true
  | [] => rfl
  | x :: xs => by simp [sameN, eqN, sameN_refl xs]
theorem fo_pre : ∀ (f g : Fo) (X Y : List Nd), f.cnt = g.cnt → f.flat ++ X = g.flat ++ Y → X = Y
  | .nil, .nil, X, Y, _, h => by simpa [Fo.flat] using h
  | .nil, .cons .., _, _, h, _ => by simp [Fo.cnt] at h
  | .cons .., .nil, _, _, h, _ => by simp [Fo.cnt] at h
  | .cons n k r, .cons n' k' r', X, Y, hc, h => by
    simp only [Fo.flat, List.cons_append, List.append_assoc] at h
    obtain ⟨h1, h2⟩ := List.cons.inj h
    have hk : k.cnt = k'.cnt := by
      have := congrArg Nd.kids h1
      simp only at this
      omega
    have h3 := fo_pre k k' _ _ hk h2
    exact fo_pre r r' X Y (by simpa [Fo.cnt] using hc) h3
theorem one_more {xs : List Nd} (h : inO xs = true) (x : Nd) : deepT (xs ++ [x]) = 0 := by
  rw [deep_zero]
  cases hi : inO (xs ++ [x]) with
  | false => rfl
  | true =>
    obtain ⟨f, f1, f2⟩ := fo_inO h
    obtain ⟨g, g1, g2⟩ := fo_inO hi
    have := fo_pre f g [x] [] (by omega) (by rw [f2, g2]; simp)
    cases this
theorem one_less {xs : List Nd} (h : inO xs = true) : deepT (xs.take (xs.length - 1)) = 0 := by
  rw [deep_zero]
  cases hi : inO (xs.take (xs.length - 1)) with
  | false => rfl
  | true =>
    obtain ⟨f, f1, f2⟩ := fo_inO h
    obtain ⟨g, g1, g2⟩ := fo_inO hi
    have := fo_pre g f (xs.drop (xs.length - 1)) [] (by omega) (by rw [f2, g2]; simp)
    have hl := congrArg List.length this
    have h0 : 0 < xs.length := by
      obtain ⟨E, D, l⟩ := inO_laid h
      exact l.1
    rw [List.length_drop] at hl
    simp at hl
    omega
theorem kidsFo_flat : ∀ f : Fo, (kidsFo f).flatten = f.flat
  | .nil => rfl
  | .cons n k r => by simp [kidsFo, Fo.flat, kidsFo_flat r]
theorem join_kids (x0 : Nd) (K : Fo) : joinL { x0 with kids := (K.cnt : Int) } (kidsFo K) = (Fo.cons x0 K .nil).flat := by
  unfold joinL
  rw [kidsFo_flat, kidsFo_len]
  simp [Fo.flat]
theorem tree_fo {xs : List Nd} (h : inO xs = true) : ∃ x0 K, xs = (Fo.cons x0 K .nil).flat := by
  obtain ⟨f, f1, f2⟩ := fo_inO h
  cases f with
  | nil => simp [Fo.cnt] at f1
  | cons n k r =>
    cases r with
    | nil => exact ⟨n, k, f2.symm⟩
    | cons _ _ _ => simp [Fo.cnt] at f1
theorem deep_tree (x0 : Nd) (K : Fo) : deepT (Fo.cons x0 K .nil).flat = K.dep + 1 := by
  rw [deep_fo _ rfl]; simp [Fo.dep]
theorem deep_two (n : Nd) (x0 : Nd) (K : Fo) : deepT (joinL n [(Fo.cons x0 K .nil).flat, (Fo.cons x0 K .nil).flat]) = K.dep + 2 := by
  have := join_fo n [Fo.cons x0 K .nil, Fo.cons x0 K .nil] (fun f hf => by simp at hf; subst hf; rfl)
  simp only [List.map_cons, List.map_nil] at this
  rw [this, deep_tree]
  simp [appAll, Fo.app, Fo.dep]
theorem same_self {xs : List Nd} (h : inO xs = true) (w : Words xs) : sameT xs xs = true := by
  unfold sameT
  rw [h, ordT_self w]; rfl
theorem kid_at {K : Fo} {j : Nat} {r : Fo} (h : (kidsFo K).drop j = kidsFo r) (hc : r.cnt + j = K.cnt) (hj : j < K.cnt) : ∃ n k r', r = .cons n k r' ∧ (kidsFo K)[j]? = some (Fo.cons n k .nil).flat ∧ (kidsFo K).drop (j + 1) = kidsFo r' := by
  cases r with
  | nil => simp [Fo.cnt] at hc; omega
  | cons n k r' =>
    refine ⟨n, k, r', rfl, ?_, ?_⟩
    · have := congrArg List.head? h
      rw [List.head?_drop] at this
      rw [this]; rfl
    · rw [← List.drop_drop, h]; rfl
theorem OwnK.ts {w : World} {B : Nat} {v : Value} {l : List TK} (h : OwnK w B v l) (hl : ∀ t ∈ l, t.xs.length ≤ 1000000 ∧ (∀ y ∈ t.xs, y.kids ≤ 9223372036854775807) ∧ TxtIn t.xs) : ∃ a c, v = .slice a l.length c ∧ l.length ≤ c ∧ (0 < l.length → ∃ g, a = some ⟨g, 0, none⟩ ∧ g < w.heap.size ∧ ∀ j (hj : j < l.length), w.cell? ⟨g, j, none⟩ = some l[j].v) ∧ TsAt w a l := by
  obtain ⟨a, c, h1, h2, h3⟩ := h.isSlice
  refine ⟨a, c, h1, h2, h3, ⟨fun h0 => ?_, fun t ht => ?_⟩⟩
  · obtain ⟨g, e, hg, hj⟩ := h3 h0
    exact ⟨g, 0, e, hg, fun j hj' => by rw [Nat.zero_add]; exact hj j hj'⟩
  · obtain ⟨k1, k2, k3⟩ := hl t ht
    have ho := h.2 t ht
    unfold TK.v at ho
    have := ho.tat k1 k2
    exact ⟨this.1, this.2.2, k3⟩
end Go.Proofs.YtieoiklgoeclaaaGreat
