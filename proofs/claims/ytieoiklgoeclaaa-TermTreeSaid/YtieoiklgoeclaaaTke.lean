/-
  Kids (19), Kid (20).
-/
import Derived.Test.YtieoiklgoeclaaaTkd
namespace Go.Proofs.Ytieoiklgoeclaaa
open Go.RowKit

theorem clo45_bad (w : World) (p : Nat) (a : Option Addr) (n nc : Nat) (ks : Nat → Int) (hn : n ≤ 1000000) (hp : w.cell? ⟨p, 0, none⟩ = some (.slice a n nc)) (hk : KsAt w a n ks) (hl : layOf ks n = none) :
    Calls Try.prog 45 #[.pointer (some ⟨p, 0, none⟩)] w fun e w' => ThrownT e ∧ Below w.heap.size w w' := by
  have h := laid_bad a n nc ks w hn hk (layOf_none hl)
  have H := Lib.hid h
  clear h hk hl hn
  go_enter Try.func45, Try.ntmps45
  go_wp2_with fail
  refine H.out.mono ?_
  rintro e w2 ⟨⟨v, rfl⟩, hb⟩
  have HB := Lib.hid hb
  clear hb
  go_wp2_with fail
  exact ⟨rfl, ⟨_, rfl⟩, HB.out⟩
theorem clo48_bad (w : World) (p q : Nat) (a : Option Addr) (n nc : Nat) (ks : Nat → Int) (hn : n ≤ 1000000) (hp : w.cell? ⟨p, 0, none⟩ = some (.slice a n nc)) (hk : KsAt w a n ks) (hl : layOf ks n = none) :
    Calls Try.prog 48 #[.pointer (some ⟨p, 0, none⟩), .pointer (some ⟨q, 0, none⟩)] w fun e w' => ThrownT e ∧ Below w.heap.size w w' := by
  have h := laid_bad a n nc ks w hn hk (layOf_none hl)
  have H := Lib.hid h
  clear h hk hl hn
  go_enter Try.func48, Try.ntmps48
  go_wp2_with fail
  refine H.out.mono ?_
  rintro e w2 ⟨⟨v, rfl⟩, hb⟩
  have HB := Lib.hid hb
  clear hb
  go_wp2_with fail
  exact ⟨rfl, ⟨_, rfl⟩, HB.out⟩
theorem layOf_in {xs : List Nd} (h : inO xs = false) : layOf (ksOf xs) xs.length = none := by
  unfold inO inOrd at h
  cases hl : layOf (ksOf xs) xs.length with
  | none => rfl
  | some y => rw [hl] at h; cases h
def KidsR (B : Nat) (K : Fo) (v : Value) (V : World) : Prop := ∃ l : List TK, OwnK V B v l ∧ l.map TK.xs = kidsFo K
set_option maxRecDepth 100000 in
theorem kids_ok (w : World) (a : Option Addr) (nc : Nat) (xs : List Nd) (x0 : Nd) (K : Fo) (hxs : xs = (Fo.cons x0 K .nil).flat) (hk : TAt w a xs) (ht : TxtIn xs) (hc : xs.length ≤ nc) :
    Calls Try.prog 19 #[.agg #[.slice a xs.length nc]] w (SliceR w (KidsR w.heap.size K)) := by
  have hmf : ∀ (fn : Fn) (first cap : Array Value) (w : World), (Instr.makeFunc fn first cap).run Try.prog w = .ok (.func fn first cap) w := fun _ _ _ _ => rfl
  have hb : Below w.heap.size w (w.alloc (.cells #[.slice a xs.length nc] 24)) := (Below.refl _ _).alloc (Nat.le_refl _) _
  have hA := Lies.new w #[.slice a xs.length nc] 24
  have h := askTs_ok (w.alloc (.cells #[.slice a xs.length nc] 24)) 45 #[.pointer (some ⟨w.heap.size, 0, none⟩)] (KidsR ((w.alloc (.cells #[.slice a xs.length nc] 24)).heap.size + 2) K)
    (fun v V x ⟨l, h1, h2⟩ => ⟨l, h1.setCell _ _ (by simp), h2⟩) (fun w => callK 45 Try.f45 Try.func45 (by kernel_rfl) (by kernel_rfl) _ w)
    (fun w1 h1 hs => (clo45_ok w1 w.heap.size a nc xs x0 K hxs ((hA.below h1 hA.lt).cell 0 rfl) (Nat.lt_of_lt_of_le hA.lt h1.size) ((hk.below hb (Nat.le_refl _)).below h1 (Nat.le_refl _)) ht hc).mono fun e w2 ⟨va, vn, vc, e1, ⟨l, e2, e3⟩, e4⟩ => ⟨va, vn, vc, e1, ⟨l, e2.mono hs, e3⟩, e4⟩)
  have H := Lib.hid (And.intro h hb)
  obtain ⟨n, hn⟩ : ∃ n, n = xs.length := ⟨_, rfl⟩
  rw [← hn] at H ⊢
  clear h hb hA hk ht hc hxs hn
  go_enter Try.func19, Try.ntmps19
  go_wp2_with fail
  refine H.out.1.mono ?_
  rintro e w2 ⟨va, vn, vc, rfl, hr, hb2⟩
  have HB := Lib.hid (And.intro hr (H.out.2.trans (hb2.mono H.out.2.size)))
  clear hr hb2
  go_wp2_with fail
  go_ret
  obtain ⟨l, e2, e3⟩ := HB.out.1
  exact ⟨va, vn, vc, rfl, ⟨l, e2.mono (by simp; omega), e3⟩, HB.out.2⟩
set_option maxRecDepth 100000 in
theorem kids_bad (w : World) (a : Option Addr) (nc : Nat) (xs : List Nd) (hi : inO xs = false) (hk : TAt w a xs) :
    Calls Try.prog 19 #[.agg #[.slice a xs.length nc]] w fun e w' => e = .returned (.slice none 0 0) ∧ Below w.heap.size w w' := by
  have hmf : ∀ (fn : Fn) (first cap : Array Value) (w : World), (Instr.makeFunc fn first cap).run Try.prog w = .ok (.func fn first cap) w := fun _ _ _ _ => rfl
  have hb : Below w.heap.size w (w.alloc (.cells #[.slice a xs.length nc] 24)) := (Below.refl _ _).alloc (Nat.le_refl _) _
  have hA := Lies.new w #[.slice a xs.length nc] 24
  have h := askTs_thrown (w.alloc (.cells #[.slice a xs.length nc] 24)) 45 #[.pointer (some ⟨w.heap.size, 0, none⟩)] (fun w => callK 45 Try.f45 Try.func45 (by kernel_rfl) (by kernel_rfl) _ w)
    (fun w1 h1 => clo45_bad w1 w.heap.size a xs.length nc (ksOf xs) hk.2.1 ((hA.below h1 hA.lt).cell 0 rfl) ((hk.below hb (Nat.le_refl _)).below h1 (Nat.le_refl _)).ks (layOf_in hi))
  have H := Lib.hid (And.intro h hb)
  obtain ⟨n, hn⟩ : ∃ n, n = xs.length := ⟨_, rfl⟩
  rw [← hn] at H ⊢
  clear h hb hA hk hi hn
  go_enter Try.func19, Try.ntmps19
  go_wp2_with fail
  refine H.out.1.mono ?_
  rintro e w2 ⟨rfl, hb2⟩
  have HB := Lib.hid (H.out.2.trans (hb2.mono H.out.2.size))
  clear hb2
  go_wp2_with fail
  go_ret
  exact ⟨rfl, HB.out⟩
theorem nodes_some (w : World) (a : Option Addr) (l c : Nat) : (binOp .neq 22 (.slice a l c) (.slice none 0 0)).run Try.prog w = .ok (.bool (!a.isNone)) w := Go.run_neq_slice_nil_any w _ _ a l c 0 0 Try.underlying22
/-- What is told where there is no kid. -/
def NoKid (w : World) (e : Ending) (w' : World) : Prop := e = .returned (.tuple #[.agg #[.slice none 0 0], .bool false]) ∧ Below w.heap.size w w'
set_option maxRecDepth 100000 in
set_option maxHeartbeats 1000000 in
theorem kid_tail_none (w : World) (a : Option Addr) (n nc : Nat) (i : Int)
    (h : ∀ W0, Below w.heap.size w W0 → Lies W0 w.heap.size #[.slice a n nc] 24 → Lies W0 (w.heap.size + 1) #[.int .i64 i] 3 → Calls Try.prog 47 #[.slice none 0 0, .func (Fn.func 48) #[] #[.pointer (some ⟨w.heap.size, 0, none⟩), .pointer (some ⟨w.heap.size + 1, 0, none⟩)]] W0 fun e w' => e = .returned (.slice none 0 0) ∧ Below W0.heap.size W0 w') :
    Calls Try.prog 20 #[.agg #[.slice a n nc], .int .i64 i] w (NoKid w) := by
  have hmf : ∀ (fn : Fn) (first cap : Array Value) (w : World), (Instr.makeFunc fn first cap).run Try.prog w = .ok (.func fn first cap) w := fun _ _ _ _ => rfl
  have hA : Lies (((w.alloc (.cells #[.slice a n nc] 24)).alloc (.cells #[.int .i64 i] 3)).alloc (.cells #[.slice none 0 0] 24)) w.heap.size #[.slice a n nc] 24 := ((Lies.new _ _ _).alloc _).alloc _
  have hB : Lies (((w.alloc (.cells #[.slice a n nc] 24)).alloc (.cells #[.int .i64 i] 3)).alloc (.cells #[.slice none 0 0] 24)) (w.heap.size + 1) #[.int .i64 i] 3 := by
    have := (Lies.new (w.alloc (.cells #[.slice a n nc] 24)) #[.int .i64 i] 3).alloc (.cells #[.slice none 0 0] 24)
    simpa using this
  have hC : Lies (((w.alloc (.cells #[.slice a n nc] 24)).alloc (.cells #[.int .i64 i] 3)).alloc (.cells #[.slice none 0 0] 24)) (w.heap.size + 2) #[.slice none 0 0] 24 := by
    have := Lies.new ((w.alloc (.cells #[.slice a n nc] 24)).alloc (.cells #[.int .i64 i] 3)) #[.slice none 0 0] 24
    simpa using this
  have hb0 : Below w.heap.size w (((w.alloc (.cells #[.slice a n nc] 24)).alloc (.cells #[.int .i64 i] 3)).alloc (.cells #[.slice none 0 0] 24)) := (((Below.refl _ _).alloc (Nat.le_refl _) _).alloc (by simp) _).alloc (by simp; omega) _
  have hh := h _ hb0 hA hB
  have H := Lib.hid (And.intro hh (And.intro hb0 hC))
  have hq := nodes_some
  clear h hh hA hB hC hb0
  go_enter Try.func20, Try.ntmps20
  go_upto_region 1 with fail
  generalize ((w.alloc (.cells #[.slice a n nc] 24)).alloc (.cells #[.int .i64 i] 3)).alloc (.cells #[.slice none 0 0] 24) = W0 at H ⊢
  go_wp2_with fail
  refine H.out.1.mono ?_
  rintro e w2 ⟨rfl, hb2⟩
  have hC2 := H.out.2.2.below hb2 H.out.2.2.lt
  have HX := Lib.hid (And.intro hC2 (H.out.2.1.trans (hb2.mono H.out.2.1.size)))
  clear hC2 hb2
  go_wp2_with (refine wpList_store_row rfl 24 _ _ rfl (w.heap.size + 2) #[.slice none 0 0] rfl rfl 24 #[.slice none 0 0] HX.out.1 info24 rfl (by simp [Value.oneCell']) ?_)
  have hrow := HX.out.1.setRow #[.slice none 0 0]
  have hrc := hrow.cell 0 (v := .slice none 0 0) rfl
  refine bodyPost_ret (v := .tuple #[.agg #[.slice none 0 0], .bool false]) (by simp [results, Try.results20, go_sem, hrc]) rfl ⟨rfl, below_setRow HX.out.2 _ _ (by omega)⟩
end Go.Proofs.Ytieoiklgoeclaaa
