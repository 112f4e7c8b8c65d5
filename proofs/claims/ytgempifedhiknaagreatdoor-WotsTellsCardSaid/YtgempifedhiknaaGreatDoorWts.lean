/-
  The document's own key of a seed (9).
  Two signatures whose order Go leaves open, behind what was taken first, stored into two new rows of one cell: they lie in two blocks.
-/
import Derived.Test.YtgempifedhiknaaGreatDoorWrs
import Derived.Test.YtgempifedhiknaaGreatDoorAph
namespace Go.Proofs.YtgempifedhiknaaGreatDoor
open Go.RowKit Go.Shelf Sha

/-- One hash more, whether there was a row or none. -/
theorem wpList_moreN {w : World} {ops : Array Oper} {rest : List Oper} {o : Oper} {a : Act} {Q : Exit → Act → World → Prop} (hg : o.guard = none) (s x : Operand) (ho : o.op = .call { callee := .builtin .append, args := #[s, x], argTypes := #[26, 26] })
    {B n : Nat} {l : List UInt8} {v : Value} (hr : RowH B n l v w) (hn : n ≤ 1000) (hB : B ≤ w.heap.size) (g : Nat) (h : List UInt8) (hh : h.length = 32) (hl : Lies w g (B8 h) 24)
    (hs : a.eval s = v) (hx : a.eval x = .slice (some ⟨g, 0, none⟩) 1 1)
    (k : ∀ v' w', RowH B (n + 1) (l ++ h) v' w' → w.grownBy w' v.ownBlock → v'.oneCell' = true → wpList Tryz.prog ops Q rest (a.put o.dst v') w') : wpList Tryz.prog ops Q (o :: rest) a w :=
  wpList_plain hg fun K hK => by
    obtain ⟨v', w', h1, h2, h3, h4⟩ := run_moreH hr hn hB g h hh hl o.type
    unfold Oper.wp execOp
    simp only [ho, resolve, invoke, builtin, Sem.run_bind, Sem.run_pure, Result.andThen_ok, List.map_toArray, List.map_cons, List.map_nil, hs, hx, h1]
    exact hK _ _ (k v' w' h2 h3 h4)
/-- The ends of the first k chains of a seed. -/
def endsK (xs : List UInt8) (k : Nat) : List UInt8 := (List.range k).flatMap fun i => atH xs i 15
theorem endsK_succ (xs : List UInt8) (k : Nat) : endsK xs (k + 1) = endsK xs k ++ atH xs k 15 := by simp [endsK, List.range_succ]
theorem endsK_all (xs : List UInt8) : sha (endsK xs 35) = keyH xs := rfl
set_option maxRecDepth 100000 in
set_option maxHeartbeats 2000000 in
theorem rkey_any (w : World) (pa : Option Addr) (xs : List UInt8) (pc : Nat) (hx : xs.length ≤ 900000) (hg : Good w ⟨pa, xs, pc⟩) (hn : pa = none → pc = 0) :
    Calls Tryz.prog 9 #[.slice pa xs.length pc] w fun e w' => e = .returned (.agg (B8 (keyH xs))) ∧ Below w.heap.size w w' := by
  obtain ⟨z, hz⟩ : ∃ z : Array Value, z = z32 := ⟨_, rfl⟩
  have HX := Lib.hid (And.intro hx (And.intro hg hn))
  clear hx hg hn
  go_enter Tryz.func9, Tryz.ntmps9
  go_upto_region 1 with fail
  rw [show (#[Value.int .u8 0, .int .u8 0, .int .u8 0, .int .u8 0, .int .u8 0, .int .u8 0, .int .u8 0, .int .u8 0, .int .u8 0, .int .u8 0, .int .u8 0, .int .u8 0, .int .u8 0, .int .u8 0, .int .u8 0, .int .u8 0, .int .u8 0, .int .u8 0, .int .u8 0, .int .u8 0, .int .u8 0, .int .u8 0, .int .u8 0, .int .u8 0, .int .u8 0, .int .u8 0, .int .u8 0, .int .u8 0, .int .u8 0, .int .u8 0, .int .u8 0, .int .u8 0] : Array Value) = z from by rw [hz]; kernel_rfl]
  have hC : Lies (w.alloc (.cells z 24)) w.heap.size z 24 := Lies.new _ _ _
  have hb0 : Below w.heap.size w (w.alloc (.cells z 24)) := (Below.refl _ _).alloc (Nat.le_refl _) _
  generalize w.alloc (.cells z 24) = W0 at hC hb0 ⊢
  have H0 := Lib.hid (And.intro hC (And.intro hb0 hz))
  clear hC hb0 hz
  go_wp2_with fail
  go_loopw [3, 4] (fun v i W => ∃ k : Nat, k ≤ 35 ∧ i = .int .i64 k ∧ RowH W0.heap.size k (endsK xs k) v W ∧ Below W0.heap.size W0 W) (fun _ i _ => 35 - (intOf i).toNat)
  case atStart => exact ⟨0, by omega, rfl, RowH.nil _ _, Below.refl _ _⟩
  case round =>
    obtain ⟨k, hk, rfl, hr, hb⟩ := hrel
    by_cases hlt : k < 35
    · have m1 : (k : Int) < 35 := by omega
      have hat := rat_any wr pa xs pc k 15 (by omega) (Nat.le_refl _) HX.out.1 (HX.out.2.1.below (H0.out.2.1.trans (hb.mono H0.out.2.1.size))) HX.out.2.2
      obtain ⟨hN, hhN⟩ : ∃ h, h = atH xs k 15 := ⟨_, rfl⟩
      have hNl : hN.length = 32 := by rw [hhN]; exact atH_length _ _ _
      rw [← hhN] at hat
      have HR := Lib.hid (And.intro hr (And.intro hb (And.intro hlt (And.intro hhN hNl))))
      have HAT := Lib.hid hat
      clear hr hb hlt hk hat hhN hNl
      go_wp2_with (first
        | (go_at_call 20; refine HAT.out.mono ?_; rintro e w5 ⟨rfl, hb5⟩
           have hb6 : Below wr.heap.size wr (w5.alloc (.cells (B8 hN) 24)) := hb5.alloc hb5.size _
           have H6 := Lib.hid (And.intro (row_below HR.out.1 hb6) (And.intro (HR.out.2.1.trans (hb6.mono HR.out.2.1.size)) (Lies.new w5 (B8 hN) 24)))
           have HSZ := Lib.hid (show W0.heap.size ≤ (w5.alloc (.cells (B8 hN) 24)).heap.size from H6.out.2.1.size)
           clear hb5 hb6)
        | (refine wpList_oneM rfl _ rfl hN HR.out.2.2.2.2 rfl ?_)
        | (at_builtin; go_must (refine wpList_moreN rfl _ _ rfl H6.out.1 (by have := HR.out.2.2.1; omega) HSZ.out w5.heap.size hN HR.out.2.2.2.2 H6.out.2.2 rfl rfl ?_)
           intro v' w7 hrow hgr _
           obtain ⟨g7, c7, rfl, _⟩ := hrow.shape (by omega)
           have hb7 : Below W0.heap.size W0 w7 := H6.out.2.1.grown hgr HSZ.out (fun j e => (H6.out.1.block j e).1)
           rw [HR.out.2.2.2.1, ← endsK_succ] at hrow
           have H7 := Lib.hid (And.intro hrow hb7)
           clear hrow hgr hb7))
      refine ⟨⟨k + 1, by have := HR.out.2.2.1; omega, by go_num, H7.out⟩, ?_⟩
      have := HR.out.2.2.1
      simp [intOf]; omega
    · obtain rfl : k = 35 := by omega
      have m1 : decide (((35 : Nat) : Int) < 35) = false := by decide
      obtain ⟨g5, c5, rfl, _⟩ := hr.shape (by omega)
      have ho := rowner_any (endsK xs 35) g5 c5 (by have := hr.len; omega) wr (hr.block g5 rfl).2.1 hr.src
      obtain ⟨x, hx⟩ : ∃ x, x = sha (endsK xs 35) := ⟨_, rfl⟩
      have hxl : (B8 x).size = 32 := by rw [B8_size, hx]; rfl
      have hxo : x = keyH xs := by rw [hx, endsK_all]
      rw [← hx] at ho
      have HO := Lib.hid (And.intro ho (And.intro hxl (And.intro hxo hb)))
      clear ho hx hxl hxo hb hr hlt hk
      go_wp2_with (first
        | (go_at_call 23; refine HO.out.1.mono ?_; rintro e w6 ⟨rfl, hb6⟩
           have hb7 := HO.out.2.2.2.trans (hb6.mono HO.out.2.2.2.size)
           have H7 := Lib.hid (And.intro (H0.out.1.below hb7 H0.out.1.lt) (H0.out.2.1.trans (hb7.mono H0.out.2.1.size)))
           clear hb6 hb7)
        | (refine wpList_store_row rfl 24 _ _ rfl w.heap.size (B8 x) rfl rfl 24 z H7.out.1 (by rw [HO.out.2.1]; kernel_rfl) (by rw [HO.out.2.1, H0.out.2.2]; rfl) (B8_one _) ?_))
      refine bodyPost_ret (v := .agg (B8 x)) (results_cell_row (p := 2) (ty := 24) (by kernel_rfl) _ _ w.heap.size 24 (B8 x) (0, 0) _ rfl (H7.out.1.setRow _) Tryz.underlying24 rfl (by rw [HO.out.2.1]; kernel_rfl)) rfl ⟨by rw [HO.out.2.2.1], below_setRow H7.out.2 _ _ (Nat.le_refl _)⟩
end Go.Proofs.YtgempifedhiknaaGreatDoor
namespace Go.Proofs.YtgempifedhiknaaGreatDoor
set_option maxRecDepth 100000
open Go.RowKit Go.Shelf Sha Go.Sort

/-- A signature as it is told. -/
def SigW (F : List UInt8) (base : Nat) (v : Value) (w : World) : Prop := ∃ g c cs, v = .agg #[.slice (some ⟨g, 0, none⟩) 35 c] ∧ w.heap[g]? = some (.cells cs 24 (0, 0)) ∧ (∀ j, j < F.length → cs[j]? = some (.int .u8 (F.getD j 0).toNat)) ∧ cs.size = c * 32 ∧ 35 ≤ c ∧ c ≤ maxLen ∧ base ≤ g
/-- The block that a signature lies in. -/
def blkOf : Value → Nat
  | .agg #[.slice (some a) _ _] => a.block
  | _ => 0
theorem SigW.step {F : List UInt8} {base : Nat} {v : Value} {w w' : World} (h : SigW F base v w) (hk : ∀ (g : Nat) cs, w.heap[g]? = some (.cells cs 24 (0, 0)) → w'.heap[g]? = some (.cells cs 24 (0, 0))) : SigW F base v w' := by
  obtain ⟨g, c, cs, e, h1, h2⟩ := h
  exact ⟨g, c, cs, e, hk _ _ h1, h2⟩
theorem SigW.below {F : List UInt8} {base : Nat} {v : Value} {w w' : World} (h : SigW F base v w) (hb : Below w.heap.size w w') : SigW F base v w' :=
  h.step fun g _ hg => (hb.block g (Array.getElem?_eq_some_iff.1 hg).1).trans hg
theorem SigW.alloc {F : List UInt8} {base : Nat} {v : Value} {w : World} (h : SigW F base v w) (o : Obj) : SigW F base v (w.alloc o) :=
  h.step fun g _ hg => (Below.heap_alloc w o g (Array.getElem?_eq_some_iff.1 hg).1).trans hg
theorem SigW.setRow {F : List UInt8} {base : Nat} {v : Value} {w : World} (h : SigW F base v w) {b : Nat} {old : Array Value} (hl : Lies w b old 28) (cs' : Array Value) : SigW F base v (w.setRow b cs') :=
  h.step fun g cs hg => (setRow_other w b g cs' (fun e => by subst e; unfold Lies at hl; rw [hl] at hg; simp at hg)).trans hg
theorem SigW.lt {F : List UInt8} {base : Nat} {v : Value} {w : World} (h : SigW F base v w) : blkOf v < w.heap.size := by
  obtain ⟨g, c, cs, rfl, h1, _⟩ := h
  exact (Array.getElem?_eq_some_iff.1 h1).1
theorem SigW.new {F : List UInt8} {base : Nat} {v : Value} {w : World} (h : SigW F base v w) : base ≤ blkOf v := by
  obtain ⟨g, c, cs, rfl, _, _, _, _, _, h1⟩ := h
  exact h1
theorem SigW.mono {F : List UInt8} {base b2 : Nat} {v : Value} {w : World} (h : SigW F base v w) (hb : b2 ≤ base) : SigW F b2 v w := by
  obtain ⟨g, c, cs, e, h1, h2, h3, h4, h5, h6⟩ := h
  exact ⟨g, c, cs, e, h1, h2, h3, h4, h5, Nat.le_trans hb h6⟩
theorem sigw_of {B : Nat} {F : List UInt8} {v : Value} {w : World} (h : RowH B 35 F v w) : SigW F B (.agg #[v]) w := by
  rcases h.2 with ⟨_, h0⟩ | ⟨g, cap, cur, rfl, hb, hg, h1, h2, h3, _⟩
  · cases h0
  · refine ⟨g, cap, cur, rfl, hg, fun j hj => ?_, h3, h1, h2, hb⟩
    have := h.src j hj
    rw [Nat.zero_add, cell_of_row w g j cur 24 (0, 0) hg] at this
    exact this
/-- What has come up. -/
def SigJ (w0 : World) (F1 F2 : List UInt8) (a0 : Act) (s1 s2 p1 p2 : Tmp) (l : Array Bool) (a : Act) (w : World) : Prop :=
  ∃ c1 c2 n1 n2 t1 t2 : Bool, l = #[true, true, c1, true, true, c2, n1, n2, t1, t2] ∧ ∃ (v1 v2 v3 v4 : Value) (g1 g2 : Nat) (x1 x2 : Value), a = put4 a0 s1 s2 p1 p2 v1 v2 v3 v4 ∧
    (c1 = true → SigW F1 w0.heap.size v1 w) ∧ (c2 = true → SigW F2 w0.heap.size v2 w) ∧
    (n1 = true → v3 = .pointer (some ⟨g1, 0, none⟩) ∧ w0.heap.size ≤ g1 ∧ Lies w g1 #[x1] 28 ∧ (t1 = true → v1 = .agg #[x1])) ∧
    (n2 = true → v4 = .pointer (some ⟨g2, 0, none⟩) ∧ w0.heap.size ≤ g2 ∧ Lies w g2 #[x2] 28 ∧ (t2 = true → v2 = .agg #[x2])) ∧
    (n1 = true → n2 = true → g1 ≠ g2) ∧ Below w0.heap.size w0 w ∧ (t1 = true → n1 = true ∧ c1 = true) ∧ (t2 = true → n2 = true ∧ c2 = true) ∧ (c1 = true → c2 = true → blkOf v1 ≠ blkOf v2)
theorem signs3_any {ops : Array Oper} {Q : Exit → Act → World → Prop} (w0 : World) (F1 F2 : List UInt8) (a0 : Act) (s1 s2 p1 p2 : Tmp)
    (h12 : s1 ≠ s2) (h13 : s1 ≠ p1) (h14 : s1 ≠ p2) (h23 : s2 ≠ p1) (h24 : s2 ≠ p2) (h34 : p1 ≠ p2) (z1 : s1 < a0.tmps.size) (z2 : s2 < a0.tmps.size) (z3 : p1 < a0.tmps.size) (z4 : p2 < a0.tmps.size)
    (f : FuncId) (args1 args2 : Array Value) (o2 o5 o6 o7 o8 o9 : Oper)
    (i2 : ops[2]? = some o2) (gd2 : o2.guard = none) (d2 : o2.dst = some s1) (r2 : ∀ v1 v2 v3 v4 w, (execOp (put4 a0 s1 s2 p1 p2 v1 v2 v3 v4).eval o2).run Tryz.prog w = .ok (.enter f args1) w)
    (i5 : ops[5]? = some o5) (gd5 : o5.guard = none) (d5 : o5.dst = some s2) (r5 : ∀ v1 v2 v3 v4 w, (execOp (put4 a0 s1 s2 p1 p2 v1 v2 v3 v4).eval o5).run Tryz.prog w = .ok (.enter f args2) w)
    (i6 : ops[6]? = some o6) (gd6 : o6.guard = none) (d6 : o6.dst = some p1) (op6 : o6.op = .alloc 28)
    (i7 : ops[7]? = some o7) (gd7 : o7.guard = none) (d7 : o7.dst = some p2) (op7 : o7.op = .alloc 28)
    (i8 : ops[8]? = some o8) (gd8 : o8.guard = none) (d8 : o8.dst = none) (op8 : o8.op = .store 28 (.tmp p1) (.tmp s1))
    (i9 : ops[9]? = some o9) (gd9 : o9.guard = none) (d9 : o9.dst = none) (op9 : o9.op = .store 28 (.tmp p2) (.tmp s2))
    (hr : sigReadyB ops = true)
    (hc1 : ∀ W, Below w0.heap.size w0 W → Calls Tryz.prog f args1 W fun e w' => ∃ v, e = .returned v ∧ SigW F1 W.heap.size v w' ∧ Below W.heap.size W w')
    (hc2 : ∀ W, Below w0.heap.size w0 W → Calls Tryz.prog f args2 W fun e w' => ∃ v, e = .returned v ∧ SigW F2 W.heap.size v w' ∧ Below W.heap.size W w')
    (hQ : ∀ v1 v2 g1 g2 x1 x2 w', w0.heap.size ≤ g1 → w0.heap.size ≤ g2 → SigW F1 w0.heap.size (.agg #[x1]) w' → SigW F2 w0.heap.size (.agg #[x2]) w' → blkOf (.agg #[x1]) ≠ blkOf (.agg #[x2]) → Lies w' g1 #[x1] 28 → Lies w' g2 #[x2] 28 → Below w0.heap.size w0 w' →
      Q .normal (put4 a0 s1 s2 p1 p2 v1 v2 (.pointer (some ⟨g1, 0, none⟩)) (.pointer (some ⟨g2, 0, none⟩))) w')
    (w : World) (hb : Below w0.heap.size w0 w) : wpAnyH Tryz.prog .any ops Q (Below w0.heap.size w0) 6 #[true, true, false, true, true, false, false, false, false, false] a0 w := by
  refine wpAnyH_inv (SigJ w0 F1 F2 a0 s1 s2 p1 p2) ?_ ?_ 6 _ _ _ (by decide) ?_
  · rintro l a w1 ⟨c1, c2, n1, n2, t1, t2, rfl, v1, v2, v3, v4, g1, g2, x1, x2, rfl, k1, k2, k3, k4, k5, k6, _, _, k10⟩ hnil
    obtain ⟨rfl, rfl, rfl, rfl, rfl, rfl⟩ := (sig_ready hr c1 c2 n1 n2 t1 t2).2 hnil
    obtain ⟨rfl, b1, y1, e1⟩ := k3 rfl
    obtain ⟨rfl, b2, y2, e2⟩ := k4 rfl
    have q1 := k1 rfl
    have q2 := k2 rfl
    rw [e1 rfl] at q1
    rw [e2 rfl] at q2
    have q3 := k10 rfl rfl
    rw [e1 rfl, e2 rfl] at q3
    exact hQ _ _ g1 g2 x1 x2 w1 b1 b2 q1 q2 q3 y1 y2 k6
  · rintro l a w1 i ⟨c1, c2, n1, n2, t1, t2, rfl, v1, v2, v3, v4, g1, g2, x1, x2, rfl, k1, k2, k3, k4, k5, k6, k8, k9, k10⟩ hi
    rcases (sig_ready hr c1 c2 n1 n2 t1 t2).1 i hi with ⟨rfl, e⟩ | ⟨rfl, e⟩ | ⟨rfl, e⟩ | ⟨rfl, e⟩ | ⟨rfl, e, e1, e2⟩ | ⟨rfl, e, e1, e2⟩
    · refine wpOp_call i2 gd2 f args1 (r2 _ _ _ _ _) (fun v w' => SigW F1 w1.heap.size v w' ∧ Below w1.heap.size w1 w') (hc1 w1 k6) ?_
      rintro v w' ⟨hv, hb'⟩
      rw [d2, put4_1 _ _ _ _ _ _ _ _ _ _ h12 h13 h14]
      have ht : t1 = false := by
        cases t1
        · rfl
        · have := (k8 rfl).2; rw [e] at this; cases this
      subst ht
      have hb2 := k6.trans (hb'.mono k6.size)
      refine ⟨hb2, true, c2, n1, n2, false, t2, rfl, v, v2, v3, v4, g1, g2, x1, x2, rfl, fun _ => hv.mono k6.size, fun h => (k2 h).below hb', fun h => ?_, fun h => ?_, k5, hb2, fun h => (by cases h), k9, fun _ h => by have := hv.new; have := (k2 h).lt; omega⟩
      · exact ⟨(k3 h).1, (k3 h).2.1, (k3 h).2.2.1.below hb' (k3 h).2.2.1.lt, fun h => (by cases h)⟩
      · exact ⟨(k4 h).1, (k4 h).2.1, (k4 h).2.2.1.below hb' (k4 h).2.2.1.lt, (k4 h).2.2.2⟩
    · refine wpOp_call i5 gd5 f args2 (r5 _ _ _ _ _) (fun v w' => SigW F2 w1.heap.size v w' ∧ Below w1.heap.size w1 w') (hc2 w1 k6) ?_
      rintro v w' ⟨hv, hb'⟩
      rw [d5, put4_2 _ _ _ _ _ _ _ _ _ _ h23 h24]
      have ht : t2 = false := by
        cases t2
        · rfl
        · have := (k9 rfl).2; rw [e] at this; cases this
      subst ht
      have hb2 := k6.trans (hb'.mono k6.size)
      refine ⟨hb2, c1, true, n1, n2, t1, false, rfl, v1, v, v3, v4, g1, g2, x1, x2, rfl, fun h => (k1 h).below hb', fun _ => hv.mono k6.size, fun h => ?_, fun h => ?_, k5, hb2, k8, fun h => (by cases h), fun h _ => by have := hv.new; have := (k1 h).lt; omega⟩
      · exact ⟨(k3 h).1, (k3 h).2.1, (k3 h).2.2.1.below hb' (k3 h).2.2.1.lt, (k3 h).2.2.2⟩
      · exact ⟨(k4 h).1, (k4 h).2.1, (k4 h).2.2.1.below hb' (k4 h).2.2.1.lt, fun h => (by cases h)⟩
    · refine wpOp_wp i6 gd6 (wp_alloc24 op6 ?_)
      rw [d6, put4_3 _ _ _ _ _ _ _ _ _ _ h34]
      have ht : t1 = false := by
        cases t1
        · rfl
        · have := (k8 rfl).1; rw [e] at this; cases this
      subst ht
      have hb2 := k6.alloc k6.size (.cells #[.slice none 0 0] 28)
      refine ⟨hb2, c1, c2, true, n2, false, t2, rfl, v1, v2, _, v4, w1.heap.size, g2, _, x2, rfl, fun h => (k1 h).alloc _, fun h => (k2 h).alloc _, fun _ => ⟨rfl, k6.size, Lies.new w1 _ 28, fun h => (by cases h)⟩, fun h => ?_, fun _ h2 he => ?_, hb2, (fun h => by cases h), k9, k10⟩
      · exact ⟨(k4 h).1, (k4 h).2.1, (k4 h).2.2.1.alloc _, (k4 h).2.2.2⟩
      · have := (k4 h2).2.2.1.lt; omega
    · refine wpOp_wp i7 gd7 (wp_alloc24 op7 ?_)
      rw [d7, put4_4]
      have ht : t2 = false := by
        cases t2
        · rfl
        · have := (k9 rfl).1; rw [e] at this; cases this
      subst ht
      have hb2 := k6.alloc k6.size (.cells #[.slice none 0 0] 28)
      refine ⟨hb2, c1, c2, n1, true, t1, false, rfl, v1, v2, v3, _, g1, w1.heap.size, x1, _, rfl, fun h => (k1 h).alloc _, fun h => (k2 h).alloc _, fun h => ?_, fun _ => ⟨rfl, k6.size, Lies.new w1 _ 28, fun h => (by cases h)⟩, fun h1 _ he => ?_, hb2, k8, (fun h => by cases h), k10⟩
      · exact ⟨(k3 h).1, (k3 h).2.1, (k3 h).2.2.1.alloc _, (k3 h).2.2.2⟩
      · have := (k3 h1).2.2.1.lt; omega
    · obtain ⟨rfl, b1, y1, _⟩ := k3 e2
      subst e e1 e2
      have hk1 := k1 rfl
      obtain ⟨g, c, cs, rfl, hcs, hF⟩ := k1 rfl
      refine wpOp_wp i8 gd8 (wp_store_row 28 (.tmp p1) (.tmp s1) op8 g1 #[.slice (some ⟨g, 0, none⟩) 35 c] (eval4_3 _ _ _ _ _ _ _ _ _ (Ne.symm h34) z3) (eval4_1 _ _ _ _ _ _ _ _ _ (Ne.symm h12) (Ne.symm h13) (Ne.symm h14) z1) 28 _ y1 info24 rfl (by simp [Value.oneCell']) ?_)
      rw [d8]
      have hb2 := below_setRow k6 g1 #[.slice (some ⟨g, 0, none⟩) 35 c] b1
      refine ⟨hb2, true, c2, true, n2, true, t2, rfl, _, v2, _, v4, g1, g2, .slice (some ⟨g, 0, none⟩) 35 c, x2, rfl, fun _ => SigW.setRow hk1 y1 _, fun h => (k2 h).setRow y1 _, fun _ => ⟨rfl, b1, y1.setRow _, fun _ => rfl⟩, fun h => ?_, k5, hb2, fun _ => ⟨rfl, rfl⟩, k9, k10⟩
      exact ⟨(k4 h).1, (k4 h).2.1, (k4 h).2.2.1.setRowOther _ _ (Ne.symm (k5 rfl h)), (k4 h).2.2.2⟩
    · obtain ⟨rfl, b2, y2, _⟩ := k4 e2
      subst e e1 e2
      have hk2 := k2 rfl
      obtain ⟨g, c, cs, rfl, hcs, hF⟩ := k2 rfl
      refine wpOp_wp i9 gd9 (wp_store_row 28 (.tmp p2) (.tmp s2) op9 g2 #[.slice (some ⟨g, 0, none⟩) 35 c] (eval4_4 _ _ _ _ _ _ _ _ _ z4) (eval4_2 _ _ _ _ _ _ _ _ _ (Ne.symm h23) (Ne.symm h24) z2) 28 _ y2 info24 rfl (by simp [Value.oneCell']) ?_)
      rw [d9]
      have hb2 := below_setRow k6 g2 #[.slice (some ⟨g, 0, none⟩) 35 c] b2
      refine ⟨hb2, c1, true, n1, true, t1, true, rfl, v1, _, v3, _, g1, g2, x1, .slice (some ⟨g, 0, none⟩) 35 c, rfl, fun h => (k1 h).setRow y2 _, fun _ => SigW.setRow hk2 y2 _, fun h => ?_, fun _ => ⟨rfl, b2, y2.setRow _, fun _ => rfl⟩, k5, hb2, k8, fun _ => ⟨rfl, rfl⟩, k10⟩
      exact ⟨(k3 h).1, (k3 h).2.1, (k3 h).2.2.1.setRowOther _ _ (k5 h rfl), (k3 h).2.2.2⟩
  · obtain ⟨v1, v2, v3, v4, e⟩ := put4_self a0 s1 s2 p1 p2 h12 h13 h14 h23 h24 h34
    exact ⟨false, false, false, false, false, false, rfl, v1, v2, v3, v4, 0, 0, undef, undef, e, fun h => (by cases h), fun h => (by cases h), fun h => (by cases h), fun h => (by cases h), fun h => (by cases h), hb, fun h => (by cases h), fun h => (by cases h), fun h => (by cases h)⟩
end Go.Proofs.YtgempifedhiknaaGreatDoor
