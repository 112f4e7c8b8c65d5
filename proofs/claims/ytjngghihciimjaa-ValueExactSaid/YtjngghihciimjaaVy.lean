/-
  A sum is put to a name's.
-/
import Derived.Test.YtjngghihciimjaaVq
namespace Go.Proofs.Ytjngghihciimjaa
set_option maxRecDepth 100000
open Go.RowKit Go.Sort Go.Maps

theorem grown_of {w w' : World} {r : Option Nat} (h : Below w.heap.size w w') : w.grownBy w' r := ⟨h.1, h.2, h.3, h.size, fun i hi _ => h.block i hi⟩
theorem grown_trans {w w' w'' : World} {r : Option Nat} (h : w.grownBy w' r) (k : w'.grownBy w'' r) : w.grownBy w'' r :=
  ⟨k.os.trans h.os, k.tape.trans h.tape, k.output.trans h.output, Nat.le_trans h.size k.size, fun i hi hr => (k.block i (Nat.lt_of_lt_of_le hi h.size) hr).trans (h.block i hi hr)⟩
/-- The map has turned to D', nothing else that was there has. -/
def PutW (w w' : World) (b n : Nat) (D' : DataW Unit) : Prop := w'.ownsMap Try.prog 68 rdW b n D' ∧ w.grownBy w' (some b)
theorem wpOp_mapU {P : Program} {ops : Array Oper} {Q : Exit → Act → World → Prop} {i : Nat} {o : Oper} {a : Act} {w w' : World} {K : Act → World → Prop} (hi : ops[i]? = some o) (hg : o.guard = none) (m x v : Operand) (t : TypeId) (hop : o.op = Op.mapUpdate t m x v)
    (hrun : (Instr.mapUpdate t (a.eval m) (a.eval x) (a.eval v)).run P w = .ok () w') (h : K (a.put o.dst undef) w') : wpOp P ops Q i K a w := by
  refine wpOp_wp hi hg ?_
  unfold Oper.wp
  simp [execOp, hop, hrun, Result.andThen]
  exact h
set_option maxHeartbeats 2000000 in
theorem put_any (w : World) (b n : Nat) (D : DataW Unit) (f : Nm → BitVec 128) (nm : Nm) (x : BitVec 128) (hown : w.ownsMap Try.prog 68 rdW b n D) (hf : HoldsF D f) (hn : n < maxLen)
    (hnm : nm.1.length = 32) (ht : nm.2.length ≤ maxLen) :
    Calls Try.prog 33 #[.map (some b), .agg (nmC nm), wv x] w fun e w' => e = .returned (.tuple #[]) ∧ PutW w w' b (n + 1) (D.put (kN nm) (dW (f nm + x))) := by
  obtain ⟨nv, hnv⟩ : ∃ v, v = nmC nm := ⟨_, rfl⟩
  have hkey := key_nm nm hnm ht
  have hin : (Try.prog.info? 68).map (·.size) = some nv.size := by rw [hnv, nmC_size nm hnm]; exact info_called
  rw [← hnv] at hkey ⊢
  have hat := hf nm hnm ht
  have H := Lib.hid (And.intro hown (And.intro hn (And.intro hkey (And.intro hin hat))))
  clear hown hf hn hnm ht hnv hkey hin hat
  rw [wv_wC]
  unfold wC
  go_enter Try.func33, Try.ntmps33
  go_upto_region 1 with fail
  have hl1 : Lies ((w.alloc (.cells nv 68)).alloc (.cells #[.int .i64 (hiS x), .int .u64 (loN x)] 39)) w.heap.size nv 68 := (Lies.new _ _ _).alloc _
  have hl2 : Lies ((w.alloc (.cells nv 68)).alloc (.cells #[.int .i64 (hiS x), .int .u64 (loN x)] 39)) (w.heap.size + 1) #[.int .i64 (hiS x), .int .u64 (loN x)] 39 := by
    have := Lies.new (w.alloc (.cells nv 68)) #[.int .i64 (hiS x), .int .u64 (loN x)] 39
    simpa using this
  have hb0 : Below w.heap.size w ((w.alloc (.cells nv 68)).alloc (.cells #[.int .i64 (hiS x), .int .u64 (loN x)] 39)) := ((Below.refl _ _).alloc (Nat.le_refl _) _).alloc (by simp) _
  generalize (w.alloc (.cells nv 68)).alloc (.cells #[.int .i64 (hiS x), .int .u64 (loN x)] 39) = W0 at hl1 hl2 hb0 ⊢
  have HS : Hid (∀ V, Below W0.heap.size W0 V → Lies V w.heap.size nv 68 ∧ Lies V (w.heap.size + 1) #[.int .i64 (hiS x), .int .u64 (loN x)] 39) := Lib.hid fun V hV => ⟨hl1.below hV hl1.lt, hl2.below hV hl2.lt⟩
  have H0 := Lib.hid hb0
  clear hl1 hl2 hb0
  refine wp_region_noPanic (wp_region_held (S := fun V => Lies V w.heap.size nv 68 ∧ Lies V (w.heap.size + 1) #[.int .i64 (hiS x), .int .u64 (loN x)] 39) (by kernel_rfl) ?_)
  change wpAnyH _ _ _ _ _ 9 _ _ (World.drew W0)
  have hbd : Below W0.heap.size W0 W0.drew := (Below.refl _ _).drew
  generalize World.drew W0 = wd at hbd ⊢
  have hcur := HS.out _ hbd
  have hbw : Below w.heap.size w wd := H0.out.trans (hbd.mono H0.out.size)
  have hownd := H.out.1.kept (grown_of (r := none) hbw) (by simp)
  obtain ⟨v, ps, hrun, hv⟩ := hownd.lookup keyedName under70 (zeroW wd) (rdW_wv 0) H.out.2.2.1
  rw [H.out.2.2.2.2] at hv
  have hve := rdW_inv hv
  subst hve
  unfold wv at hrun
  refine held_take (i := 0) (v := (.map (some b))) rfl 6 rfl (by kernel_rfl) (by kernel_rfl) (by kernel_rfl) (fun _ _ _ h => h) (by rfl) (by intro w' hS'; unfold execOp; simp [go_sem]) hcur _ rfl ?_
  simp only [Act.put, List.setIfInBounds_toArray, List.set_cons_zero, List.set_cons_succ]
  refine held_take (i := 1) (v := (.agg nv)) rfl 7 rfl (by kernel_rfl) (by kernel_rfl) (by kernel_rfl) (fun _ _ _ h => h) (by rfl) (by intro w' hS'; exact exec_loadM 68 _ rfl _ _ rfl nv (range_lies hS'.1) Try.underlying68 rfl H.out.2.2.2.1) hcur _ rfl ?_
  simp only [Act.put, List.setIfInBounds_toArray, List.set_cons_zero, List.set_cons_succ]
  refine held_take (i := 2) (v := (.map (some b))) rfl 8 rfl (by kernel_rfl) (by kernel_rfl) (by kernel_rfl) (fun _ _ _ h => h) (by rfl) (by intro w' hS'; unfold execOp; simp [go_sem]) hcur _ rfl ?_
  simp only [Act.put, List.setIfInBounds_toArray, List.set_cons_zero, List.set_cons_succ]
  refine held_take (i := 3) (v := (.agg nv)) rfl 9 rfl (by kernel_rfl) (by kernel_rfl) (by kernel_rfl) (fun _ _ _ h => h) (by rfl) (by intro w' hS'; exact exec_loadM 68 _ rfl _ _ rfl nv (range_lies hS'.1) Try.underlying68 rfl H.out.2.2.2.1) hcur _ rfl ?_
  simp only [Act.put, List.setIfInBounds_toArray, List.set_cons_zero, List.set_cons_succ]
  refine held_take (i := 5) (v := (.agg #[.int .i64 (hiS x), .int .u64 (loN x)])) rfl 11 rfl (by kernel_rfl) (by kernel_rfl) (by kernel_rfl) (fun _ _ _ h => h) (by rfl) (by intro w' hS'; exact exec_loadM 39 _ rfl _ _ rfl #[.int .i64 (hiS x), .int .u64 (loN x)] (range_lies hS'.2) Try.underlying39 rfl info_wide) hcur _ rfl ?_
  simp only [Act.put, List.setIfInBounds_toArray, List.set_cons_zero, List.set_cons_succ]
  refine held_one (i := 4) (by kernel_rfl) _ rfl (wpOp_valG (v := .agg #[.int .i64 (hiS (f nm)), .int .u64 (loN (f nm))]) (w' := wd) rfl (by rfl) 10 rfl (by unfold execOp; simp [go_sem, hrun]) ?_)
  refine ⟨hcur, ?_⟩
  simp only [Act.put, List.setIfInBounds_toArray, List.set_cons_zero, List.set_cons_succ]
  refine held_one (i := 6) (by kernel_rfl) _ rfl (wpOp_valG (v := .slice (some ⟨wd.heap.size, 0, none⟩) 2 2) (w' := wd.alloc (.cells #[.int .i64 (hiS (f nm)), .int .u64 (loN (f nm)), .int .i64 (hiS x), .int .u64 (loN x)] 39)) rfl (by rfl) 12 rfl (by unfold execOp; simp [go_sem]) ?_)
  have hb6 : Below wd.heap.size wd (wd.alloc (.cells #[.int .i64 (hiS (f nm)), .int .u64 (loN (f nm)), .int .i64 (hiS x), .int .u64 (loN x)] 39)) := (Below.refl _ _).alloc (Nat.le_refl _) _
  have hl6 : Lies (wd.alloc (.cells #[.int .i64 (hiS (f nm)), .int .u64 (loN (f nm)), .int .i64 (hiS x), .int .u64 (loN x)] 39)) wd.heap.size #[.int .i64 (hiS (f nm)), .int .u64 (loN (f nm)), .int .i64 (hiS x), .int .u64 (loN x)] 39 := Lies.new _ _ _
  generalize wd.alloc (.cells #[.int .i64 (hiS (f nm)), .int .u64 (loN (f nm)), .int .i64 (hiS x), .int .u64 (loN x)] 39) = w6 at hb6 hl6 ⊢
  have hb6' := hbd.trans (hb6.mono hbd.size)
  have hcur := HS.out _ hb6'
  refine ⟨hcur, ?_⟩
  simp only [Act.put, List.setIfInBounds_toArray, List.set_cons_zero, List.set_cons_succ]
  have hhas : HasW w6 wd.heap.size 0 [f nm, x] := fun i y hy j v hv => by
    have hr := range_lies hl6
    have hi : i = 0 ∨ i = 1 := by have := (List.getElem?_eq_some_iff.1 hy).1; simp at this; omega
    have hj : j < 2 := (List.getElem?_eq_some_iff.1 hv).1
    rcases hi with rfl | rfl
    · simp only [List.getElem?_cons_zero, Option.some.injEq] at hy
      subst hy
      have := hr j v (by
        have hj' : j = 0 ∨ j = 1 := by omega
        rcases hj' with rfl | rfl <;> exact hv)
      simpa using this
    · simp only [List.getElem?_cons_succ, List.getElem?_cons_zero, Option.some.injEq] at hy
      subst hy
      have := hr (2 + j) v (by
        have hj' : j = 0 ∨ j = 1 := by omega
        rcases hj' with rfl | rfl <;> exact hv)
      simpa using this
  have hplus := plus_any w6 wd.heap.size 0 2 [f nm, x] (show 2 ≤ maxLen by decide) hl6.lt hhas
  rw [show sumL [f nm, x] = f nm + x by simp [sumL]] at hplus
  refine held_one (i := 7) (by kernel_rfl) _ rfl (wpOp_callG rfl (by rfl) 13 rfl 14 #[.slice (some ⟨wd.heap.size, 0, none⟩) 2 2] (by unfold execOp; simp [go_sem]) _ (ret_of hplus) ?_)
  rintro v7 w7 ⟨rfl, hb7⟩
  have hb7' := hb6'.trans (hb7.mono hb6'.size)
  have hcur := HS.out _ hb7'
  refine ⟨hcur, ?_⟩
  simp only [Act.put, List.setIfInBounds_toArray, List.set_cons_zero, List.set_cons_succ]
  have hbw7 : Below w.heap.size w w7 := H0.out.trans (hb7'.mono H0.out.size)
  have hown7 := H.out.1.kept (grown_of (r := none) hbw7) (by simp)
  obtain ⟨w8, hrun8, hown8, hgr8⟩ := hown7.update keyedName under70 H.out.2.1 H.out.2.2.1 (rdW_wv (f nm + x))
  have hall := grown_trans (grown_of hbw7 : w.grownBy w7 (some b)) hgr8
  have hbl := H.out.1.lt
  have hS8 : Lies w8 w.heap.size nv 68 ∧ Lies w8 (w.heap.size + 1) #[.int .i64 (hiS x), .int .u64 (loN x)] 39 :=
    ⟨(hgr8.block _ hcur.1.lt (by simp; omega)).trans hcur.1, (hgr8.block _ hcur.2.lt (by simp; omega)).trans hcur.2⟩
  refine held_one (i := 8) (by kernel_rfl) _ rfl (wpOp_mapU rfl rfl _ _ _ 70 rfl hrun8 ?_)
  refine ⟨hS8, ?_⟩
  simp only [Act.put, List.setIfInBounds_toArray, List.set_cons_zero, List.set_cons_succ]
  refine wpAnyH_done (by kernel_rfl) ?_ _
  unfold NoPanic
  dsimp only
  go_end0
  exact ⟨rfl, hown8, hall⟩
end Go.Proofs.Ytjngghihciimjaa
