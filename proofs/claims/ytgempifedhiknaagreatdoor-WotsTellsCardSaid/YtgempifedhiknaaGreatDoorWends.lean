/-
  The ends of chains (23).
-/
import Derived.Test.YtgempifedhiknaaGreatDoorWrow
import Derived.Test.YtgempifedhiknaaGreatDoorWup
import Derived.Test.YtgempifedhiknaaGreatDoorInv
import Derived.Test.YtgempifedhiknaaGreatDoorWtwo
import Derived.Deep.WholeRow
namespace Go.Proofs.YtgempifedhiknaaGreatDoor
set_option maxRecDepth 100000
open Go.RowKit Go.Shelf Sha

attribute [local go_sem] Oper.semAt_some
attribute [-go_sem] Instr.build storeCells

/-- The end of chain i, from its link. -/
def endH (H : Nat → List UInt8) (Pl : Nat → Nat) (i : Nat) : List UInt8 := onN i (Pl i) (15 - Pl i) (H i)
def endsOf (H : Nat → List UInt8) (Pl : Nat → Nat) (pre : List (Fin 35)) : List UInt8 := pre.flatMap fun x => endH H Pl x.val
theorem endsOf_snoc (H : Nat → List UInt8) (Pl : Nat → Nat) (pre : List (Fin 35)) (x : Fin 35) : endsOf H Pl (pre ++ [x]) = endsOf H Pl pre ++ endH H Pl x.val := by simp [endsOf]
theorem endH_length (H : Nat → List UInt8) (Pl : Nat → Nat) (hH : ∀ i, (H i).length = 32) (i : Nat) : (endH H Pl i).length = 32 := onN_length _ _ _ (hH i) _
/-- What lies between two rounds. -/
def IEnds (w : World) (H : Nat → List UInt8) (Pl : Nat → Nat) (pre : List (Fin 35)) (W : World) : Prop :=
  ∃ v, Lies W w.heap.size #[v] 26 ∧ RowH (w.heap.size + 1) pre.length (endsOf H Pl pre) v W ∧ Below w.heap.size w W
def AEnds (w : World) (fv : Value) (H : Nat → List UInt8) (Pl : Nat → Nat) (x : Fin 35) (a' : Act) (W : World) : Prop :=
  ∃ Bx, w.heap.size < Bx ∧ Lies W Bx (CH (H x.val) (Pl x.val) x.val) 48 ∧ a' = { tmps := #[fv, undef, .slice none 0 0, .pointer (some ⟨w.heap.size, 0, none⟩), .pointer (some ⟨Bx, 0, none⟩), fv, .agg (CH (H x.val) (Pl x.val) x.val), undef, undef, undef, undef, undef], defers := [] }
theorem lies_own {A B : World} {row : Option Nat} {g : Nat} {cs : Array Value} {t : TypeId} (hl : Lies A g cs t) (hg : A.grownBy B row) (hr : ∀ r, row = some r → ∃ o : Obj, A.heap[r]? = some o ∧ o.isCells = false) : Lies B g cs t := by
  refine (hg.block g hl.lt (fun e => ?_)).trans hl
  obtain ⟨o, ho, h2⟩ := hr g e.symm
  have : o = .cells cs t (0, 0) := Option.some.inj (ho.symm.trans hl)
  rw [this] at h2
  cases h2
theorem rowH_own {A B : World} {row : Option Nat} {b k : Nat} {l : List UInt8} {v : Value} (h : RowH b k l v A) (hg : A.grownBy B row) (hr : ∀ r, row = some r → ∃ o : Obj, A.heap[r]? = some o ∧ o.isCells = false) : RowH b k l v B := by
  refine h.kept hg (fun x hx e => ?_)
  obtain ⟨_, _, cs, hc⟩ := h.block x hx
  obtain ⟨o, ho, h2⟩ := hr x e
  have : o = .cells cs 24 (0, 0) := Option.some.inj (ho.symm.trans hc)
  rw [this] at h2
  cases h2
theorem iends_own (w : World) (H : Nat → List UInt8) (Pl : Nat → Nat) (m : Nat) (hm : w.heap.size ≤ m) : OwnFrom m (IEnds w H Pl) := by
  rintro pre A B row ⟨v, h1, h2, h3⟩ hg hr
  exact ⟨v, lies_own h1 hg (fun r e => (hr r e).2), rowH_own h2 hg (fun r e => (hr r e).2), h3.grown hg h3.size (fun x e => by have := (hr x e).1; omega)⟩
/-- What a round leaves. -/
theorem ends_fin {w W W2 W4 : World} {Bx k : Nat} {l e0 : List UInt8} {v v' : Value} {ck : Array Value} (hb : Below w.heap.size w W) (_hv : Lies W w.heap.size #[v] 26) (hrow : RowH (w.heap.size + 1) k l v W) (hBx : w.heap.size < Bx) (hlx : Lies W Bx ck 48)
    (hg2 : W.grownBy W2 (some Bx)) (hlx2 : Lies W2 w.heap.size #[v] 26) (hrow2 : RowH (w.heap.size + 1) k l v W2) (hrow4 : RowH (w.heap.size + 1) (k + 1) (l ++ e0) v' W4) (hg4 : (W2.alloc (.cells (B8 e0) 24)).grownBy W4 v.ownBlock) (m : Nat) :
    KeepsFrom m W (W4.setCell ⟨w.heap.size, 0, none⟩ v') ∧ KB w.heap.size w.heap.size W (W4.setCell ⟨w.heap.size, 0, none⟩ v') ∧ Lies (W4.setCell ⟨w.heap.size, 0, none⟩ v') w.heap.size #[v'] 26 ∧ RowH (w.heap.size + 1) (k + 1) (l ++ e0) v' (W4.setCell ⟨w.heap.size, 0, none⟩ v') ∧ Below w.heap.size w (W4.setCell ⟨w.heap.size, 0, none⟩ v') := by
  have hva : Lies (W2.alloc (.cells (B8 e0) 24)) w.heap.size #[v] 26 := hlx2.alloc _
  have hv4 : Lies W4 w.heap.size #[v] 26 := (hg4.block w.heap.size hva.lt (fun e => by have := (hrow.block w.heap.size e.symm).1; omega)).trans hva
  have hset := hv4.set 0 v'
  have hgs : W4.grownBy (W4.setCell ⟨w.heap.size, 0, none⟩ v') (some w.heap.size) := grown_set (grown_refl W4 _) 0 v'
  have hb2 : Below w.heap.size w W2 := hb.grown hg2 hb.size (fun x e => by have := Option.some.inj e; omega)
  have hba : Below w.heap.size w (W2.alloc (.cells (B8 e0) 24)) := hb2.alloc hb2.size _
  have hb4 : Below w.heap.size w W4 := hba.grown hg4 hba.size (fun x e => by have := (hrow.block x e).1; omega)
  have hb5 : Below w.heap.size w (W4.setCell ⟨w.heap.size, 0, none⟩ v') := hb4.grown hgs hb4.size (fun x e => by have := Option.some.inj e; omega)
  refine ⟨?_, ?_, hset, ?_, hb5⟩
  · refine KeepsOthers.from ?_ _
    refine (KeepsOthers.of_grownBy hg2 ?_).trans ((KeepsOthers.alloc _ _).trans ((KeepsOthers.of_grownBy hg4 ?_).trans (KeepsOthers.setCell _ _ _)))
    · intro j o hj ho
      obtain rfl : Bx = j := Option.some.inj hj
      have : o = .cells ck 48 (0, 0) := Option.some.inj (ho.symm.trans hlx)
      rw [this]; rfl
    · intro j o hj ho
      obtain ⟨_, h2, cs, hcs⟩ := hrow2.block j hj
      have : o = .cells cs 24 (0, 0) := Option.some.inj (ho.symm.trans ((Below.heap_alloc W2 _ j h2).trans hcs))
      rw [this]; rfl
  · refine ⟨Nat.le_trans hg2.size (Nat.le_trans (by simp) (Nat.le_trans hg4.size hgs.size)), fun j hj _ => ?_⟩
    rw [hgs.block j (by have := hb4.size; omega) (fun e => by have := Option.some.inj e; omega), hg4.block j (by have := hba.size; omega) (fun e => by have := (hrow.block j e.symm).1; omega), Below.heap_alloc W2 _ j (by have := hb2.size; omega), hg2.block j (by have := hb.size; omega) (fun e => by have := Option.some.inj e; omega)]
  · exact hrow4.kept hgs (fun x hx e => by have := (hrow4.block x hx).1; have := Option.some.inj e; omega)
def zero34 : Array Value := #[Value.int .u8 0, .int .u8 0, .int .u8 0, .int .u8 0, .int .u8 0, .int .u8 0, .int .u8 0, .int .u8 0, .int .u8 0, .int .u8 0, .int .u8 0, .int .u8 0, .int .u8 0, .int .u8 0, .int .u8 0, .int .u8 0, .int .u8 0, .int .u8 0, .int .u8 0, .int .u8 0, .int .u8 0, .int .u8 0, .int .u8 0, .int .u8 0, .int .u8 0, .int .u8 0, .int .u8 0, .int .u8 0, .int .u8 0, .int .u8 0, .int .u8 0, .int .u8 0, .int .u8 0, .int .u8 0]
theorem info58 (h : List UInt8) (hh : h.length = 32) (p n : Nat) : (Tryz.prog.info? 48).map (·.size) = some (CH h p n).size := by
  rw [CH_size _ _ _ hh]; kernel_rfl
theorem storeCH (W : World) (h : List UInt8) (hh : h.length = 32) (p n : Nat) : (storeCells ⟨W.heap.size, 0, none⟩ (CH h p n).toList 0).run Tryz.prog (W.alloc (.cells zero34 48)) = .ok () (W.alloc (.cells (CH h p n) 48)) :=
  run_storeCells_new W 48 zero34 (CH h p n) (info58 h hh p n) (by rw [CH_size _ _ _ hh]; rfl) (CH_one h p n)
set_option maxRecDepth 100000 in
set_option maxHeartbeats 2000000 in
theorem ends_any (gf : Nat) (lb : Array Value) (hf : ∀ args w, (callFunc gf args).run Tryz.prog w = .ok (.enter gf args) w) (H : Nat → List UInt8) (Pl : Nat → Nat) (hH : ∀ i, (H i).length = 32) (hPl : ∀ i, Pl i ≤ 15) (w : World)
    (hs : Starts w) (hc : Cubes w) (hstops : ∀ w', Below w.heap.size w w' → Stops 5 gf lb H Pl w.heap.size w.heap.size w') :
    Calls Tryz.prog 22 #[.func (.func gf) #[] lb] w fun e w' => ∃ v, e = .returned v ∧ Below w.heap.size w w' ∧
      ∃ ys : List (Fin 35), ys.map Fin.val = List.range 35 ∧ RowH (w.heap.size + 1) 35 (endsOf H Pl ys) v w' := by
  refine (callsIn_wide (n := 6)).1 ?_
  refine callsIn_of_wp_marks Tryz.func22 rfl trivial ?_ rfl
  simp only [Tryz.ntmps22, List.size_toArray, List.length_cons, List.length_nil, Nat.reduceAdd, Nat.reduceSub, Array.replicate_succ, Array.replicate_zero, List.push_toArray, List.append_toArray, List.nil_append, List.cons_append]
  gi_wp2
  have hW1 : Below w.heap.size w (w.alloc (.cells #[.slice none 0 0] 26)) := (Below.refl _ _).alloc (Nat.le_refl _) _
  have hL1 : Lies (w.alloc (.cells #[.slice none 0 0] 26)) w.heap.size #[.slice none 0 0] 26 := Lies.new _ _ _
  have hsz : (w.alloc (.cells #[.slice none 0 0] 26)).heap.size = w.heap.size + 1 := by simp
  have hst := hstops _ hW1
  generalize w.alloc (.cells #[.slice none 0 0] 26) = W1 at hW1 hL1 hsz hst ⊢
  refine wpIn_rangeFunc_ownH rfl (by omega) (gf := gf) (lb := lb) rfl trivial hf hst KB.trans (KB.put (by omega)) (Below.refl _ _) (fun _ => rfl)
    (IEnds w H Pl) (fun _ _ _ => False) (iends_own w H Pl _ (by omega)) (fun _ _ _ _ _ hs _ _ => hs) ⟨_, hL1, RowH.nil _ _, hW1⟩
    (AEnds w (.func (.func gf) #[] lb) H Pl)
    (fun x a' _ X Y row hs hg hr => by obtain ⟨Bx, h1, h2, h3⟩ := hs; exact ⟨Bx, h1, lies_own h2 hg (fun r e => (hr r e).2), h3⟩)
    ?assign ?body ?done ?stop
  case assign =>
    rintro l pre x W K ⟨v, hv, hr, hb⟩ hK
    dsimp only [encC]
    have h34 : (CH (H x.val) (Pl x.val) x.val).size = 34 := CH_size _ _ _ (hH _)
    have st := storeCH W (H x.val) (hH x.val) (Pl x.val) x.val
    have hl := Lies.new W (CH (H x.val) (Pl x.val) x.val) 48
    have hfin := hK { tmps := #[.func (.func gf) #[] lb, undef, .slice none 0 0, .pointer (some ⟨w.heap.size, 0, none⟩), .pointer (some ⟨W.heap.size, 0, none⟩), .func (.func gf) #[] lb, .agg (CH (H x.val) (Pl x.val) x.val), undef, undef, undef, undef, undef], defers := [] } (W.alloc (.cells (CH (H x.val) (Pl x.val) x.val) 48)) ((KeepsOthers.alloc _ _).from _) (KB.below ((Below.refl _ _).alloc (Nat.le_refl _) _) hb.size)
      ⟨v, hv.alloc _, hr.kept (World.grownBy_alloc W _ none) (fun _ _ e => by cases e), hb.alloc hb.size _⟩ ⟨W.heap.size, hv.lt, hl, rfl⟩
    generalize CH (H x.val) (Pl x.val) x.val = ck at st hfin h34 ⊢
    simp only [zero34] at st
    clear hK hl
    gi_wp2
    exact hfin
  case body =>
    rintro l pre x a' W hl ⟨r, hr⟩ ⟨v, hv, hrow, hb⟩ ⟨Bx, hBx, hlx, rfl⟩ hlen
    gi_wp2
    refine round_any (by kernel_rfl) ?_ ?_ ?_
    · rintro ⟨a, w2, h⟩
      exact h
    · intro i o ho c
      rcases i with _ | _ | _ | _ | _ | i <;> simp at ho <;> subst ho <;> simp
    · have hlx' := hlx.drew
      have hne : w.heap.size ≠ Bx := by omega
      have hk0 : 1 < w.heap.size := hc.lt
      have hsW : Starts W := hs.below hb (by omega)
      have hcW : Cubes W := hc.below hb hk0
      have hup := upto_any Bx (H x.val) (hH _) (Pl x.val) 15 x.val (hPl _) (by omega) (by have := x.isLt; omega) W.drew hlx.drew (by omega) hsW.drew hcW.drew
      have hcall : Calls Tryz.prog 17 #[.pointer (some ⟨Bx, 0, none⟩), .int .u8 15] W.drew fun e w' => ∃ v2, e = .returned v2 ∧ (v2 = .agg (B8 (onN x.val (Pl x.val) (15 - Pl x.val) (H x.val))) ∧ W.grownBy w' (some Bx)) :=
        hup.mono fun e w' h => ⟨_, h.1, rfl, (grown_trans (grown_drew (grown_refl W (some Bx))) h.2.2)⟩
      have hcv := hv.drew.cell 0 (v := v) rfl
      change wpAny _ _ _ _ 5 _ _ _
      obtain ⟨e0, he0⟩ : ∃ e0, e0 = endH H Pl x.val := ⟨_, rfl⟩
      rw [show onN x.val (Pl x.val) (15 - Pl x.val) (H x.val) = e0 from he0.symm] at hcall
      have hel : e0.length = 32 := by rw [he0]; exact endH_length H Pl hH _
      refine wpAny_two (i := 0) (j := 1) (by kernel_rfl) _ _ rfl rfl ?_ ?_
      · refine wpOp_valueTo (v := v) (w' := W.drew) rfl rfl 7 rfl (by unfold execOp; simp [go_sem, hcv]) ?_
        refine wpAny_callTo (i := 1) rfl rfl 8 rfl (by kernel_rfl) _ rfl 17 #[.pointer (some ⟨Bx, 0, none⟩), .int .u8 15] (by unfold execOp; simp [go_sem]) _ hcall ?_
        rintro v2 W2 ⟨rfl, hg2⟩
        have hlx2 := hv.grown hg2 hne
        have hrow2 := hrow.kept hg2 (fun y hy e => by
          have e1 : Bx = y := Option.some.inj e
          obtain ⟨_, _, cs, hcs⟩ := hrow.block y hy
          rw [← e1] at hcs
          have := hcs.symm.trans hlx
          cases this)
        have hcv2 := hlx2.cell 0 (v := v) rfl
        have hcv3 := (hlx2.alloc (.cells (B8 e0) 24)).cell 0 (v := v) rfl
        obtain ⟨v', W4, hrun, hrow4, hg4, hone⟩ := run_moreH (hrow2.kept (World.grownBy_alloc W2 (.cells (B8 e0) 24) none) (fun _ _ e => by cases e)) (by omega) (by have := hb.size; have := hg2.size; have := hv.lt; simp at this ⊢; omega) W2.heap.size e0 hel (Lies.new W2 (B8 e0) 24) 26
        refine wpAny_valueTo (i := 2) rfl rfl 9 rfl (by kernel_rfl) _ rfl (.slice (some ⟨W2.heap.size, 0, none⟩) 1 1) (W2.alloc (.cells (B8 e0) 24)) (exec_oneH _ rfl e0 hel rfl) ?_
        refine wpAny_valueTo (i := 3) rfl rfl 10 rfl (by kernel_rfl) _ rfl v' W4 (exec_moreH _ _ rfl rfl rfl (by exact hrun)) ?_
        obtain ⟨g', c', rfl, _⟩ := hrow4.shape (by omega)
        have hva : Lies (W2.alloc (.cells (B8 e0) 24)) w.heap.size #[v] 26 := hlx2.alloc _
        have hv4 : Lies W4 w.heap.size #[v] 26 := (hg4.block w.heap.size hva.lt (fun e => by have := (hrow.block w.heap.size e.symm).1; omega)).trans hva
        have hfin := ends_fin hb hv hrow hBx hlx hg2 hlx2 hrow2 hrow4 hg4 W1.heap.size
        refine wpAny_oneOp (i := 4) (by kernel_rfl) _ rfl (wpOp_wp rfl rfl (wp_store22 _ _ rfl ⟨w.heap.size, 0, none⟩ rfl ⟨g', 0, none⟩ _ _ rfl v (hv4.cell 0 (v := v) rfl) (hv4.free 0) ?_))
        refine ⟨by kernel_rfl, hfin.1, hfin.2.1, _, hfin.2.2.1, ?_, hfin.2.2.2.2⟩
        rw [List.length_append, endsOf_snoc, ← he0]
        exact hfin.2.2.2.1
      · refine wpOp_callTo rfl rfl 8 rfl 17 #[.pointer (some ⟨Bx, 0, none⟩), .int .u8 15] (by unfold execOp; simp [go_sem]) _ hcall ?_
        rintro v2 W2 ⟨rfl, hg2⟩
        have hlx2 := hv.grown hg2 hne
        have hrow2 := hrow.kept hg2 (fun y hy e => by
          have e1 : Bx = y := Option.some.inj e
          obtain ⟨_, _, cs, hcs⟩ := hrow.block y hy
          rw [← e1] at hcs
          have := hcs.symm.trans hlx
          cases this)
        have hcv2 := hlx2.cell 0 (v := v) rfl
        have hcv3 := (hlx2.alloc (.cells (B8 e0) 24)).cell 0 (v := v) rfl
        obtain ⟨v', W4, hrun, hrow4, hg4, hone⟩ := run_moreH (hrow2.kept (World.grownBy_alloc W2 (.cells (B8 e0) 24) none) (fun _ _ e => by cases e)) (by omega) (by have := hb.size; have := hg2.size; have := hv.lt; simp at this ⊢; omega) W2.heap.size e0 hel (Lies.new W2 (B8 e0) 24) 26
        refine wpAny_two (i := 0) (j := 2) (by kernel_rfl) _ _ rfl rfl ?_ ?_
        · refine wpOp_valueTo (v := v) (w' := W2) rfl rfl 7 rfl (by unfold execOp; simp [go_sem, hcv2]) ?_
          refine wpAny_valueTo (i := 2) rfl rfl 9 rfl (by kernel_rfl) _ rfl (.slice (some ⟨W2.heap.size, 0, none⟩) 1 1) (W2.alloc (.cells (B8 e0) 24)) (exec_oneH _ rfl e0 hel rfl) ?_
          refine wpAny_valueTo (i := 3) rfl rfl 10 rfl (by kernel_rfl) _ rfl v' W4 (exec_moreH _ _ rfl rfl rfl (by exact hrun)) ?_
          obtain ⟨g', c', rfl, _⟩ := hrow4.shape (by omega)
          have hva : Lies (W2.alloc (.cells (B8 e0) 24)) w.heap.size #[v] 26 := hlx2.alloc _
          have hv4 : Lies W4 w.heap.size #[v] 26 := (hg4.block w.heap.size hva.lt (fun e => by have := (hrow.block w.heap.size e.symm).1; omega)).trans hva
          have hfin := ends_fin hb hv hrow hBx hlx hg2 hlx2 hrow2 hrow4 hg4 W1.heap.size
          refine wpAny_oneOp (i := 4) (by kernel_rfl) _ rfl (wpOp_wp rfl rfl (wp_store22 _ _ rfl ⟨w.heap.size, 0, none⟩ rfl ⟨g', 0, none⟩ _ _ rfl v (hv4.cell 0 (v := v) rfl) (hv4.free 0) ?_))
          refine ⟨by kernel_rfl, hfin.1, hfin.2.1, _, hfin.2.2.1, ?_, hfin.2.2.2.2⟩
          rw [List.length_append, endsOf_snoc, ← he0]
          exact hfin.2.2.2.1
        · refine wpOp_valueTo (v := .slice (some ⟨W2.heap.size, 0, none⟩) 1 1) (w' := W2.alloc (.cells (B8 e0) 24)) rfl rfl 9 rfl (exec_oneH _ rfl e0 hel rfl) ?_
          refine wpAny_valueTo (i := 0) rfl rfl 7 rfl (by kernel_rfl) _ rfl v (W2.alloc (.cells (B8 e0) 24)) (by unfold execOp; simp [go_sem, hcv3]) ?_
          refine wpAny_valueTo (i := 3) rfl rfl 10 rfl (by kernel_rfl) _ rfl v' W4 (exec_moreH _ _ rfl rfl rfl (by exact hrun)) ?_
          obtain ⟨g', c', rfl, _⟩ := hrow4.shape (by omega)
          have hva : Lies (W2.alloc (.cells (B8 e0) 24)) w.heap.size #[v] 26 := hlx2.alloc _
          have hv4 : Lies W4 w.heap.size #[v] 26 := (hg4.block w.heap.size hva.lt (fun e => by have := (hrow.block w.heap.size e.symm).1; omega)).trans hva
          have hfin := ends_fin hb hv hrow hBx hlx hg2 hlx2 hrow2 hrow4 hg4 W1.heap.size
          refine wpAny_oneOp (i := 4) (by kernel_rfl) _ rfl (wpOp_wp rfl rfl (wp_store22 _ _ rfl ⟨w.heap.size, 0, none⟩ rfl ⟨g', 0, none⟩ _ _ rfl v (hv4.cell 0 (v := v) rfl) (hv4.free 0) ?_))
          refine ⟨by kernel_rfl, hfin.1, hfin.2.1, _, hfin.2.2.1, ?_, hfin.2.2.2.2⟩
          rw [List.length_append, endsOf_snoc, ← he0]
          exact hfin.2.2.2.1
  case done =>
    rintro D ys W hD hys ⟨v, hv, hrow, hb⟩ hK
    have hc1 := hv.cell 0 (v := v) rfl
    have hlen : ys.length = 35 := by have := congrArg List.length hys; simpa using this
    gi_wp2
    refine ⟨by simp, .inl ⟨_, _, rfl, run_takeDeferred hK, ?_⟩⟩
    have hput := grownBy_putObj' W D (.deferred none)
    refine ⟨_, results_tmp rfl _ _ _, v, rfl, hb.grown hput hb.size (fun x e => by have := Option.some.inj e; omega), ys, hys, ?_⟩
    rw [hlen] at hrow
    exact rowH_own hrow hput (fun r e => by cases e; exact ⟨_, hK, rfl⟩)
  case stop =>
    rintro D c pre W _ _ h _
    exact h.elim
end Go.Proofs.YtgempifedhiknaaGreatDoor
