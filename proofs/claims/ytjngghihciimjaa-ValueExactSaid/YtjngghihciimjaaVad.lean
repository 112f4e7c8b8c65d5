/-
  Add: the bundle of all together, if there is one.
-/
import Derived.Test.YtjngghihciimjaaVak
import Derived.Test.YtjngghihciimjaaVma
namespace Go.Proofs.Ytjngghihciimjaa
set_option maxRecDepth 100000
open Go.RowKit Go.Sort Go.Maps

/-- The bundle of these is told. -/
def AddZ (vs : List Va) (coin : Int) (l : List As) : Prop := vs.all rightV = true ∧ TogOk (coinS vs) (sumAt (ctsL vs)) coin l
def AddN (vs : List Va) : Prop := ∀ coin l, ¬ AddZ vs coin l
theorem rowV_names {w : World} {pa : Option Addr} {vs : List Va} (h : RowV w pa vs) (hall : vs.all rightV = true) : ∀ p, p ∈ ctsL vs → p.1.1.length = 32 ∧ p.1.2.length ≤ 281474976710656 := fun p hp => by
  obtain ⟨v, hv, a, ha, rfl⟩ := ctsL_mem hp
  have h1 := ((right_iff v.coin v.l).1 (List.all_eq_true.1 hall v hv)).2.2.1 a ha
  obtain ⟨i, hi⟩ := List.getElem?_of_mem hv
  obtain ⟨g, off, _, _, hh⟩ := h.2 (by have := (List.getElem?_eq_some_iff.1 hi).1; omega)
  have h2 := (hh i v hi).2.2.2.2.1 a ha
  exact ⟨h2.1, Nat.le_trans h1.1 (by decide)⟩
set_option maxHeartbeats 4000000 in
theorem add1_any (w : World) (b : Nat) (pa : Option Addr) (vs : List Va) (c : Nat) (hb : w.cell? ⟨b, 0, none⟩ = some (.slice pa vs.length c)) (hlb : b < w.heap.size) (h : RowV w pa vs) (hn : vs.length ≤ 1000) :
    Calls Try.prog 23 #[.pointer (some ⟨b, 0, none⟩)] w fun e w' => Tells (AddZ vs) (AddN vs) e w' ∧ Below w.heap.size w w' := by
  have hb1 : Below w.heap.size w (w.alloc (.cells #[.int .i64 0, .slice none 0 0] 24)) := (Below.refl _ _).alloc (Nat.le_refl _) _
  have hL1 : Lies (w.alloc (.cells #[.int .i64 0, .slice none 0 0] 24)) w.heap.size #[.int .i64 0, .slice none 0 0] 24 := Lies.new _ _ _
  have hq : (w.alloc (.cells #[.int .i64 0, .slice none 0 0] 24)).cell? ⟨b, 0, none⟩ = some (.slice pa vs.length c) := (hb1.cell (p := ⟨b, 0, none⟩) hlb).trans hb
  have hmust := mustRight_any _ pa vs c (h.below hb1 (Nat.le_refl _))
  have H := Lib.hid (And.intro h (And.intro hn (And.intro hb1 (And.intro hL1 (And.intro hb hlb)))))
  have HM := Lib.hid hmust
  clear h hn hb1 hL1 hmust hb hlb
  go_enter Try.func23, Try.ntmps23
  go_wp2_with fail
  refine HM.out.mono ?_
  rintro e w2 ⟨hm, hb2⟩
  have hbw := H.out.2.2.1.trans (hb2.mono H.out.2.2.1.size)
  rcases hm with ⟨hall, v, rfl⟩ | ⟨hno, n, rfl⟩
  · have hL2 := H.out.2.2.2.1.below hb2 H.out.2.2.2.1.lt
    have hq2 : w2.cell? ⟨b, 0, none⟩ = some (.slice pa vs.length c) := (hbw.cell (p := ⟨b, 0, none⟩) H.out.2.2.2.2.2).trans H.out.2.2.2.2.1
    have htog := together_any w2 pa vs c (H.out.1.below hbw (Nat.le_refl _)) (Nat.le_trans (ctsL_few hall) (by have := H.out.2.1; omega)) (rowV_names H.out.1 hall)
    have H2 := Lib.hid (And.intro hL2 (And.intro hbw (And.intro htog hall)))
    clear hL2 hbw htog hall hb2 hq HM
    go_wp2_with fail
    refine H2.out.2.2.1.mono ?_
    rintro e w3 ⟨ht, hb3⟩
    have hL3 := H2.out.1.below hb3 H2.out.1.lt
    have hb33 := H2.out.2.1.trans (hb3.mono H2.out.2.1.size)
    rcases ht with ⟨coin, l, p, c', rfl, hrow, hok⟩ | ⟨⟨n, rfl⟩, hno⟩
    · have q0 := hL3.cell 0 (v := .int .i64 0) rfl
      have q1 := hL3.cell 1 (v := .slice none 0 0) rfl
      have f0 := hL3.free 0
      have f1 := hL3.free 1
      have hL3a := hL3.set 0 (.int .i64 coin)
      have hrow2 := (hrow.small hL3 (by decide) 0 (.int .i64 coin)).small hL3a (by simp) 1 (.slice p l.length c')
      have hbR : Below w.heap.size w ((w3.setCell ⟨w.heap.size, 0, none⟩ (.int .i64 coin)).setCell ⟨w.heap.size, 1, none⟩ (.slice p l.length c')) := below_setCell (below_setCell hb33 _ _ (by simp)) _ _ (by simp)
      have hLR : Lies ((w3.setCell ⟨w.heap.size, 0, none⟩ (.int .i64 coin)).setCell ⟨w.heap.size, 1, none⟩ (.slice p l.length c')) w.heap.size #[.int .i64 coin, .slice p l.length c'] 24 := hL3a.set 1 _
      have HE := Lib.hid (And.intro hrow2 (And.intro hbR (And.intro hLR hok)))
      clear hrow2 hbR hLR hL3a hL3 hb33 hrow hok hb3 hq2
      unfold vC
      go_wp2_with fail
      refine bodyPost_ret (v := .agg #[.int .i64 coin, .slice p l.length c']) (results_cell_row (p := 1) (ty := 24) (by kernel_rfl) _ _ w.heap.size 24 #[.int .i64 coin, .slice p l.length c'] (0, 0) _ rfl HE.out.2.2.1 Try.underlying24 rfl info_value) rfl ⟨.inl ⟨coin, l, p, c', rfl, HE.out.1, H2.out.2.2.2, HE.out.2.2.2⟩, HE.out.2.1⟩
    · exact ⟨rfl, .inr ⟨Fault.panic n, fun coin l hz => hno coin l hz.2⟩, hb33⟩
  · exact ⟨rfl, .inr ⟨Fault.panic n, fun coin l hz => by rw [hz.1] at hno; cases hno⟩, hbw⟩
theorem enters23 : ∀ (cap : Array Value) (w : World), (callFunc 23 cap).run Try.prog w = .ok (.enter 23 cap) w := fun cap w => enters_of Try.func23 (by kernel_rfl) rfl cap w
set_option maxHeartbeats 4000000 in
theorem add_any (w : World) (pa : Option Addr) (vs : List Va) (c : Nat) (h : RowV w pa vs) (hn : vs.length ≤ 1000) :
    Calls Try.prog 7 #[.slice pa vs.length c] w fun e w' => Asked (AddZ vs) (AddN vs) e w' ∧ Below w.heap.size w w' := by
  have hmf : ∀ (fn : Fn) (first cap : Array Value) (w : World), (Instr.makeFunc fn first cap).run Try.prog w = .ok (.func fn first cap) w := fun _ _ _ _ => rfl
  have hb1 : Below w.heap.size w ((w.alloc (.cells #[.slice pa vs.length c] 29)).alloc (.cells #[.int .i64 0, .slice none 0 0] 24)) := ((Below.refl _ _).alloc (Nat.le_refl _) _).alloc (by simp) _
  have hL0 : Lies ((w.alloc (.cells #[.slice pa vs.length c] 29)).alloc (.cells #[.int .i64 0, .slice none 0 0] 24)) w.heap.size #[.slice pa vs.length c] 29 := (Lies.new _ _ _).alloc _
  have hL1 : Lies ((w.alloc (.cells #[.slice pa vs.length c] 29)).alloc (.cells #[.int .i64 0, .slice none 0 0] 24)) (w.heap.size + 1) #[.int .i64 0, .slice none 0 0] 24 := by
    have := Lies.new (w.alloc (.cells #[.slice pa vs.length c] 29)) #[.int .i64 0, .slice none 0 0] 24
    simpa using this
  have hask := ask_any ((w.alloc (.cells #[.slice pa vs.length c] 29)).alloc (.cells #[.int .i64 0, .slice none 0 0] 24)) 23 #[.pointer (some ⟨w.heap.size, 0, none⟩)] (AddZ vs) (AddN vs) (enters23 _) (fun w1 hw1 =>
    add1_any w1 w.heap.size pa vs c ((hL0.below hw1 hL0.lt).cell 0 rfl) (hL0.below hw1 hL0.lt).lt (h.below (hb1.trans (hw1.mono hb1.size)) (Nat.le_refl _)) hn)
  have H := Lib.hid (And.intro hask (And.intro hb1 hL1))
  clear hask hb1 hL1 hL0 h hn
  go_enter Try.func7, Try.ntmps7
  go_wp2_with fail
  refine H.out.1.mono ?_
  rintro e w2 ⟨ht, hb2⟩
  have key : ∃ ok coin l pa' c', e = .returned (.tuple #[.agg (vC coin pa' l.length c'), .bool ok]) ∧ Row w2 pa' l ∧ (∀ e' w', Told ok coin l e' w' → Asked (AddZ vs) (AddN vs) e' w') := by
    rcases ht with ⟨coin, l, hz, pa', c', h1, h2⟩ | ⟨hN, pa', c', h1, h2⟩
    · exact ⟨true, coin, l, pa', c', h1, h2, fun e' w' hh => .inl ⟨coin, l, hz, hh⟩⟩
    · exact ⟨false, 0, [], pa', c', h1, h2, fun e' w' hh => .inr ⟨hN, hh⟩⟩
  obtain ⟨ok, coin, l, p, c', rfl, hrow, hto⟩ := key
  have hL3 := H.out.2.2.below hb2 H.out.2.2.lt
  have hb33 := H.out.2.1.trans (hb2.mono H.out.2.1.size)
  have q0 := hL3.cell 0 (v := .int .i64 0) rfl
  have q1 := hL3.cell 1 (v := .slice none 0 0) rfl
  have f0 := hL3.free 0
  have f1 := hL3.free 1
  have hL3a := hL3.set 0 (.int .i64 coin)
  have hrow2 := (hrow.small hL3 (by decide) 0 (.int .i64 coin)).small hL3a (by simp) 1 (.slice p l.length c')
  have hbR : Below w.heap.size w ((w2.setCell ⟨w.heap.size + 1, 0, none⟩ (.int .i64 coin)).setCell ⟨w.heap.size + 1, 1, none⟩ (.slice p l.length c')) := below_setCell (below_setCell hb33 _ _ (by simp)) _ _ (by simp)
  have hLR : Lies ((w2.setCell ⟨w.heap.size + 1, 0, none⟩ (.int .i64 coin)).setCell ⟨w.heap.size + 1, 1, none⟩ (.slice p l.length c')) (w.heap.size + 1) #[.int .i64 coin, .slice p l.length c'] 24 := hL3a.set 1 _
  have HE := Lib.hid (And.intro hrow2 (And.intro hbR (And.intro hLR hto)))
  clear hrow2 hbR hLR hL3a hL3 hb33 hrow hto hb2 ht
  unfold vC
  go_wp2_with fail
  refine bodyPost_ret (v := .tuple #[.agg #[.int .i64 coin, .slice p l.length c'], .bool ok]) (results_row_tmp (p := 2) (u := 3) (ty := 24) (by kernel_rfl) _ _ (w.heap.size + 1) 24 #[.int .i64 coin, .slice p l.length c'] (0, 0) _ rfl HE.out.2.2.1 Try.underlying24 rfl info_value) rfl ⟨HE.out.2.2.2 _ _ ⟨p, c', rfl, HE.out.1⟩, HE.out.2.1⟩
end Go.Proofs.Ytjngghihciimjaa
