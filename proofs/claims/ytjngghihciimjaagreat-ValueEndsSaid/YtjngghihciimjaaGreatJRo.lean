/-
  The kit's marks: mark (120), markText (121), markAsset (65), markValue (64).
-/
import Derived.Test.YtjngghihciimjaaGreatJRa
import Derived.Lib.AppendZerosOnto
import Derived.Laws.AppendOwnNone
import Derived.WalkKit
import Derived.Lib.Walk
import Derived.Lib.SliceRun
namespace Go.Proofs.YtjngghihciimjaaGreat
set_option maxRecDepth 100000
open Go.RowKit Go.Sort Go.Maps
theorem Row.small {w : World} {pa : Option Addr} {l : List As} (h : Row w pa l) {b : Nat} {cs : Array Value} {t : TypeId} (hl : Lies w b cs t) (hlt : cs.size ≤ 33) (j : Nat) (v : Value) : Row (w.setCell ⟨b, j, none⟩ v) pa l :=
 ⟨h.1, h.2.1, fun h0 => by
  obtain ⟨g, off, e, hg, hh⟩ := h.2.2 h0
  have hne : g ≠ b := fun e2 => by
   subst e2
   have ha : l[0]? = some l[0] := List.getElem?_eq_getElem h0
   have hc := hh 0 l[0] ha 33 _ (by rw [Array.getElem?_toList]; exact asC_amt _ (h.2.1 _ (List.getElem_mem h0)).1)
   rw [cell_of_row w g _ cs t (0, 0) hl, Array.getElem?_eq_none (by omega)] at hc
   cases hc
  exact ⟨g, off, e, by rw [size_set]; exact hg, fun i a hi k x hk => (World.cell?_of_block (heap_setCell_other w _ g v hne)).trans (hh i a hi k x hk)⟩⟩
theorem catch_panicking (p q : Nat) (u : TypeId) (pv : Value) (older : List PanicEntry) (w : World) (x0 x1 x2 : Value) (h0 : w.cell? ⟨p, 0, none⟩ = some x0) (h1 : w.cell? ⟨p, 1, none⟩ = some x1) (h2 : w.cell? ⟨q, 0, none⟩ = some x2)
  (f0 : w.frozen? ⟨p, 0, none⟩ = false) (f1 : w.frozen? ⟨p, 1, none⟩ = false) (f2 : w.frozen? ⟨q, 0, none⟩ = false) (hne : p ≠ q) :
  CallsD Tryz.prog 85 #[.pointer (some ⟨p, 0, none⟩), .pointer (some ⟨q, 0, none⟩)] (.panicking ({ v := .iface u pv, recovered := false } :: older)) w fun e u' w' =>
   e = .returned (.tuple #[]) ∧ u' = .panicking ({ v := .iface u pv, recovered := true } :: older) ∧ w' = ((w.setCell ⟨p, 0, none⟩ (.int .i64 0)).setCell ⟨p, 1, none⟩ (.slice none 0 0)).setCell ⟨q, 0, none⟩ (.bool false) := by
 have hne' : ¬ q = p := fun e => hne e.symm
 refine callsD_of_wpS Tryz.func85 rfl fun c₀ cs hu => ?_
 apply wpS_seq
 apply wpS_region
 simp [wpOpsS, go_sem, recoverD, hu, Tryz.ntmps85, Exit.thenS]
 refine wpS_cond (t := true) (by simp [Act.eval, Array.replicate]) ?_
 simp only [if_true]
 apply wpS_region
 simp [wpOpsS, go_sem, h0, h1, h2, f0, f1, f2, hne, hne', bodyPostS, results, Tryz.results85]
theorem catch_idle (p q : Addr) (w : World) :
  CallsD Tryz.prog 85 #[.pointer (some p), .pointer (some q)] .returning w fun e u' w' => e = .returned (.tuple #[]) ∧ u' = .returning ∧ w' = w := by
 refine callsD_of_wpS Tryz.func85 rfl fun c₀ cs hu => ?_
 apply wpS_seq
 apply wpS_region
 simp [wpOpsS, go_sem, recoverD, hu, Tryz.ntmps85, Exit.thenS]
 refine wpS_cond (t := false) (by simp [Act.eval, Array.replicate]) ?_
 simp only [Bool.false_eq_true, if_false]
 refine wpS_of_wp (wp_skip ?_)
 cases c₀
 simp_all [bodyPostS, results, Tryz.results85]
def Told (B : Nat) (ok : Bool) (coin : Int) (l : List As) (e : Ending) (w' : World) : Prop := ∃ pa c, e = .returned (.tuple #[.agg (vC coin pa l.length c), .bool ok]) ∧ Mine B w' pa l c
def Tells (B : Nat) (Z : Int → List As → Prop) (N : Prop) (e : Ending) (w' : World) : Prop := (∃ coin l pa c, e = .returned (.agg (vC coin pa l.length c)) ∧ Mine B w' pa l c ∧ Z coin l) ∨ (Fault e ∧ N)
def Asked (B : Nat) (Z : Int → List As → Prop) (N : Prop) (e : Ending) (w' : World) : Prop := (∃ coin l, Z coin l ∧ Told B true coin l e w') ∨ (N ∧ Told B false 0 [] e w')
theorem row_nil (w : World) : Row w none [] := ⟨Nat.zero_le _, fun a ha => by simp at ha, fun h => absurd h (by simp)⟩
theorem mine_nil (B : Nat) (w : World) : Mine B w none [] 0 := ⟨row_nil w, World.ownsRow_nil _ _ _ _⟩
theorem Mine.small {B : Nat} {w : World} {pa : Option Addr} {l : List As} {c : Nat} (h : Mine B w pa l c) {b : Nat} {cs : Array Value} {t : TypeId} (hl : Lies w b cs t) (hlt : cs.size ≤ 33) (j : Nat) (v : Value) (hne : t ≠ 38 := by decide) : Mine B (w.setCell ⟨b, j, none⟩ v) pa l c :=
 ⟨h.1.small hl hlt j v, h.2.kept (grown_setCell w _ _) (.inr (ownsRow_far h.2 hl hne).symm)⟩
set_option maxHeartbeats 4000000 in
theorem ask_any (w : World) (K : Nat) (cap : Array Value) (Z : Int → List As → Prop) (N : Prop)
  (hK : ∀ w : World, (callFunc K cap).run Tryz.prog w = .ok (.enter K cap) w) (hbe : ∀ w1, Below w.heap.size w w1 → Calls Tryz.prog K cap w1 fun e w2 => Tells w1.heap.size Z N e w2 ∧ Below w1.heap.size w1 w2) :
  Calls Tryz.prog 49 #[.func (Fn.func K) #[] cap] w fun e w' => Asked w.heap.size Z N e w' ∧ Below w.heap.size w w' := by
 have hmf : ∀ (fn : Fn) (first cap : Array Value) (w : World), (Instr.makeFunc fn first cap).run Tryz.prog w = .ok (.func fn first cap) w := fun _ _ _ _ => rfl
 have hb : Below w.heap.size w ((w.alloc (.cells #[.int .i64 0, .slice none 0 0] 24)).alloc (.cells #[.bool false] 4)) := ((Below.refl _ _).alloc (Nat.le_refl _) _).alloc (by simp) _
 have hl0 : Lies ((w.alloc (.cells #[.int .i64 0, .slice none 0 0] 24)).alloc (.cells #[.bool false] 4)) w.heap.size #[.int .i64 0, .slice none 0 0] 24 := (Lies.new _ _ _).alloc _
 have hl1 : Lies ((w.alloc (.cells #[.int .i64 0, .slice none 0 0] 24)).alloc (.cells #[.bool false] 4)) (w.heap.size + 1) #[.bool false] 4 := by
  have := Lies.new (w.alloc (.cells #[.int .i64 0, .slice none 0 0] 24)) #[.bool false] 4
  simpa using this
 have hc2 := hbe _ hb
 have HC := Lib.hid hc2
 have HB := Lib.hid (And.intro hb (And.intro hl0 hl1))
 clear hb hc2 hbe hl0 hl1
 go_enter_defers Tryz.func49, Tryz.ntmps49
 go_wp2_with fail
 refine HC.out.mono ?_
 rintro e w2 ⟨ht, hb2⟩
 have hL0 := HB.out.2.1.below hb2 HB.out.2.1.lt
 have hL1 := HB.out.2.2.below hb2 HB.out.2.2.lt
 have hbw := HB.out.1.trans (hb2.mono HB.out.1.size)
 generalize (w.alloc (.cells #[.int .i64 0, .slice none 0 0] 24)).alloc (.cells #[.bool false] 4) = W0 at hb2 HB ht ⊢
 have k0 := hL0.cell 0 (v := .int .i64 0) rfl
 have k1 := hL0.cell 1 (v := .slice none 0 0) rfl
 have k2 := hL1.cell 0 (v := .bool false) rfl
 have f0 := hL0.free 0
 have f1 := hL0.free 1
 have f2 := hL1.free 0
 rcases ht with ⟨coin, l, pa, c, rfl, hrow, hz⟩ | ⟨⟨n, rfl⟩, hN⟩
 ·
  have hrow := hrow.mono HB.out.1.size
  have H2 := Lib.hid (And.intro hL0 (And.intro hL1 (And.intro hbw (And.intro hrow hz))))
  clear hL0 hL1 hbw hrow hz hb2
  unfold vC
  go_wp2_with fail
  have hL0 := H2.out.1
  have hL1 := H2.out.2.1
  have hL0a := hL0.set 0 (.int .i64 coin)
  have hL0b := hL0a.set 1 (.slice pa l.length c)
  have hL1b : Lies ((w2.setCell ⟨w.heap.size, 0, none⟩ (.int .i64 coin)).setCell ⟨w.heap.size, 1, none⟩ (.slice pa l.length c)) (w.heap.size + 1) #[.bool false] 4 := (hL1.other _ _ (by simp)).other _ _ (by simp)
  have hr1 := ((H2.out.2.2.2.1.small hL0 (by decide) 0 (.int .i64 coin)).small hL0a (by simp) 1 (.slice pa l.length c)).small hL1b (by decide) 0 (.bool true)
  have hL0c := hL0b.other ⟨w.heap.size + 1, 0, none⟩ (.bool true) (by simp)
  have hL1c := hL1b.set 0 (.bool true)
  have hbf := below_setCell (below_setCell (below_setCell H2.out.2.2.1 ⟨w.heap.size, 0, none⟩ (.int .i64 coin) (Nat.le_refl _)) ⟨w.heap.size, 1, none⟩ (.slice pa l.length c) (Nat.le_refl _)) ⟨w.heap.size + 1, 0, none⟩ (.bool true) (by simp)
  generalize ((w2.setCell ⟨w.heap.size, 0, none⟩ (.int .i64 coin)).setCell ⟨w.heap.size, 1, none⟩ (.slice pa l.length c)).setCell ⟨w.heap.size + 1, 0, none⟩ (.bool true) = w3 at hr1 hL0c hL1c hbf ⊢
  have n0 := hL0c.cell 0 (v := .int .i64 coin) rfl
  have n1 := hL0c.cell 1 (v := .slice pa l.length c) rfl
  have n2 := hL1c.cell 0 (v := .bool true) rfl
  refine leaves_cons (f := 85) (args := #[.pointer (some ⟨w.heap.size, 0, none⟩), .pointer (some ⟨w.heap.size + 1, 0, none⟩)]) (by simp) (by simp [go_sem]) ?_
  refine (catch_idle ⟨w.heap.size, 0, none⟩ ⟨w.heap.size + 1, 0, none⟩ _).mono ?_
  rintro e u' w'' ⟨rfl, rfl, hw⟩
  subst hw
  have HZ := Lib.hid (And.intro hr1 hbf)
  clear hr1 hbf hL0 hL1 hL0a hL0b hL1b hL0c hL1c k0 k1 k2 f0 f1 f2
  simp [Leaves, settle, results, Tryz.results49, go_sem, n0, n1, n2]
  exact ⟨.inl ⟨coin, l, H2.out.2.2.2.2, pa, c, rfl, HZ.out.1⟩, HZ.out.2⟩
 ·
  have H2 := Lib.hid (And.intro hL0 (And.intro hL1 (And.intro hbw hN)))
  clear hL0 hL1 hbw hN hb2
  go_wp2_with fail
  have hL0 := H2.out.1
  have hL1 := H2.out.2.1
  have hL0a := hL0.set 0 (.int .i64 0)
  have hL0b := hL0a.set 1 (.slice none 0 0)
  have hL1b : Lies ((w2.setCell ⟨w.heap.size, 0, none⟩ (.int .i64 0)).setCell ⟨w.heap.size, 1, none⟩ (.slice none 0 0)) (w.heap.size + 1) #[.bool false] 4 := (hL1.other _ _ (by simp)).other _ _ (by simp)
  have hL0c := hL0b.other ⟨w.heap.size + 1, 0, none⟩ (.bool false) (by simp)
  have hL1c := hL1b.set 0 (.bool false)
  have hbf := below_setCell (below_setCell (below_setCell H2.out.2.2.1 ⟨w.heap.size, 0, none⟩ (.int .i64 0) (Nat.le_refl _)) ⟨w.heap.size, 1, none⟩ (.slice none 0 0) (Nat.le_refl _)) ⟨w.heap.size + 1, 0, none⟩ (.bool false) (by simp)
  refine leaves_cons (f := 85) (args := #[.pointer (some ⟨w.heap.size, 0, none⟩), .pointer (some ⟨w.heap.size + 1, 0, none⟩)]) (by simp) (by simp [go_sem]) ?_
  refine (catch_panicking w.heap.size (w.heap.size + 1) 139 _ [] _ _ _ _ k0 k1 k2 f0 f1 f2 (by simp)).mono ?_
  rintro e u' w'' ⟨rfl, rfl, hw⟩
  rw [hw]
  clear hw
  generalize ((w2.setCell ⟨w.heap.size, 0, none⟩ (.int .i64 0)).setCell ⟨w.heap.size, 1, none⟩ (.slice none 0 0)).setCell ⟨w.heap.size + 1, 0, none⟩ (.bool false) = w3 at hL0c hL1c hbf ⊢
  have n0 := hL0c.cell 0 (v := .int .i64 0) rfl
  have n1 := hL0c.cell 1 (v := .slice none 0 0) rfl
  have n2 := hL1c.cell 0 (v := .bool false) rfl
  have HZ := Lib.hid hbf
  clear hbf hL0 hL1 hL0a hL0b hL1b hL0c hL1c k0 k1 k2 f0 f1 f2
  simp [Leaves, settle, results, Tryz.results49, go_sem, n0, n1, n2]
  exact ⟨.inr ⟨H2.out.2.2.2, none, 0, rfl, mine_nil _ _⟩, HZ.out⟩
end Go.Proofs.YtjngghihciimjaaGreat
namespace Go.Proofs.YtjngghihciimjaaGreat
set_option maxRecDepth 100000
open Go.RowKit Go.Sort Go.Maps
theorem wellB_iff (l : List As) : wellB isPos l = true ↔ (∀ a, a ∈ l → a.nm.2.length ≤ 32 ∧ 1 ≤ a.amt) ∧ l.Pairwise fun a b => cN a.nm b.nm < 0 := by
 have hD : ∀ (i : Nat) (h : i < l.length), l.getD i default = l[i] := fun i h => by simp [List.getD, h]
 constructor
 ·
  intro h
  have hall : ∀ i, i < l.length → okAt isPos l i = true := fun i hi => by
   unfold wellB at h
   exact List.all_eq_true.1 h i (List.mem_range.2 hi)
  have hadj : ∀ i (h1 : i + 1 < l.length), cN (l[i]'(by omega)).nm (l[i + 1]).nm < 0 := fun i h1 => by
   have h2 := hall (i + 1) h1
   unfold okAt at h2
   rw [hD (i + 1) h1, Nat.add_sub_cancel, hD i (by omega)] at h2
   simp at h2
   exact h2.2
  have hlt : ∀ (d i : Nat) (h1 : i + (d + 1) < l.length), cN (l[i]'(by omega)).nm (l[i + (d + 1)]).nm < 0 := fun d => by
   induction d with
   | zero => exact fun i h1 => hadj i h1
   | succ d ih => exact fun i h1 => cN_trans (ih i (by omega)) (hadj (i + (d + 1)) h1)
  refine ⟨fun a ha => ?_, List.pairwise_iff_getElem.2 fun i j hi hj hij => ?_⟩
  ·
   obtain ⟨i, hi, rfl⟩ := List.mem_iff_getElem.1 ha
   have h2 := hall i hi
   unfold okAt isPos at h2
   rw [hD i hi] at h2
   simp only [Bool.and_eq_true, decide_eq_true_iff] at h2
   exact ⟨h2.1.1, h2.1.2⟩
  ·
   obtain ⟨d, rfl⟩ : ∃ d, j = i + (d + 1) := ⟨j - i - 1, by omega⟩
   exact hlt d i hj
 ·
  rintro ⟨h1, h2⟩
  refine well_yes fun i hi => ?_
  unfold okAt isPos
  rw [hD i hi]
  have h3 := h1 _ (List.getElem_mem hi)
  simp only [Bool.and_eq_true, decide_eq_true_iff]
  refine ⟨⟨h3.1, h3.2⟩, ?_⟩
  rw [Bool.or_eq_true, beq_iff_eq, decide_eq_true_iff]
  by_cases h0 : i = 0
  ·
   exact .inl h0
  ·
   right
   rw [hD (i - 1) (by omega)]
   exact (List.pairwise_iff_getElem.1 h2) (i - 1) i (by omega) hi (by omega)
theorem right_iff (coin : Int) (l : List As) : rightB coin l = true ↔ 0 ≤ coin ∧ l.length ≤ 30 ∧ (∀ a, a ∈ l → a.nm.2.length ≤ 32 ∧ 1 ≤ a.amt) ∧ l.Pairwise fun a b => cN a.nm b.nm < 0 := by
 unfold rightB
 rw [Bool.and_eq_true, Bool.and_eq_true, decide_eq_true_iff, decide_eq_true_iff, wellB_iff, and_assoc]
theorem ctsL_few : ∀ {vs : List Va}, vs.all rightV = true → (ctsL vs).length ≤ 30 * vs.length
  | [], _ => by simp [ctsL]
  | v :: vs, h => by
    rw [List.all_cons, Bool.and_eq_true] at h
    have h1 := ((right_iff v.coin v.l).1 h.1).2.1
    have h2 := ctsL_few h.2
    have e : ctsL (v :: vs) = ctsOf v ++ ctsL vs := rfl
    rw [e, List.length_append, List.length_cons]
    unfold ctsOf
    rw [List.length_map]
    omega
theorem ctsL_mem {vs : List Va} {p : Ct} (h : p ∈ ctsL vs) : ∃ v, v ∈ vs ∧ ∃ a, a ∈ v.l ∧ p = (a.nm, wide a.amt) := by
 obtain ⟨v, hv, h1⟩ := List.mem_flatMap.1 h
 obtain ⟨a, ha, h2⟩ := List.mem_map.1 h1
 exact ⟨v, hv, a, ha, h2.symm⟩
end Go.Proofs.YtjngghihciimjaaGreat
namespace Go.Proofs.YtjngghihciimjaaGreat
set_option maxRecDepth 100000
open Go.RowKit Go.Sort Go.Maps
def AddZ (vs : List Va) (coin : Int) (l : List As) : Prop := vs.all rightV = true ∧ TogOk (coinS vs) (sumAt (ctsL vs)) coin l
def AddN (vs : List Va) : Prop := ∀ coin l, ¬ AddZ vs coin l
theorem rowV_names {w : World} {pa : Option Addr} {vs : List Va} (h : RowV w pa vs) (hall : vs.all rightV = true) : ∀ p, p ∈ ctsL vs → p.1.1.length = 32 ∧ p.1.2.length ≤ 281474976710656 := fun p hp => by
 obtain ⟨v, hv, a, ha, rfl⟩ := ctsL_mem hp
 have h1 := ((right_iff v.coin v.l).1 (List.all_eq_true.1 hall v hv)).2.2.1 a ha
 obtain ⟨i, hi⟩ := List.getElem?_of_mem hv
 obtain ⟨g, off, _, _, hh⟩ := h.2 (by have := (List.getElem?_eq_some_iff.1 hi).1; omega)
 have h2 := (hh i v hi).2.2.2.2.1 a ha
 exact ⟨h2.1, Nat.le_trans h1.1 (by decide)⟩
set_option maxHeartbeats 4000000 in
theorem add1_any (w : World) (b : Nat) (pa : Option Addr) (vs : List Va) (c : Nat) (hb : w.cell? ⟨b, 0, none⟩ = some (.slice pa vs.length c)) (hlb : b < w.heap.size) (h : RowV w pa vs) (hn : vs.length ≤ 1000) :
  Calls Tryz.prog 66 #[.pointer (some ⟨b, 0, none⟩)] w fun e w' => Tells w.heap.size (AddZ vs) (AddN vs) e w' ∧ Below w.heap.size w w' := by
 have hb1 : Below w.heap.size w (w.alloc (.cells #[.int .i64 0, .slice none 0 0] 24)) := (Below.refl _ _).alloc (Nat.le_refl _) _
 have hL1 : Lies (w.alloc (.cells #[.int .i64 0, .slice none 0 0] 24)) w.heap.size #[.int .i64 0, .slice none 0 0] 24 := Lies.new _ _ _
 have hq : (w.alloc (.cells #[.int .i64 0, .slice none 0 0] 24)).cell? ⟨b, 0, none⟩ = some (.slice pa vs.length c) := (hb1.cell (p := ⟨b, 0, none⟩) hlb).trans hb
 have hmust := mustRight_any _ pa vs c (h.below hb1 (Nat.le_refl _))
 have H := Lib.hid (And.intro h (And.intro hn (And.intro hb1 (And.intro hL1 (And.intro hb hlb)))))
 have HM := Lib.hid hmust
 clear h hn hb1 hL1 hmust hb hlb
 go_enter Tryz.func66, Tryz.ntmps66
 go_wp2_with fail
 refine HM.out.mono ?_
 rintro e w2 ⟨hm, hb2⟩
 have hbw := H.out.2.2.1.trans (hb2.mono H.out.2.2.1.size)
 rcases hm with ⟨hall, v, rfl⟩ | ⟨hno, n, rfl⟩
 ·
  have hL2 := H.out.2.2.2.1.below hb2 H.out.2.2.2.1.lt
  have hq2 : w2.cell? ⟨b, 0, none⟩ = some (.slice pa vs.length c) := (hbw.cell (p := ⟨b, 0, none⟩) H.out.2.2.2.2.2).trans H.out.2.2.2.2.1
  have htog := together_any w2 pa vs c (H.out.1.below hbw (Nat.le_refl _)) (Nat.le_trans (ctsL_few hall) (by have := H.out.2.1; omega)) (rowV_names H.out.1 hall)
  have H2 := Lib.hid (And.intro hL2 (And.intro hbw (And.intro htog hall)))
  clear hL2 hbw htog hall hb2 hq HM
  go_wp2_with fail
  refine H2.out.2.2.1.mono ?_
  rintro e w3 ⟨ht, hb3⟩
  have hL3 := H2.out.1.below hb3 H2.out.1.lt
  have hb33 := H2.out.2.1.trans (hb3.mono H2.out.2.1.size)
  rcases ht with ⟨coin, l, p, c', rfl, hrow, hok⟩ | ⟨⟨n, rfl⟩, hno⟩
  ·
   have hrow := hrow.mono H2.out.2.1.size
   have q0 := hL3.cell 0 (v := .int .i64 0) rfl
   have q1 := hL3.cell 1 (v := .slice none 0 0) rfl
   have f0 := hL3.free 0
   have f1 := hL3.free 1
   have hL3a := hL3.set 0 (.int .i64 coin)
   have hrow2 := (hrow.small hL3 (by decide) 0 (.int .i64 coin)).small hL3a (by simp) 1 (.slice p l.length c')
   have hbR : Below w.heap.size w ((w3.setCell ⟨w.heap.size, 0, none⟩ (.int .i64 coin)).setCell ⟨w.heap.size, 1, none⟩ (.slice p l.length c')) := below_setCell (below_setCell hb33 _ _ (by simp)) _ _ (by simp)
   have hLR : Lies ((w3.setCell ⟨w.heap.size, 0, none⟩ (.int .i64 coin)).setCell ⟨w.heap.size, 1, none⟩ (.slice p l.length c')) w.heap.size #[.int .i64 coin, .slice p l.length c'] 24 := hL3a.set 1 _
   have HE := Lib.hid (And.intro hrow2 (And.intro hbR (And.intro hLR hok)))
   clear hrow2 hbR hLR hL3a hL3 hb33 hrow hok hb3 hq2
   unfold vC
   go_wp2_with fail
   refine bodyPost_ret (v := .agg #[.int .i64 coin, .slice p l.length c']) (results_cell_row (p := 1) (ty := 24) (by kernel_rfl) _ _ w.heap.size 24 #[.int .i64 coin, .slice p l.length c'] (0, 0) _ rfl HE.out.2.2.1 Tryz.underlying24 rfl info_value) rfl ⟨.inl ⟨coin, l, p, c', rfl, HE.out.1, H2.out.2.2.2, HE.out.2.2.2⟩, HE.out.2.1⟩
  ·
   exact ⟨rfl, .inr ⟨Fault.panic n, fun coin l hz => hno coin l hz.2⟩, hb33⟩
 ·
  exact ⟨rfl, .inr ⟨Fault.panic n, fun coin l hz => by rw [hz.1] at hno; cases hno⟩, hbw⟩
theorem enters23 : ∀ (cap : Array Value) (w : World), (callFunc 66 cap).run Tryz.prog w = .ok (.enter 66 cap) w := fun cap w => enters_of Tryz.func66 (by kernel_rfl) rfl cap w
set_option maxHeartbeats 4000000 in
theorem add_any (w : World) (pa : Option Addr) (vs : List Va) (c : Nat) (h : RowV w pa vs) (hn : vs.length ≤ 1000) :
  Calls Tryz.prog 24 #[.slice pa vs.length c] w fun e w' => Asked w.heap.size (AddZ vs) (AddN vs) e w' ∧ Below w.heap.size w w' := by
 have hmf : ∀ (fn : Fn) (first cap : Array Value) (w : World), (Instr.makeFunc fn first cap).run Tryz.prog w = .ok (.func fn first cap) w := fun _ _ _ _ => rfl
 have hb1 : Below w.heap.size w ((w.alloc (.cells #[.slice pa vs.length c] 28)).alloc (.cells #[.int .i64 0, .slice none 0 0] 24)) := ((Below.refl _ _).alloc (Nat.le_refl _) _).alloc (by simp) _
 have hL0 : Lies ((w.alloc (.cells #[.slice pa vs.length c] 28)).alloc (.cells #[.int .i64 0, .slice none 0 0] 24)) w.heap.size #[.slice pa vs.length c] 28 := (Lies.new _ _ _).alloc _
 have hL1 : Lies ((w.alloc (.cells #[.slice pa vs.length c] 28)).alloc (.cells #[.int .i64 0, .slice none 0 0] 24)) (w.heap.size + 1) #[.int .i64 0, .slice none 0 0] 24 := by
  have := Lies.new (w.alloc (.cells #[.slice pa vs.length c] 28)) #[.int .i64 0, .slice none 0 0] 24
  simpa using this
 have hask := ask_any ((w.alloc (.cells #[.slice pa vs.length c] 28)).alloc (.cells #[.int .i64 0, .slice none 0 0] 24)) 66 #[.pointer (some ⟨w.heap.size, 0, none⟩)] (AddZ vs) (AddN vs) (enters23 _) (fun w1 hw1 =>
  add1_any w1 w.heap.size pa vs c ((hL0.below hw1 hL0.lt).cell 0 rfl) (hL0.below hw1 hL0.lt).lt (h.below (hb1.trans (hw1.mono hb1.size)) (Nat.le_refl _)) hn)
 have H := Lib.hid (And.intro hask (And.intro hb1 hL1))
 clear hask hb1 hL1 hL0 h hn
 go_enter Tryz.func24, Tryz.ntmps24
 go_wp2_with fail
 refine H.out.1.mono ?_
 rintro e w2 ⟨ht, hb2⟩
 have key : ∃ ok coin l pa' c', e = .returned (.tuple #[.agg (vC coin pa' l.length c'), .bool ok]) ∧ Mine w.heap.size w2 pa' l c' ∧ (∀ e' w', Told w.heap.size ok coin l e' w' → Asked w.heap.size (AddZ vs) (AddN vs) e' w') := by
  rcases ht with ⟨coin, l, hz, pa', c', h1, h2⟩ | ⟨hN, pa', c', h1, h2⟩
  ·
   exact ⟨true, coin, l, pa', c', h1, h2.mono H.out.2.1.size, fun e' w' hh => .inl ⟨coin, l, hz, hh⟩⟩
  ·
   exact ⟨false, 0, [], pa', c', h1, h2.mono H.out.2.1.size, fun e' w' hh => .inr ⟨hN, hh⟩⟩
 obtain ⟨ok, coin, l, p, c', rfl, hrow, hto⟩ := key
 have hL3 := H.out.2.2.below hb2 H.out.2.2.lt
 have hb33 := H.out.2.1.trans (hb2.mono H.out.2.1.size)
 have q0 := hL3.cell 0 (v := .int .i64 0) rfl
 have q1 := hL3.cell 1 (v := .slice none 0 0) rfl
 have f0 := hL3.free 0
 have f1 := hL3.free 1
 have hL3a := hL3.set 0 (.int .i64 coin)
 have hrow2 := (hrow.small hL3 (by decide) 0 (.int .i64 coin)).small hL3a (by simp) 1 (.slice p l.length c')
 have hbR : Below w.heap.size w ((w2.setCell ⟨w.heap.size + 1, 0, none⟩ (.int .i64 coin)).setCell ⟨w.heap.size + 1, 1, none⟩ (.slice p l.length c')) := below_setCell (below_setCell hb33 _ _ (by simp)) _ _ (by simp)
 have hLR : Lies ((w2.setCell ⟨w.heap.size + 1, 0, none⟩ (.int .i64 coin)).setCell ⟨w.heap.size + 1, 1, none⟩ (.slice p l.length c')) (w.heap.size + 1) #[.int .i64 coin, .slice p l.length c'] 24 := hL3a.set 1 _
 have HE := Lib.hid (And.intro hrow2 (And.intro hbR (And.intro hLR hto)))
 clear hrow2 hbR hLR hL3a hL3 hb33 hrow hto hb2 ht
 unfold vC
 go_wp2_with fail
 refine bodyPost_ret (v := .tuple #[.agg #[.int .i64 coin, .slice p l.length c'], .bool ok]) (results_row_tmp (p := 2) (u := 3) (ty := 24) (by kernel_rfl) _ _ (w.heap.size + 1) 24 #[.int .i64 coin, .slice p l.length c'] (0, 0) _ rfl HE.out.2.2.1 Tryz.underlying24 rfl info_value) rfl ⟨HE.out.2.2.2 _ _ ⟨p, c', rfl, HE.out.1⟩, HE.out.2.1⟩
end Go.Proofs.YtjngghihciimjaaGreat
namespace Go.Proofs.YtjngghihciimjaaGreat
set_option maxRecDepth 100000
open Go.RowKit Go.Sort Go.Maps
theorem rowV_of {W : World} {g : Nat} {cs : Array Value} {vs : List Va} {t : TypeId} (hl : Lies W g cs t) (hc : cs.toList = cellsF vaC vs) (hok : ∀ v, v ∈ vs → VaOk W v) (hlen : vs.length ≤ maxLen) : RowV W (some ⟨g, 0, none⟩) vs :=
 ⟨hlen, fun _ => ⟨g, 0, rfl, hl.lt, fun i v hi => ⟨fun j x hj => by
  have hj2 : j < 2 := by
   have := (List.getElem?_eq_some_iff.1 hj).1
   rwa [Array.length_toList, vaC_size] at this
  have h1 := cellsF_get vaC 2 vs (fun v _ => vaC_size v) i v hi j hj2
  rw [Array.getElem?_toList] at hj
  rw [hj, ← hc, Array.getElem?_toList] at h1
  rw [Nat.zero_add]
  exact hl.cell (i * 2 + j) h1, hok v (List.mem_of_getElem? hi)⟩⟩⟩
theorem VaOk.below {W U : World} {v : Va} (h : VaOk W v) {B : Nat} (hb : Below B W U) (hB : W.heap.size ≤ B) : VaOk U v := ⟨h.1, h.2.1, h.2.2.below hb hB⟩
theorem Row.smallRow {w : World} {pa : Option Addr} {l : List As} (h : Row w pa l) {b : Nat} {cs : Array Value} {t : TypeId} (hl : Lies w b cs t) (hlt : cs.size ≤ 33) (cs' : Array Value) : Row (w.setRow b cs') pa l :=
 ⟨h.1, h.2.1, fun h0 => by
  obtain ⟨g, off, e, hg, hh⟩ := h.2.2 h0
  have hne : g ≠ b := fun e2 => by
   subst e2
   have hc := hh 0 l[0] (List.getElem?_eq_getElem h0) 33 _ (by rw [Array.getElem?_toList]; exact asC_amt _ (h.2.1 _ (List.getElem_mem h0)).1)
   rw [cell_of_row w g _ cs t (0, 0) hl, Array.getElem?_eq_none (by omega)] at hc
   cases hc
  exact ⟨g, off, e, by simpa [World.setRow] using hg, fun i a hi k x hk => (World.cell?_of_block (setRow_other w b g cs' hne)).trans (hh i a hi k x hk)⟩⟩
def turnV (v : Va) : Va := ⟨-v.coin, none, turnL v.l, 0⟩
def SubZ (a b : Va) (coin : Int) (l : List As) : Prop := (rightV a = true ∧ rightV b = true) ∧ TogOk (coinS [a, turnV b]) (sumAt (ctsL [a, turnV b])) coin l
def SubN (a b : Va) : Prop := ∀ coin l, ¬ SubZ a b coin l
theorem Mine.smallRow {B : Nat} {w : World} {pa : Option Addr} {l : List As} {c : Nat} (h : Mine B w pa l c) {b : Nat} {cs : Array Value} {t : TypeId} (hl : Lies w b cs t) (hlt : cs.size ≤ 33) (cs' : Array Value) (hne : t ≠ 38 := by decide) : Mine B (w.setRow b cs') pa l c :=
 ⟨h.1.smallRow hl hlt cs', h.2.kept (grown_setRow w _ _) (.inr (ownsRow_far h.2 hl hne).symm)⟩
theorem turn_names {w : World} {a b : Va} (ha : VaOk w a) (hb : VaOk w b) (ra : rightV a = true) (rb : rightV b = true) : ∀ p, p ∈ ctsL [a, turnV b] → p.1.1.length = 32 ∧ p.1.2.length ≤ 281474976710656 := fun p hp => by
 obtain ⟨v, hv, x, hx, rfl⟩ := ctsL_mem hp
 rcases List.mem_cons.1 hv with rfl | hv
 ·
  exact ⟨(ha.2.2.2.1 x hx).1, Nat.le_trans (((right_iff _ _).1 ra).2.2.1 x hx).1 (by decide)⟩
 ·
  rw [List.mem_singleton] at hv
  subst hv
  obtain ⟨y, hy, rfl⟩ := List.mem_map.1 hx
  exact ⟨(hb.2.2.2.1 y hy).1, Nat.le_trans (((right_iff _ _).1 rb).2.2.1 y hy).1 (by decide)⟩
set_option maxHeartbeats 4000000 in
theorem sub1_any (w : World) (ba bb : Nat) (a b : Va) (hLa : Lies w ba (vaC a) 24) (hLb : Lies w bb (vaC b) 24) (ha : VaOk w a) (hb : VaOk w b) :
  Calls Tryz.prog 50 #[.pointer (some ⟨ba, 0, none⟩), .pointer (some ⟨bb, 0, none⟩)] w fun e w' => Tells w.heap.size (SubZ a b) (SubN a b) e w' ∧ Below w.heap.size w w' := by
 have hb1 : Below w.heap.size w (w.alloc (.cells #[.int .i64 0, .slice none 0 0] 24)) := (Below.refl _ _).alloc (Nat.le_refl _) _
 have hb2 : Below w.heap.size w ((w.alloc (.cells #[.int .i64 0, .slice none 0 0] 24)).alloc (.cells #[.int .i64 a.coin, .slice a.pa a.l.length a.c, .int .i64 b.coin, .slice b.pa b.l.length b.c] 24)) := hb1.alloc hb1.size _
 have hL1 : Lies ((w.alloc (.cells #[.int .i64 0, .slice none 0 0] 24)).alloc (.cells #[.int .i64 a.coin, .slice a.pa a.l.length a.c, .int .i64 b.coin, .slice b.pa b.l.length b.c] 24)) w.heap.size #[.int .i64 0, .slice none 0 0] 24 := (Lies.new _ _ _).alloc _
 have hL2 : Lies ((w.alloc (.cells #[.int .i64 0, .slice none 0 0] 24)).alloc (.cells #[.int .i64 a.coin, .slice a.pa a.l.length a.c, .int .i64 b.coin, .slice b.pa b.l.length b.c] 24)) (w.heap.size + 1) #[.int .i64 a.coin, .slice a.pa a.l.length a.c, .int .i64 b.coin, .slice b.pa b.l.length b.c] 24 := by
  have := Lies.new (w.alloc (.cells #[.int .i64 0, .slice none 0 0] 24)) #[.int .i64 a.coin, .slice a.pa a.l.length a.c, .int .i64 b.coin, .slice b.pa b.l.length b.c] 24
  simpa using this
 have hmust := mustRight_any _ (some ⟨w.heap.size + 1, 0, none⟩) [a, b] 2 (rowV_of hL2 rfl (fun v hv => by
  rcases List.mem_cons.1 hv with rfl | hv
  ·
   exact ha.below hb2 (Nat.le_refl _)
  ·
   rw [List.mem_singleton] at hv
   rw [hv]
   exact hb.below hb2 (Nat.le_refl _)) (show 2 ≤ maxLen by decide))
 have q0 := hLa.cell 0 (v := .int .i64 a.coin) rfl
 have q1 := hLa.cell 1 (v := .slice a.pa a.l.length a.c) rfl
 have q2 := hLb.cell 0 (v := .int .i64 b.coin) rfl
 have q3 := hLb.cell 1 (v := .slice b.pa b.l.length b.c) rfl
 have q0 := (hb1.cell (p := ⟨ba, 0, none⟩) hLa.lt).trans q0
 have q1 := (hb1.cell (p := ⟨ba, 1, none⟩) hLa.lt).trans q1
 have q2 := (hb1.cell (p := ⟨bb, 0, none⟩) hLb.lt).trans q2
 have q3 := (hb1.cell (p := ⟨bb, 1, none⟩) hLb.lt).trans q3
 have H := Lib.hid (And.intro hLa (And.intro hLb (And.intro ha (And.intro hb (And.intro hb2 hL1)))))
 have HM := Lib.hid hmust
 clear hb1 hL1 hL2 hmust hb hb2 ha hLa hLb
 go_enter Tryz.func50, Tryz.ntmps50
 go_wp2_with fail
 refine HM.out.mono ?_
 rintro e w2 ⟨hm, hb2⟩
 have hbw := H.out.2.2.2.2.1.trans (hb2.mono H.out.2.2.2.2.1.size)
 have hL2 := H.out.2.2.2.2.2.below hb2 H.out.2.2.2.2.2.lt
 clear q0 q1 q2 q3 HM
 rcases hm with ⟨hall, v, rfl⟩ | ⟨hno, n, rfl⟩
 ·
  have hr : rightV a = true ∧ rightV b = true := by simpa using hall
  have hra := (right_iff a.coin a.l).1 hr.1
  have hrb := (right_iff b.coin b.l).1 hr.2
  have hLa := H.out.1.below hbw H.out.1.lt
  have hLb := H.out.2.1.below hbw H.out.2.1.lt
  have hoa := H.out.2.2.1.below hbw (Nat.le_refl _)
  have hob := H.out.2.2.2.1.below hbw (Nat.le_refl _)
  have hwlt := hL2.lt
  go_upto_region 2 with fail
  have HS : Hid (∀ U, Below w2.heap.size w2 U → Lies U ba (vaC a) 24 ∧ Lies U bb (vaC b) 24) := Lib.hid fun U hU => ⟨hLa.below hU hLa.lt, hLb.below hU hLb.lt⟩
  have H2 := Lib.hid (And.intro hL2 (And.intro hbw (And.intro hr (And.intro hra (And.intro hrb (And.intro hoa (And.intro hob hwlt)))))))
  clear hL2 hbw hr hra hrb hoa hob hwlt hLa hLb hall hb2
  refine wp_region_orPanic (fun c U => (∃ n, c = [{ v := .iface 139 (.int .i64 n), recovered := false }]) ∧ SubN a b ∧ Below w.heap.size w U) (fun c x U h1 h2 => ⟨h1, .inr ⟨by obtain ⟨n, rfl⟩ := h2.1; exact Fault.panic n, h2.2.1⟩, h2.2.2⟩) ?_
  refine wp_region_late (fun j => j == 5) (fun U => Lies U ba (vaC a) 24 ∧ Lies U bb (vaC b) 24) (by kernel_rfl) ?_
  change wpLate _ _ _ _ _ _ 6 _ _ (World.drew w2)
  have hbd : Below w2.heap.size w2 w2.drew := (Below.refl _ _).drew
  generalize World.drew w2 = wd at hbd ⊢
  have hcur := HS.out _ hbd
  refine late_take (i := 0) (v := (.agg (vaC a))) rfl 7 rfl (by kernel_rfl) (by kernel_rfl) (by kernel_rfl) (by kernel_rfl) (fun _ _ _ h => h) (by rfl) (by intro w' hS'; exact exec_loadM 24 _ rfl _ _ rfl (vaC a) (range_lies hS'.1) Tryz.underlying24 rfl info_value) hcur _ rfl ?_
  simp only [Act.put, List.setIfInBounds_toArray, List.set_cons_zero, List.set_cons_succ]
  refine late_take (i := 1) (v := (.agg (vaC b))) rfl 8 rfl (by kernel_rfl) (by kernel_rfl) (by kernel_rfl) (by kernel_rfl) (fun _ _ _ h => h) (by rfl) (by intro w' hS'; exact exec_loadM 24 _ rfl _ _ rfl (vaC b) (range_lies hS'.2) Tryz.underlying24 rfl info_value) hcur _ rfl ?_
  simp only [Act.put, List.setIfInBounds_toArray, List.set_cons_zero, List.set_cons_succ]
  have htu : Calls Tryz.prog 53 #[.agg (vaC b)] wd fun e w' => ∃ v, e = .returned v ∧ ((∃ pt ct, v = .agg (vC (-b.coin) pt (turnL b.l).length ct) ∧ Row w' pt (turnL b.l)) ∧ Below wd.heap.size wd w') :=
   (turned_any wd b.coin b.pa b.l b.c (H2.out.2.2.2.2.2.2.1.2.2.below hbd (Nat.le_refl _)) (Nat.le_trans H2.out.2.2.2.2.1.2.1 (by decide)) (by have := H2.out.2.2.2.2.1.1; omega) (by have := H2.out.2.2.2.2.2.2.1.2.1; omega) (fun x hx => by have := (H2.out.2.2.2.2.1.2.2.1 x hx).2; omega)).mono fun e w' hh => by
    obtain ⟨⟨pt, ct, h1, h2⟩, h3⟩ := hh
    exact ⟨_, h1, ⟨pt, ct, by unfold turnL; rw [List.length_map], h2⟩, h3⟩
  refine late_one (i := 2) (by kernel_rfl) _ rfl (wpOp_callG rfl (by rfl) 9 rfl 53 #[.agg (vaC b)] (by unfold execOp; simp [go_sem]) _ htu ?_)
  rintro v3 w3 ⟨⟨pt, ct, rfl, hrt⟩, hb3⟩
  have hc3 := hbd.trans (hb3.mono hbd.size)
  have hcur := HS.out _ hc3
  refine ⟨fun _ => hcur, ?_⟩
  simp only [Act.put, List.setIfInBounds_toArray, List.set_cons_zero, List.set_cons_succ]
  refine late_one (i := 3) (by kernel_rfl) _ rfl (wpOp_valG (v := .slice (some ⟨w3.heap.size, 0, none⟩) 2 2) (w' := w3.alloc (.cells #[.int .i64 a.coin, .slice a.pa a.l.length a.c, .int .i64 (-b.coin), .slice pt (turnL b.l).length ct] 24)) rfl (by rfl) 10 rfl (by unfold execOp; simp [go_sem, vC, vaC]) ?_)
  have hb4 : Below w3.heap.size w3 (w3.alloc (.cells #[.int .i64 a.coin, .slice a.pa a.l.length a.c, .int .i64 (-b.coin), .slice pt (turnL b.l).length ct] 24)) := (Below.refl _ _).alloc (Nat.le_refl _) _
  have hL4 : Lies (w3.alloc (.cells #[.int .i64 a.coin, .slice a.pa a.l.length a.c, .int .i64 (-b.coin), .slice pt (turnL b.l).length ct] 24)) w3.heap.size #[.int .i64 a.coin, .slice a.pa a.l.length a.c, .int .i64 (-b.coin), .slice pt (turnL b.l).length ct] 24 := Lies.new _ _ _
  generalize w3.alloc (.cells #[.int .i64 a.coin, .slice a.pa a.l.length a.c, .int .i64 (-b.coin), .slice pt (turnL b.l).length ct] 24) = w4 at hb4 hL4 ⊢
  have hc4 := hc3.trans (hb4.mono hc3.size)
  have hcur := HS.out _ hc4
  refine ⟨fun _ => hcur, ?_⟩
  simp only [Act.put, List.setIfInBounds_toArray, List.set_cons_zero, List.set_cons_succ]
  have hok4 : ∀ v, v ∈ [a, (⟨-b.coin, pt, turnL b.l, ct⟩ : Va)] → VaOk w4 v := fun v hv => by
   rcases List.mem_cons.1 hv with rfl | hv
   ·
    exact H2.out.2.2.2.2.2.1.below hc4 (Nat.le_refl _)
   ·
    rw [List.mem_singleton] at hv
    rw [hv]
    have h1 := H2.out.2.2.2.2.1.1
    have h2 := H2.out.2.2.2.2.2.2.1.2.1
    refine ⟨?_, ?_, hrt.below hb4 (Nat.le_refl _)⟩
    ·
     show -9223372036854775808 ≤ -b.coin
     omega
    ·
     show -b.coin < 9223372036854775808
     omega
  have hfew : (ctsL [a, (⟨-b.coin, pt, turnL b.l, ct⟩ : Va)]).length ≤ 1000000 := by
   have h1 := H2.out.2.2.2.1.2.1
   have h2 := H2.out.2.2.2.2.1.2.1
   show (ctsOf a ++ (ctsOf (⟨-b.coin, pt, turnL b.l, ct⟩ : Va) ++ [])).length ≤ 1000000
   unfold ctsOf turnL
   simp only [List.length_append, List.length_map, List.length_nil]
   omega
  have htog := together_any w4 (some ⟨w3.heap.size, 0, none⟩) [a, ⟨-b.coin, pt, turnL b.l, ct⟩] 2 (rowV_of hL4 rfl hok4 (show 2 ≤ maxLen by decide)) hfew (fun p hp => turn_names H2.out.2.2.2.2.2.1 H2.out.2.2.2.2.2.2.1 H2.out.2.2.1.1 H2.out.2.2.1.2 p hp)
  have htog2 : Calls Tryz.prog 52 #[.slice (some ⟨w3.heap.size, 0, none⟩) 2 2] w4 fun e w' => (∃ v, e = .returned v ∧ ((∃ coin l p c', v = .agg (vC coin p l.length c') ∧ Mine w.heap.size w' p l c' ∧ SubZ a b coin l) ∧ Below w4.heap.size w4 w')) ∨ (∃ c, e = .panicked c ∧ ((∃ n, c = [{ v := .iface 139 (.int .i64 n), recovered := false }]) ∧ SubN a b ∧ Below w4.heap.size w4 w')) :=
   htog.mono fun e w' hh => by
    rcases hh with ⟨⟨coin, l, p, c', h1, h2, h3⟩ | ⟨⟨n, h1⟩, h2⟩, h4⟩
    ·
     exact .inl ⟨_, h1, ⟨coin, l, p, c', rfl, h2.mono (H2.out.2.1.trans (hc4.mono H2.out.2.1.size)).size, H2.out.2.2.1, h3⟩, h4⟩
    ·
     exact .inr ⟨_, h1, ⟨n, rfl⟩, fun coin l hz => h2 coin l hz.2, h4⟩
  clear htog hok4 hfew
  refine late_one (i := 4) (by kernel_rfl) _ rfl (wpOp_callP rfl (by rfl) 11 rfl 52 #[.slice (some ⟨w3.heap.size, 0, none⟩) 2 2] (by unfold execOp; simp [go_sem]) _ _ htog2 ?_ ?_)
  rotate_left
  ·
   rintro c5 w5 ⟨hn, hN, hb5⟩
   exact ⟨rfl, hn, hN, H2.out.2.1.trans ((hc4.trans (hb5.mono hc4.size)).mono H2.out.2.1.size)⟩
  rintro v5 w5 ⟨⟨coin, l, p, c', rfl, hrow, hz⟩, hb5⟩
  have hc5 := hc4.trans (hb5.mono hc4.size)
  have hcur := HS.out _ hc5
  refine ⟨fun _ => hcur, ?_⟩
  simp only [Act.put, List.setIfInBounds_toArray, List.set_cons_zero, List.set_cons_succ]
  have hL5 := H2.out.1.below hc5 H2.out.1.lt
  refine late_one (i := 5) (by kernel_rfl) _ rfl (wpOp_storeRow rfl rfl 24 _ _ rfl w.heap.size (vC coin p l.length c') rfl rfl 24 #[.int .i64 0, .slice none 0 0] hL5 info_value rfl (by simp [vC, Value.oneCell']) ?_)
  refine ⟨fun h => absurd h (by decide), ?_⟩
  simp only [Act.put, List.setIfInBounds_toArray, List.set_cons_zero, List.set_cons_succ]
  have hbR := below_setRow (H2.out.2.1.trans (hc5.mono H2.out.2.1.size)) w.heap.size (vC coin p l.length c') (Nat.le_refl _)
  have hLR : Lies (w5.setRow w.heap.size (vC coin p l.length c')) w.heap.size (vC coin p l.length c') 24 := hL5.setRow _
  have hrow2 : Mine w.heap.size (w5.setRow w.heap.size (vC coin p l.length c')) p l c' := hrow.smallRow hL5 (by decide) _
  generalize w5.setRow w.heap.size (vC coin p l.length c') = w6 at hbR hLR hrow2 ⊢
  refine late_done (by kernel_rfl) ?_ _
  unfold OrPanic
  dsimp only
  have HE := Lib.hid (And.intro hrow2 (And.intro hbR (And.intro hLR hz)))
  clear hrow2 hbR hLR hL5 hcur hc5 hb5 hrow hz htog2 hc4 hb4 hL4 hc3 hb3 hrt hbd htu
  go_wp2_with fail
  refine bodyPost_ret (v := .agg (vC coin p l.length c')) (results_cell_row (p := 2) (ty := 24) (by kernel_rfl) _ _ w.heap.size 24 (vC coin p l.length c') (0, 0) _ rfl HE.out.2.2.1 Tryz.underlying24 rfl info_value) rfl ⟨.inl ⟨coin, l, p, c', rfl, HE.out.1, HE.out.2.2.2⟩, HE.out.2.1⟩
 ·
  exact ⟨rfl, .inr ⟨Fault.panic n, fun coin l hz => by
   have : [a, b].all rightV = true := by simp [hz.1.1, hz.1.2]
   rw [this] at hno; cases hno⟩, hbw⟩
theorem enters30 : ∀ (cap : Array Value) (w : World), (callFunc 50 cap).run Tryz.prog w = .ok (.enter 50 cap) w := fun cap w => enters_of Tryz.func50 (by kernel_rfl) rfl cap w
theorem boxed_two (w : World) (a b : Va) : Below w.heap.size w ((w.alloc (.cells #[.int .i64 a.coin, .slice a.pa a.l.length a.c] 24)).alloc (.cells #[.int .i64 b.coin, .slice b.pa b.l.length b.c] 24)) ∧ Lies ((w.alloc (.cells #[.int .i64 a.coin, .slice a.pa a.l.length a.c] 24)).alloc (.cells #[.int .i64 b.coin, .slice b.pa b.l.length b.c] 24)) w.heap.size (vaC a) 24 ∧ Lies ((w.alloc (.cells #[.int .i64 a.coin, .slice a.pa a.l.length a.c] 24)).alloc (.cells #[.int .i64 b.coin, .slice b.pa b.l.length b.c] 24)) (w.heap.size + 1) (vaC b) 24 ∧ ((w.alloc (.cells #[.int .i64 a.coin, .slice a.pa a.l.length a.c] 24)).alloc (.cells #[.int .i64 b.coin, .slice b.pa b.l.length b.c] 24)).heap.size = w.heap.size + 2 := by
 refine ⟨((Below.refl _ _).alloc (Nat.le_refl _) _).alloc (by simp) _, (Lies.new _ _ _).alloc _, ?_, by simp⟩
 have := Lies.new (w.alloc (.cells #[.int .i64 a.coin, .slice a.pa a.l.length a.c] 24)) #[.int .i64 b.coin, .slice b.pa b.l.length b.c] 24
 show Lies _ _ #[.int .i64 b.coin, .slice b.pa b.l.length b.c] _
 simpa using this
set_option maxHeartbeats 4000000 in
theorem sub_any (w : World) (a b : Va) (ha : VaOk w a) (hb : VaOk w b) :
  Calls Tryz.prog 10 #[.agg (vaC a), .agg (vaC b)] w fun e w' => Asked w.heap.size (SubZ a b) (SubN a b) e w' ∧ Below w.heap.size w w' := by
 have hmf : ∀ (fn : Fn) (first cap : Array Value) (w : World), (Instr.makeFunc fn first cap).run Tryz.prog w = .ok (.func fn first cap) w := fun _ _ _ _ => rfl
 obtain ⟨hb0, hLa, hLb, hsz⟩ := boxed_two w a b
 have hb1 : Below w.heap.size w (((w.alloc (.cells #[.int .i64 a.coin, .slice a.pa a.l.length a.c] 24)).alloc (.cells #[.int .i64 b.coin, .slice b.pa b.l.length b.c] 24)).alloc (.cells #[.int .i64 0, .slice none 0 0] 24)) := hb0.alloc hb0.size _
 have hL1 : Lies (((w.alloc (.cells #[.int .i64 a.coin, .slice a.pa a.l.length a.c] 24)).alloc (.cells #[.int .i64 b.coin, .slice b.pa b.l.length b.c] 24)).alloc (.cells #[.int .i64 0, .slice none 0 0] 24)) (w.heap.size + 2) #[.int .i64 0, .slice none 0 0] 24 := by
  have := Lies.new ((w.alloc (.cells #[.int .i64 a.coin, .slice a.pa a.l.length a.c] 24)).alloc (.cells #[.int .i64 b.coin, .slice b.pa b.l.length b.c] 24)) #[.int .i64 0, .slice none 0 0] 24
  rwa [hsz] at this
 have hask := ask_any (((w.alloc (.cells #[.int .i64 a.coin, .slice a.pa a.l.length a.c] 24)).alloc (.cells #[.int .i64 b.coin, .slice b.pa b.l.length b.c] 24)).alloc (.cells #[.int .i64 0, .slice none 0 0] 24)) 50 #[.pointer (some ⟨w.heap.size, 0, none⟩), .pointer (some ⟨w.heap.size + 1, 0, none⟩)] (SubZ a b) (SubN a b) (enters30 _) (fun w1 hw1 =>
  sub1_any w1 w.heap.size (w.heap.size + 1) a b ((hLa.alloc _).below hw1 (hLa.alloc _).lt) ((hLb.alloc _).below hw1 (hLb.alloc _).lt) (ha.below (hb1.trans (hw1.mono hb1.size)) (Nat.le_refl _)) (hb.below (hb1.trans (hw1.mono hb1.size)) (Nat.le_refl _)))
 have H := Lib.hid (And.intro hask (And.intro hb1 hL1))
 clear hask hb1 hL1 hLa hLb hb0 hsz ha hb
 unfold vaC vC
 go_enter Tryz.func10, Tryz.ntmps10
 go_wp2_with fail
 refine H.out.1.mono ?_
 rintro e w2 ⟨ht, hb2⟩
 have key : ∃ ok coin l pa' c', e = .returned (.tuple #[.agg (vC coin pa' l.length c'), .bool ok]) ∧ Mine w.heap.size w2 pa' l c' ∧ (∀ e' w', Told w.heap.size ok coin l e' w' → Asked w.heap.size (SubZ a b) (SubN a b) e' w') := by
  rcases ht with ⟨coin, l, hz, pa', c', h1, h2⟩ | ⟨hN, pa', c', h1, h2⟩
  ·
   exact ⟨true, coin, l, pa', c', h1, h2.mono H.out.2.1.size, fun e' w' hh => .inl ⟨coin, l, hz, hh⟩⟩
  ·
   exact ⟨false, 0, [], pa', c', h1, h2.mono H.out.2.1.size, fun e' w' hh => .inr ⟨hN, hh⟩⟩
 obtain ⟨ok, coin, l, p, c', rfl, hrow, hto⟩ := key
 have hL3 := H.out.2.2.below hb2 H.out.2.2.lt
 have hb33 := H.out.2.1.trans (hb2.mono H.out.2.1.size)
 have q0 := hL3.cell 0 (v := .int .i64 0) rfl
 have q1 := hL3.cell 1 (v := .slice none 0 0) rfl
 have f0 := hL3.free 0
 have f1 := hL3.free 1
 have hL3a := hL3.set 0 (.int .i64 coin)
 have hrow2 := (hrow.small hL3 (by decide) 0 (.int .i64 coin)).small hL3a (by simp) 1 (.slice p l.length c')
 have hbR : Below w.heap.size w ((w2.setCell ⟨w.heap.size + 2, 0, none⟩ (.int .i64 coin)).setCell ⟨w.heap.size + 2, 1, none⟩ (.slice p l.length c')) := below_setCell (below_setCell hb33 _ _ (by simp)) _ _ (by simp)
 have hLR : Lies ((w2.setCell ⟨w.heap.size + 2, 0, none⟩ (.int .i64 coin)).setCell ⟨w.heap.size + 2, 1, none⟩ (.slice p l.length c')) (w.heap.size + 2) #[.int .i64 coin, .slice p l.length c'] 24 := hL3a.set 1 _
 have HE := Lib.hid (And.intro hrow2 (And.intro hbR (And.intro hLR hto)))
 clear hrow2 hbR hLR hL3a hL3 hb33 hrow hto hb2 ht
 unfold vC
 go_wp2_with fail
 refine bodyPost_ret (v := .tuple #[.agg #[.int .i64 coin, .slice p l.length c'], .bool ok]) (results_row_tmp (p := 4) (u := 5) (ty := 24) (by kernel_rfl) _ _ (w.heap.size + 2) 24 #[.int .i64 coin, .slice p l.length c'] (0, 0) _ rfl HE.out.2.2.1 Tryz.underlying24 rfl info_value) rfl ⟨HE.out.2.2.2 _ _ ⟨p, c', rfl, HE.out.1⟩, HE.out.2.1⟩
def CovRes (a b : Va) (e : Ending) : Prop := (∃ coin l, SubZ a b coin l ∧ e = .returned (.bool true)) ∨ (SubN a b ∧ e = .returned (.bool false))
set_option maxHeartbeats 4000000 in
theorem covers_any (w : World) (a b : Va) (ha : VaOk w a) (hb : VaOk w b) :
  Calls Tryz.prog 13 #[.agg (vaC a), .agg (vaC b)] w fun e w' => CovRes a b e ∧ Below w.heap.size w w' := by
 obtain ⟨hb0, hLa, hLb, hsz⟩ := boxed_two w a b
 have hsub := sub_any ((w.alloc (.cells #[.int .i64 a.coin, .slice a.pa a.l.length a.c] 24)).alloc (.cells #[.int .i64 b.coin, .slice b.pa b.l.length b.c] 24)) a b (ha.below hb0 (Nat.le_refl _)) (hb.below hb0 (Nat.le_refl _))
 unfold vaC vC at hsub
 have q0 := hLa.cell 0 (v := .int .i64 a.coin) rfl
 have q1 := hLa.cell 1 (v := .slice a.pa a.l.length a.c) rfl
 have q2 := hLb.cell 0 (v := .int .i64 b.coin) rfl
 have q3 := hLb.cell 1 (v := .slice b.pa b.l.length b.c) rfl
 have H := Lib.hid (And.intro hsub (And.intro hb0 (And.intro hLa hLb)))
 clear hsub hb0 hLa hLb hsz ha hb
 unfold vaC vC
 go_enter Tryz.func13, Tryz.ntmps13
 go_wp2_with fail
 refine H.out.1.mono ?_
 rintro e w2 ⟨ht, hb2⟩
 have key : ∃ (ok : Bool) (coin : Int) (l : List As) (pa' : Option Addr) (c' : Nat), e = .returned (.tuple #[.agg (vC coin pa' l.length c'), .bool ok]) ∧ CovRes a b (.returned (.bool ok)) := by
  rcases ht with ⟨coin, l, hz, pa', c', h1, h2⟩ | ⟨hN, pa', c', h1, h2⟩
  ·
   exact ⟨true, coin, l, pa', c', h1, .inl ⟨coin, l, hz, rfl⟩⟩
  ·
   exact ⟨false, 0, [], pa', c', h1, .inr ⟨hN, rfl⟩⟩
 obtain ⟨ok, coin, l, p, c', rfl, hto⟩ := key
 have HE := Lib.hid (And.intro hto (H.out.2.1.trans (hb2.mono H.out.2.1.size)))
 clear hto hb2 ht q0 q1 q2 q3
 unfold vC
 go_wp2_with fail
 go_ret
 exact ⟨HE.out.1, HE.out.2.alloc HE.out.2.size _⟩
end Go.Proofs.YtjngghihciimjaaGreat
namespace Go.Proofs.YtjngghihciimjaaGreat
set_option maxRecDepth 100000
open Go.RowKit Go.Sort Go.Maps
theorem info24 : (Tryz.prog.info? 24).map (fun i => (i.zero.map (·.cells.size), i.size, i.bytes)) = some (some 2, 2, 32) := by kernel_rfl
def OwnVs (w : World) (B : Nat) (v : Value) (vs : List Va) : Prop := w.ownsRow B 24 2 v vs.length (cellsF vaC vs)
set_option maxHeartbeats 2000000 in
theorem grow_any (w : World) (n : Nat) (hn : n ≤ 1000000) :
  Calls Tryz.prog 125 #[.slice none 0 0, .int .i64 n] w fun e w' => (∃ v, e = .returned v ∧ OwnVs w' w.heap.size v []) ∧ Below w.heap.size w w' := by
 have h1 : ¬ ((n : Int) < 0) := by omega
 have hw : IntKind.i64.wrap (n : Int) = n := by rw [IntKind.wrap_i64]; omega
 by_cases h0 : n = 0
 ·
  subst h0
  go_enter Tryz.func125, Tryz.ntmps125
  go_wp2_with fail
  go_ret
  exact ⟨⟨_, rfl, World.ownsRow_nil _ _ _ _⟩, Below.refl _ _⟩
 ·
  have h4 : (0 : Int) < (n : Int) := by omega
  obtain ⟨i0, z0, hi0, hz0, hz1, hz2, hz3⟩ := info_parts info24
  have hrz : ∀ ty, (Builtin.append_ #[28, 3] ty #[.slice none 0 0, .int .i64 n]).run Tryz.prog w =
    .ok (.slice (some ⟨w.heap.size, 0, none⟩) n (grownCap w n 0 24)) (w.drew.alloc (.cells (#[] ++ Builtin.zeroCells z0.cells n ++ Builtin.zeroCells z0.cells (grownCap w n 0 24 - n)) 24)) := fun ty => by
   have h := Lib.run_append_grow_zeros w 28 3 ty 24 i0 z0 .i64 .i64 Tryz.underlying28 Tryz.underlying3 hi0 hz0 none 0 0 [] (by rw [hz1]; exact run_firstCells_none w.drew 2 0 0 0) n (by omega) (by rw [hz1]; decide) (by omega) (by omega) (by rw [hz2]; omega) (growslice_fits (by omega) (by rw [hz2]; omega))
   simpa using h
  have hge : n ≤ grownCap w n 0 24 := grownCap_ge w _ _ _
  have hle : grownCap w n 0 24 ≤ maxLen := grownCap_le_maxLen w n 0 24 (Nat.le_trans hn (by decide))
  obtain ⟨G, hG⟩ : ∃ G, G = grownCap w n 0 24 := ⟨_, rfl⟩
  rw [← hG] at hrz hge hle
  have hsz : (#[] ++ Builtin.zeroCells z0.cells n ++ Builtin.zeroCells z0.cells (G - n)).size = G * 2 := by
   simp only [Array.size_append, size_zeroCells, hz3]
   have : ((#[] : Array Value)).size = 0 := rfl
   omega
  generalize (#[] ++ Builtin.zeroCells z0.cells n ++ Builtin.zeroCells z0.cells (G - n) : Array Value) = cur at hrz hsz
  have hG63 : (G : Int) ≤ 9223372036854775807 := by unfold maxLen at hle; omega
  have H := Lib.hid (And.intro hle hsz)
  have HR := Lib.hid hrz
  clear hG hle hsz hi0 hz0 hz1 hz2 hz3 hrz
  go_enter Tryz.func125, Tryz.ntmps125
  go_wp2_with (at_builtin; refine Lib.wpList_append_run _ rfl _ _ _ _ rfl _ _ rfl rfl _ _ (HR.out _) ?_)
  go_ret
  exact ⟨⟨_, rfl, World.ownsRow_made w.drew cur G (Nat.le_refl _) H.out.1 H.out.2⟩, ((Below.refl _ _).drew).alloc (Nat.le_refl _) _⟩
def flatV (rs : List Vr) : List Va := rs.flatMap (·.vs)
theorem flatV_take {rs : List Vr} {k : Nat} {r : Vr} (h : rs[k]? = some r) : flatV (rs.take (k + 1)) = flatV (rs.take k) ++ r.vs := by
 unfold flatV
 rw [List.take_add_one, h, List.flatMap_append]
 simp
theorem flatV_le {rs : List Vr} {k : Nat} {r : Vr} (h : rs[k]? = some r) : (flatV (rs.take k)).length + r.vs.length ≤ (flatV rs).length := by
 have h1 : flatV rs = flatV (rs.take (k + 1)) ++ flatV (rs.drop (k + 1)) := by
  unfold flatV
  rw [← List.flatMap_append, List.take_append_drop]
 rw [h1, flatV_take h]
 simp
theorem RowR.below {B : Nat} {w w' : World} {pa : Option Addr} {rs : List Vr} (h : RowR w pa rs) (hb : Below B w w') (hB : w.heap.size ≤ B) : RowR w' pa rs :=
 ⟨h.1, fun hl => by
  obtain ⟨g, off, e, hg, hh⟩ := h.2 hl
  exact ⟨g, off, e, Nat.lt_of_lt_of_le hg hb.size, fun i r hr => ⟨(hb.cell (p := ⟨g, off + i, none⟩) (Nat.lt_of_lt_of_le hg hB)).trans (hh i r hr).1, (hh i r hr).2.below hb hB⟩⟩⟩
set_option maxHeartbeats 4000000 in
theorem concat_any (w : World) (pa : Option Addr) (rs : List Vr) (c : Nat) (h : RowR w pa rs) (hn : (flatV rs).length ≤ 1000000) (hnil : ∀ r, r ∈ rs → r.pa = none → r.c = 0) :
    Calls Tryz.prog 71 #[.slice pa rs.length c] w fun e w' => (∃ v, e = .returned v ∧ OwnVs w' w.heap.size v (flatV rs)) ∧ Below w.heap.size w w' := by
  have hli : (rs.length : Int) ≤ 9223372036854775807 := by have := h.1; unfold maxLen at this; omega
  have H := Lib.hid (And.intro h (And.intro hn hnil))
  clear h hn hnil
  go_enter Tryz.func71, Tryz.ntmps71
  go_upto_region 3 with fail
  go_loopw [3, 11] (fun s i W => ∃ k : Nat, k ≤ rs.length ∧ s = .int .i64 (flatV (rs.take k)).length ∧ i = .int .i64 k ∧ Below w.heap.size w W) (fun _ i _ => rs.length - (intOf i).toNat)
  case atStart => exact ⟨0, Nat.zero_le _, rfl, rfl, Below.refl _ _⟩
  case round =>
    obtain ⟨k, hk, rfl, rfl, hb⟩ := hrel
    by_cases hlt : k < rs.length
    · have m1 : (k : Int) < (rs.length : Int) := by omega
      have m0 : (0 : Int) ≤ (k : Int) := by omega
      obtain ⟨g, off, rfl, hg, hh⟩ := H.out.1.2 (by omega)
      obtain ⟨r, hr⟩ : ∃ r, r = rs[k] := ⟨_, rfl⟩
      have hkr : rs[k]? = some r := by rw [hr, List.getElem?_eq_getElem hlt]
      have c0 := (hb.cell (p := ⟨g, off + k, none⟩) hg).trans (hh k r hkr).1
      have hs : ((flatV (rs.take k)).length : Int) + (r.vs.length : Int) = ((flatV (rs.take (k + 1))).length : Int) := by rw [flatV_take hkr, List.length_append]; omega
      have hle := flatV_le hkr
      have hn := H.out.2.1
      obtain ⟨x, hx⟩ : ∃ x, x = (flatV (rs.take k)).length := ⟨_, rfl⟩
      obtain ⟨y, hy⟩ : ∃ y, y = (flatV (rs.take (k + 1))).length := ⟨_, rfl⟩
      obtain ⟨z, hz⟩ : ∃ z, z = r.vs.length := ⟨_, rfl⟩
      rw [← hx] at hle
      rw [← hx, ← hy, ← hz] at hs
      rw [← hz] at hle c0
      rw [← hx]
      have hw : IntKind.i64.wrap ((x : Int) + (z : Int)) = (y : Int) := by rw [hs, IntKind.wrap_i64]; omega
      have hnn : ¬ ((y : Int) < 0) := by omega
      have HR := Lib.hid (And.intro hb (And.intro hlt hy))
      clear hr hkr hg hh hb hlt hk hs hle hn hx hy hz
      go_wp2_with fail
      have e1 : (k : Int) + 1 = ((k + 1 : Nat) : Int) := by omega
      rw [e1]
      refine ⟨⟨k + 1, HR.out.2.1, by rw [HR.out.2.2], rfl, HR.out.1⟩, ?_⟩
      have h := HR.out.2.1
      show rs.length - (k + 1) < rs.length - k
      omega
    · have m1 : ¬ (k : Int) < (rs.length : Int) := by omega
      have hkk : k = rs.length := by omega
      subst hkk
      rw [List.take_length]
      obtain ⟨n, hnn⟩ : ∃ n, n = (flatV rs).length := ⟨_, rfl⟩
      have hgrow := grow_any wr n (by rw [hnn]; exact H.out.2.1)
      rw [← hnn]
      clear m1
      have HG := Lib.hid (And.intro hgrow hb)
      clear hgrow hb hlt hk hnn
      go_wp2_with fail
      refine HG.out.1.mono ?_
      rintro e w2 ⟨⟨v2, rfl, hown2⟩, hb2⟩
      have h2 : OwnVs w2 w.heap.size v2 [] := by
        unfold OwnVs
        obtain ⟨q1, q2⟩ := hown2
        refine ⟨q1, ?_⟩
        rcases q2 with q2 | ⟨g, cap, cur, q3, q4, q5⟩
        · exact .inl q2
        · exact .inr ⟨g, cap, cur, q3, Nat.le_trans HG.out.2.size q4, q5⟩
      have HO := Lib.hid (And.intro h2 (HG.out.2.trans (hb2.mono HG.out.2.size)))
      clear h2 hown2 hb2
      go_upto_region 11 with fail
      obtain ⟨i0, z0, hi0, hz0, hz1, hz2, hz3⟩ := info_parts info24
      have HI := Lib.hid (And.intro hi0 (And.intro hz0 (And.intro hz1 (And.intro hz2 hz3))))
      clear hi0 hz0 hz1 hz2 hz3
      go_loopw [6, 27] (fun s i W => ∃ k : Nat, k ≤ rs.length ∧ i = .int .i64 k ∧ OwnVs W w.heap.size s (flatV (rs.take k)) ∧ Below w.heap.size w W) (fun _ i _ => rs.length - (intOf i).toNat)
      case atStart => exact ⟨0, Nat.zero_le _, rfl, HO.out.1, HO.out.2⟩
      case round =>
        obtain ⟨k, hk, rfl, how, hb⟩ := hrel
        by_cases hlt : k < rs.length
        · have n1 : (k : Int) < (rs.length : Int) := by omega
          have n0 : (0 : Int) ≤ (k : Int) := by omega
          obtain ⟨g, off, rfl, hg, hh⟩ := H.out.1.2 (by omega)
          obtain ⟨r, hr⟩ : ∃ r, r = rs[k] := ⟨_, rfl⟩
          have hkr : rs[k]? = some r := by rw [hr, List.getElem?_eq_getElem hlt]
          have c0 := (hb.cell (p := ⟨g, off + k, none⟩) hg).trans (hh k r hkr).1
          have hrow := (hh k r hkr).2.below hb (Nat.le_refl _)
          have hle := flatV_le hkr
          have hn := H.out.2.1
          cases hpa : r.pa with
          | none =>
            have hv0 : r.vs = [] := by
              rcases Nat.eq_zero_or_pos r.vs.length with q | q
              · exact List.eq_nil_of_length_eq_zero q
              · obtain ⟨g', off', e', _⟩ := hrow.2 q
                rw [hpa] at e'; cases e'
            have hc0 := H.out.2.2 r (List.mem_of_getElem? hkr) hpa
            rw [hpa, hv0, hc0] at c0
            have how2 : OwnVs wr w.heap.size u6 (flatV (rs.take (k + 1))) := by rw [flatV_take hkr, hv0, List.append_nil]; exact how
            have HE := Lib.hid (And.intro how2 (And.intro hb (And.intro hlt how)))
            clear hr hkr hg hh hb hlt hk hle hn hrow hpa hv0 hc0 how how2
            go_wp2_with (at_builtin; go_must (refine wpList_append_own_none rfl _ _ 28 rfl w.heap.size 24 i0 2 Tryz.underlying28 HI.out.1 _ _ _ rfl HE.out.2.2.2 rfl ?_))
            have e1 : (k : Int) + 1 = ((k + 1 : Nat) : Int) := by omega
            rw [e1]
            refine ⟨⟨k + 1, HE.out.2.2.1, rfl, HE.out.1, HE.out.2.1⟩, ?_⟩
            have h := HE.out.2.2.1
            show rs.length - (k + 1) < rs.length - k
            omega
          | some ad =>
            rw [hpa] at c0
            have hsz : ∀ v, v ∈ r.vs → (vaC v).size = 2 := fun v _ => vaC_size v
            have hsrc : ∀ j u, (cellsF vaC r.vs)[j]? = some u → wr.cell? (ad.add j) = some u := fun j u hu => by
              have h0 : 0 < r.vs.length := by
                have := (List.getElem?_eq_some_iff.1 hu).1
                rw [cellsF_len vaC 2 r.vs hsz] at this
                omega
              obtain ⟨g', off', e', _, h3⟩ := hrow.2 h0
              rw [hpa] at e'
              cases e'
              exact cellsF_src vaC 2 (by decide) hsz (fun i a hi => (h3 i a hi).1) j u hu
            have HE := Lib.hid (And.intro hsrc (And.intro hb (And.intro hlt (And.intro how (And.intro hle (And.intro hkr hn))))))
            have hlen := cellsF_len vaC 2 r.vs hsz
            have hone := cellsF_one vaC r.vs fun v _ => vaC_one v
            have HF := Lib.hid (And.intro hlen hone)
            clear hr hkr hg hh hb hlt hk hle hn hrow hpa how hsrc hsz hlen hone
            go_wp2_with (at_builtin; go_must (refine wpList_append_own_at _ rfl _ _ 28 rfl w.heap.size 24 i0 z0 2 32 Tryz.underlying28 HI.out.1 HI.out.2.1 HI.out.2.2.1 HI.out.2.2.2.1 HI.out.2.2.2.2 (by decide) _ _ _ rfl HE.out.2.2.2.1 ad r.vs.length r.c (cellsF vaC r.vs) rfl HF.out.1 HE.out.1 HF.out.2 (by have h1 := HE.out.2.2.2.2.1; have h2 := HE.out.2.2.2.2.2.2; unfold maxLen; omega) (by have h1 := HE.out.2.2.2.2.1; have h2 := HE.out.2.2.2.2.2.2; omega) HE.out.2.1.size ?_; intro v' w1 hown hgrow _ hat))
            have e1 : (k : Int) + 1 = ((k + 1 : Nat) : Int) := by omega
            rw [e1]
            refine ⟨⟨k + 1, HE.out.2.2.1, rfl, ?_, HE.out.2.1.grown hgrow HE.out.2.1.size (fun j hj => (HE.out.2.2.2.1.lt j hj).1)⟩, ?_⟩
            · unfold OwnVs
              rw [flatV_take HE.out.2.2.2.2.2.1, cellsF_app, List.length_append]
              exact hown
            · have h := HE.out.2.2.1
              show rs.length - (k + 1) < rs.length - k
              omega
        · have n1 : ¬ (k : Int) < (rs.length : Int) := by omega
          have hkk : k = rs.length := by omega
          subst hkk
          rw [List.take_length] at how
          have HE := Lib.hid (And.intro how hb)
          clear how hb hlt hk
          go_wp2_with fail
          go_ret
          exact ⟨⟨_, rfl, HE.out.1⟩, HE.out.2⟩
end Go.Proofs.YtjngghihciimjaaGreat
namespace Go.Proofs.YtjngghihciimjaaGreat
set_option maxRecDepth 100000
open Go.RowKit Go.Sort Go.Maps
attribute [-go_sem] Instr.build
attribute [-go_sem] Instr.buildSlice
def markT (b : UInt8) : List UInt8 := [35, 1, 0, 0, 47, b, 0, 0]
theorem info_u8 : (Tryz.prog.info? 5).map (fun i => (i.zero.map (·.cells.size), i.size, i.bytes)) = some (some 1, 1, 1) := by kernel_rfl
theorem slice_mark (w : World) (y : Int) (b : UInt8) (hb : y = b.toNat) : (Instr.buildSlice 182 8 #[(0, .int .u8 35), (1, .int .u8 1), (2, .int .u8 0), (3, .int .u8 0), (4, .int .u8 47), (5, .int .u8 y), (6, .int .u8 0), (7, .int .u8 0)]).run Tryz.prog w = .ok (.slice (some ⟨w.heap.size, 0, none⟩) 8 8) (w.alloc (.cells (B8 (markT b)) 5)) := by
 obtain ⟨i, z, h1, h2, h3, h4, h5⟩ := info_parts info_u8
 refine run_buildSlice w 182 5 8 _ _ i z Tryz.underlying182 h1 h2 (by rw [h3]; omega) (by rw [h3]; omega) ?_
 rw [h3]
 have h := Great.fill_whole (s := 1) (by decide) [.int .u8 35, .int .u8 1, .int .u8 0, .int .u8 0, .int .u8 47, .int .u8 y, .int .u8 0, .int .u8 0] ((Array.range (8 * 1)).map (z.cells[· % z.cells.size]!)) (by simp [Value.cells]) (by simp)
 rw [hb] at h ⊢
 simpa [Value.cells, B8, markT] using h
set_option maxHeartbeats 1000000 in
theorem markText_any (w : World) (b : UInt8) : Calls Tryz.prog 121 #[.int .i64 1, .int .i64 b.toNat] w fun e w' => e = .returned (.string (txt (markT b))) ∧ Below w.heap.size w w' := by
 obtain ⟨y, hy⟩ : ∃ y : Int, y = b.toNat := ⟨_, rfl⟩
 rw [← hy]
 have y0 : 0 ≤ y := by omega
 have y1 : y < 256 := by have := b.toNat_lt; omega
 have hsl := fun V => slice_mark V y b hy
 obtain ⟨tv, htv⟩ : ∃ t, t = txt (markT b) := ⟨_, rfl⟩
 obtain ⟨cv, hcv⟩ : ∃ t, t = B8 (markT b) := ⟨_, rfl⟩
 have hcn : (convert 182 9 (.slice (some ⟨w.heap.size, 0, none⟩) 8 8)).run Tryz.prog (w.alloc (.cells cv 5)) = .ok (.string tv) (w.alloc (.cells cv 5)) := by
  rw [hcv, htv]
  exact conv_src (l := markT b) (c := 8) (b8_src (Lies.new w _ 5))
 rw [← hcv] at hsl
 rw [← htv]
 clear hy hcv htv
 go_enter Tryz.func121, Tryz.ntmps121
 have e1 : IntKind.u8.wrap y = y := by rw [IntKind.wrap_u8]; omega
 have e2 : y / 256 = 0 := by omega
 have e3 : y / 65536 = 0 := by omega
 go_wp2_with fail
 go_ret
 exact ⟨rfl, (Below.refl _ _).alloc (Nat.le_refl _) _⟩
def markA (b : UInt8) : As := ⟨(List.replicate 32 0, markT b), 0⟩
theorem markA_ok (b : UInt8) : AsOk (markA b) := ⟨rfl, by show 8 ≤ maxLen; unfold maxLen; omega, show (-9223372036854775808 : Int) ≤ 0 by omega, show (0 : Int) < 9223372036854775808 by omega⟩
theorem built_mark (s : ByteArray) : Tryz.prog.built 38 [(1, .string s)] = some (B8 (List.replicate 32 0) ++ #[.string s, .int .i64 0]) := by kernel_rfl
set_option maxHeartbeats 1000000 in
theorem markAsset_any (w : World) (b : UInt8) : Calls Tryz.prog 65 #[.int .i64 1, .int .i64 b.toNat] w fun e w' => e = .returned (.agg (asC (markA b))) ∧ Below w.heap.size w w' := by
 have hm := fun V => markText_any V b
 obtain ⟨y, hy⟩ : ∃ y : Int, y = b.toNat := ⟨_, rfl⟩
 obtain ⟨tv, htv⟩ : ∃ t, t = txt (markT b) := ⟨_, rfl⟩
 obtain ⟨av, hav⟩ : ∃ t, t = asC (markA b) := ⟨_, rfl⟩
 have hbl : ∀ W, (Instr.build 38 #[(1, .string tv)]).run Tryz.prog W = .ok (.agg av) W := fun W => by
  rw [htv, hav]
  exact run_build W 38 _ _ (built_mark _)
 have hsz : av.size = 34 := by rw [hav]; exact asC_size _ rfl
 have h1 : av.all (·.oneCell') = true := by rw [hav]; exact asC_one _
 rw [← hy, ← htv] at hm
 rw [← hy, ← hav]
 have HM := Lib.hid (And.intro hm (And.intro hsz h1))
 clear hm hy htv hav hsz h1
 go_enter Tryz.func65, Tryz.ntmps65
 go_upto_region 1 with fail
 have hQ : Lies (w.alloc (.cells z34 38)) w.heap.size z34 38 := Lies.new w z34 38
 have hb : Below w.heap.size w (w.alloc (.cells z34 38)) := (Below.refl _ _).alloc (Nat.le_refl _) _
 change Code.wp _ _ _ _ (w.alloc (.cells z34 38))
 generalize w.alloc (.cells z34 38) = W0 at hQ hb ⊢
 have H := Lib.hid (And.intro hQ hb)
 clear hQ hb
 go_wp2_with fail
 refine (HM.out.1 _).mono ?_
 rintro e w2 ⟨rfl, hb2⟩
 have H2 := Lib.hid (And.intro (H.out.1.below hb2 H.out.1.lt) (H.out.2.trans (hb2.mono H.out.2.size)))
 clear hb2
 go_wp2_with (refine wpList_store_row rfl 38 _ _ rfl w.heap.size av rfl rfl 38 z34 H2.out.1 (by rw [HM.out.2.1]; exact info_asset) (by rw [HM.out.2.1]; kernel_rfl) HM.out.2.2 ?_)
 exact bodyPost_ret (v := .agg av) (results_cell_row (p := 4) (ty := 38) (by kernel_rfl) _ _ w.heap.size 38 av (0, 0) _ rfl (H2.out.1.setRow _) Tryz.underlying38 rfl (by rw [HM.out.2.1]; exact info_asset)) rfl ⟨rfl, below_setRow H2.out.2 _ _ (Nat.le_refl _)⟩
end Go.Proofs.YtjngghihciimjaaGreat
