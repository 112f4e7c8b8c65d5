/-
  float.Order as plain mathematics of the bits: one order; what is told is that of places.
-/
import Derived.Test.YtilbbemdinpjcaaGreatJTTg
import Derived.Carry
import Derived.MapKept
import Derived.Laws.EntriesVeiled
import Derived.Test.YtilbbemdinpjcaaGreatJTFOrder
namespace Go.Proofs.YtilbbemdinpjcaaGreat.T
open Go.RowKit

theorem u29 : Tryz.prog.underlying 67 = some (.int .i64) := by kernel_rfl
theorem u94 : Tryz.prog.underlying 288 = some (.map 67 197) := by kernel_rfl
theorem push_set {α : Type} (xs : Array α) (a b : α) : (xs.push a).setIfInBounds xs.size b = xs.push b := by
  apply Array.ext
  · simp
  · intro i h1 h2
    simp only [Array.size_setIfInBounds, Array.size_push] at h1
    by_cases e : i = xs.size
    · subst e; simp
    · rw [Array.getElem_setIfInBounds (by simpa using h1), if_neg (Ne.symm e), Array.getElem_push_lt (by omega), Array.getElem_push_lt (by omega)]
theorem run_insert (w : World) (es : Array MapEntry) (clock : Nat) (key : Int) (v : Value) (h : Instr.findNow (.int .i64) (.int .i64 key) es.toList 0 = some none) :
    (Instr.mapUpdate 288 (.map (some w.heap.size)) (.int .i64 key) v).run Tryz.prog (w.alloc (.map es clock)) = .ok () (w.alloc (.map (es.push ⟨.int .i64 key, v, clock⟩) (clock + 1))) := by
  have hb : (w.alloc (.map es clock)).heap[w.heap.size]? = some (.map es clock) := (MapKept.heap_alloc w _).1
  have hk := MapKept.run_checkKey (P := Tryz.prog) (w := w.alloc (.map es clock)) (k := .int .i64 key) u29 (by simp [MapKept.IsKey]) false 9999
  simp [Instr.mapUpdate, run_underlying u94, MapKept.run_getObj_map hb, hk, MapKept.run_findKey u29 h, MapKept.run_setObj_map _ hb, Result.andThen]
  simp [World.alloc, -World.alloc_eq, push_set]
theorem run_found (w : World) (b : Nat) (es : Array MapEntry) (clock : Nat) (key : Int) (i : Nat) (v : Value) (hb : w.heap[b]? = some (.map es clock)) (h : Instr.findNow (.int .i64) (.int .i64 key) es.toList 0 = some (some (i, v))) :
    (Instr.lookup 288 (.map (some b)) (.int .i64 key) false).run Tryz.prog w = .ok v w := by
  have hk := MapKept.run_checkKey (P := Tryz.prog) (w := w) (k := .int .i64 key) u29 (by simp [MapKept.IsKey]) es.isEmpty 9999
  simp [Instr.lookup, run_underlying u94, MapKept.run_getObj_map hb, hk, MapKept.run_findKey u29 h, Result.andThen]
theorem run_missed (w : World) (b : Nat) (es : Array MapEntry) (clock : Nat) (key : Int) (hb : w.heap[b]? = some (.map es clock)) (h : Instr.findNow (.int .i64) (.int .i64 key) es.toList 0 = some none) :
    (Instr.lookup 288 (.map (some b)) (.int .i64 key) false).run Tryz.prog w = .ok .nilFunc w := by
  have hk := MapKept.run_checkKey (P := Tryz.prog) (w := w) (k := .int .i64 key) u29 (by simp [MapKept.IsKey]) es.isEmpty 9999
  simp [Instr.lookup, run_underlying u94, MapKept.run_getObj_map hb, hk, MapKept.run_findKey u29 h, Result.andThen]
def ent (k : Int) (f : Nat) (a b : Nat) (born : Nat) : MapEntry := ⟨.int .i64 k, .func (Fn.func f) #[] #[.pointer (some ⟨a, 0, none⟩), .pointer (some ⟨b, 0, none⟩)], born⟩
/-- The map of kinds: p: the lay's box, q: just's. -/
def kindsOf (p q : Nat) : Array MapEntry := #[ent 1 295 q p 0, ent 2 296 p q 1, ent 3 297 p q 2, ent 4 299 q p 3, ent 5 300 p q 4, ent 6 301 p q 5]
set_option maxRecDepth 100000 in
set_option maxHeartbeats 1000000 in
theorem kinds_any (w : World) (v : Array Value) (a b c : Value) (hv : v = #[a, b, c]) :
    Calls Tryz.prog 279 #[.agg v] w fun e w' => e = .returned (.map (some (w.heap.size + 2))) ∧ Lies w' w.heap.size v 279 ∧ Lies w' (w.heap.size + 1) #[.func (Fn.func 294) #[] #[.pointer (some ⟨w.heap.size, 0, none⟩)]] 296 ∧ w'.heap[w.heap.size + 2]? = some (.map (kindsOf w.heap.size (w.heap.size + 1)) 6) ∧ Below w.heap.size w w' := by
  subst hv
  have hmf : ∀ (fn : Fn) (first cap : Array Value) (w : World), (Instr.makeFunc fn first cap).run Tryz.prog w = .ok (.func fn first cap) w := fun _ _ _ _ => rfl
  have hmm := @run_makeMap Tryz.prog
  have k1 := fun (W : World) (v1 : Value) => run_insert W #[] 0 1 v1 rfl
  have k2 := fun (W : World) (v1 v2 : Value) => run_insert W #[⟨.int .i64 1, v1, 0⟩] 1 2 v2 rfl
  have k3 := fun (W : World) (v1 v2 v3 : Value) => run_insert W #[⟨.int .i64 1, v1, 0⟩, ⟨.int .i64 2, v2, 1⟩] 2 3 v3 rfl
  have k4 := fun (W : World) (v1 v2 v3 v4 : Value) => run_insert W #[⟨.int .i64 1, v1, 0⟩, ⟨.int .i64 2, v2, 1⟩, ⟨.int .i64 3, v3, 2⟩] 3 4 v4 rfl
  have k5 := fun (W : World) (v1 v2 v3 v4 v5 : Value) => run_insert W #[⟨.int .i64 1, v1, 0⟩, ⟨.int .i64 2, v2, 1⟩, ⟨.int .i64 3, v3, 2⟩, ⟨.int .i64 4, v4, 3⟩] 4 5 v5 rfl
  have k6 := fun (W : World) (v1 v2 v3 v4 v5 v6 : Value) => run_insert W #[⟨.int .i64 1, v1, 0⟩, ⟨.int .i64 2, v2, 1⟩, ⟨.int .i64 3, v3, 2⟩, ⟨.int .i64 4, v4, 3⟩, ⟨.int .i64 5, v5, 4⟩] 5 6 v6 rfl
  simp only [List.push_toArray, List.cons_append, List.nil_append, Nat.reduceAdd] at k1 k2 k3 k4 k5 k6
  have hA : Lies ((w.alloc (.cells #[a, b, c] 279)).alloc (.cells #[.func (Fn.func 294) #[] #[.pointer (some ⟨w.heap.size, 0, none⟩)]] 296)) w.heap.size #[a, b, c] 279 := (Lies.new _ _ _).alloc _
  have hB : Lies ((w.alloc (.cells #[a, b, c] 279)).alloc (.cells #[.func (Fn.func 294) #[] #[.pointer (some ⟨w.heap.size, 0, none⟩)]] 296)) (w.heap.size + 1) #[.func (Fn.func 294) #[] #[.pointer (some ⟨w.heap.size, 0, none⟩)]] 296 := by
    have := Lies.new (w.alloc (.cells #[a, b, c] 279)) #[.func (Fn.func 294) #[] #[.pointer (some ⟨w.heap.size, 0, none⟩)]] 296
    simpa using this
  have hb0 : Below w.heap.size w ((w.alloc (.cells #[a, b, c] 279)).alloc (.cells #[.func (Fn.func 294) #[] #[.pointer (some ⟨w.heap.size, 0, none⟩)]] 296)) := ((Below.refl _ _).alloc (Nat.le_refl _) _).alloc (by simp) _
  have hz : ((w.alloc (.cells #[a, b, c] 279)).alloc (.cells #[.func (Fn.func 294) #[] #[.pointer (some ⟨w.heap.size, 0, none⟩)]] 296)).heap.size = w.heap.size + 2 := by simp
  go_enter Tryz.func279, Tryz.ntmps279
  go_upto_region 2 with fail
  generalize ((w.alloc (.cells #[a, b, c] 279)).alloc (.cells #[.func (Fn.func 294) #[] #[.pointer (some ⟨w.heap.size, 0, none⟩)]] 296)) = W0 at *
  have H := Lib.hid (And.intro hA (And.intro hB (And.intro hb0 hz)))
  clear hA hB hb0 hz
  go_wp2_with fail
  go_ret
  refine ⟨by rw [H.out.2.2.2]; rfl, H.out.1.alloc _, H.out.2.1.alloc _, ?_, H.out.2.2.1.alloc H.out.2.2.1.size _⟩
  rw [← H.out.2.2.2]
  exact (MapKept.heap_alloc _ _).1

/-- The node at a place is of its kind. -/
def kindB (xs : List Nd) (E : Nat → Nat) (i : Nat) (x : Nd) : Bool :=
  if x.kind = 1 then justB x ⟨0, x.num, 0, ⟨#[]⟩, 0⟩
  else if x.kind = 2 then decide (x.txt.size ≤ 200) && justB x ⟨0, 0, 0, x.txt, 0⟩
  else if x.kind = 3 then decide (canonB x.bits = x.bits) && justB x ⟨0, 0, x.bits, ⟨#[]⟩, 0⟩
  else if x.kind = 4 then justB x ⟨0, 0, 0, ⟨#[]⟩, x.kids⟩
  else if x.kind = 5 then tagIn x.num && justB x ⟨0, x.num, 0, ⟨#[]⟩, x.kids⟩
  else if x.kind = 6 then mapB xs E i x else false
def KindAt (w : World) (b i : Nat) (kd : Int) (r : Bool) : Prop :=
  (r = false ∧ ∀ V, Below w.heap.size w V → (Instr.lookup 288 (.map (some b)) (.int .i64 kd) false).run Tryz.prog V = .ok .nilFunc V) ∨
  ∃ (K : Nat) (c1 c2 : Value), (∀ V, Below w.heap.size w V → (Instr.lookup 288 (.map (some b)) (.int .i64 kd) false).run Tryz.prog V = .ok (.func (Fn.func K) #[] #[c1, c2]) V) ∧
    (∀ cap V, (callFunc K cap).run Tryz.prog V = .ok (.enter K cap) V) ∧
    ∀ V, Below w.heap.size w V → Calls Tryz.prog K #[.int .i64 i, c1, c2] V fun e w' => e = .returned (.bool r) ∧ Below w.heap.size w w'
theorem kind_at (w : World) (b p q g off n nc gE gD i : Nat) (xs : List Nd) (E : Nat → Nat) (h : KE w p q g off n nc gE gD xs E) (hb : w.heap[b]? = some (.map (kindsOf p q) 6)) (hi : i < xs.length) :
    KindAt w b i xs[i].kind (kindB xs E i xs[i]) := by
  have hlt : b < w.heap.size := (Array.getElem?_eq_some_iff.1 hb).1
  have hB : ∀ V, Below w.heap.size w V → V.heap[b]? = some (.map (kindsOf p q) 6) := fun V hV => (hV.block b hlt).trans hb
  have up : ∀ V, Below w.heap.size w V → ∀ e w' r, (e = Ending.returned (.bool r) ∧ Below V.heap.size V w') → (e = Ending.returned (.bool r) ∧ Below w.heap.size w w') := fun V hV e w' r k => ⟨k.1, hV.trans (k.2.mono hV.size)⟩
  obtain ⟨kd, hk⟩ : ∃ kd, kd = xs[i].kind := ⟨_, rfl⟩
  unfold kindB
  rw [← hk]
  by_cases e1 : kd = 1
  · rw [if_pos e1, e1]
    exact .inr ⟨295, _, _, fun V hV => run_found V b _ 6 1 0 _ (hB V hV) rfl, fun cap V => callK 295 Tryz.f295 Tryz.func295 (by kernel_rfl) (by kernel_rfl) cap V, fun V hV => (kindInt_any V p q g off n nc gE gD i xs (h.below hV).kw hi).mono fun e w' k => up V hV e w' _ k⟩
  rw [if_neg e1]
  by_cases e2 : kd = 2
  · rw [if_pos e2, e2]
    exact .inr ⟨296, _, _, fun V hV => run_found V b _ 6 2 1 _ (hB V hV) rfl, fun cap V => callK 296 Tryz.f296 Tryz.func296 (by kernel_rfl) (by kernel_rfl) cap V, fun V hV => (kindBytes_any V p q g off n nc gE gD i xs (h.below hV).kw hi).mono fun e w' k => up V hV e w' _ k⟩
  rw [if_neg e2]
  by_cases e3 : kd = 3
  · rw [if_pos e3, e3]
    exact .inr ⟨297, _, _, fun V hV => run_found V b _ 6 3 2 _ (hB V hV) rfl, fun cap V => callK 297 Tryz.f297 Tryz.func297 (by kernel_rfl) (by kernel_rfl) cap V, fun V hV => (kindReal_any V p q g off n nc gE gD i xs (h.below hV).kw hi).mono fun e w' k => up V hV e w' _ k⟩
  rw [if_neg e3]
  by_cases e4 : kd = 4
  · rw [if_pos e4, e4]
    exact .inr ⟨299, _, _, fun V hV => run_found V b _ 6 4 3 _ (hB V hV) rfl, fun cap V => callK 299 Tryz.f299 Tryz.func299 (by kernel_rfl) (by kernel_rfl) cap V, fun V hV => (kindList_any V p q g off n nc gE gD i xs (h.below hV).kw hi).mono fun e w' k => up V hV e w' _ k⟩
  rw [if_neg e4]
  by_cases e5 : kd = 5
  · rw [if_pos e5, e5]
    exact .inr ⟨300, _, _, fun V hV => run_found V b _ 6 5 4 _ (hB V hV) rfl, fun cap V => callK 300 Tryz.f300 Tryz.func300 (by kernel_rfl) (by kernel_rfl) cap V, fun V hV => (kindTag_any V p q g off n nc gE gD i xs (h.below hV).kw hi).mono fun e w' k => up V hV e w' _ k⟩
  rw [if_neg e5]
  by_cases e6 : kd = 6
  · rw [if_pos e6, e6]
    exact .inr ⟨301, _, _, fun V hV => run_found V b _ 6 6 5 _ (hB V hV) rfl, fun cap V => callK 301 Tryz.f301 Tryz.func301 (by kernel_rfl) (by kernel_rfl) cap V, fun V hV => (kindMap_any V p q g off n nc gE gD i xs E (h.below hV) hi).mono fun e w' k => up V hV e w' _ k⟩
  rw [if_neg e6]
  refine .inl ⟨rfl, fun V hV => run_missed V b _ 6 kd (hB V hV) ?_⟩
  have b1 : (kd == 1) = false := by simpa using e1
  have b2 : (kd == 2) = false := by simpa using e2
  have b3 : (kd == 3) = false := by simpa using e3
  have b4 : (kd == 4) = false := by simpa using e4
  have b5 : (kd == 5) = false := by simpa using e5
  have b6 : (kd == 6) = false := by simpa using e6
  simp [kindsOf, ent, Instr.findNow, Instr.sameNow, b1, b2, b3, b4, b5, b6]
theorem nilF_nil (W : World) : (binOp .eql 197 .nilFunc .nilFunc).run Tryz.prog W = .ok (.bool true) W := by kernel_rfl
theorem func_nil (K : Nat) (c1 c2 : Value) (W : World) : (binOp .eql 197 (.func (Fn.func K) #[] #[c1, c2]) .nilFunc).run Tryz.prog W = .ok (.bool false) W := by kernel_rfl
/-- So many nodes from a place on are of their kinds. -/
def kindsB (xs : List Nd) (E : Nat → Nat) : Bool := (List.range xs.length).all fun i => match xs[i]? with
  | some x => kindB xs E i x
  | none => true
theorem kindsB_true {xs : List Nd} {E : Nat → Nat} (h : ∀ i (hi : i < xs.length), kindB xs E i xs[i] = true) : kindsB xs E = true := by
  unfold kindsB
  rw [List.all_eq_true]
  intro i hi
  rw [List.mem_range] at hi
  rw [List.getElem?_eq_getElem hi]
  exact h i hi
theorem kindsB_false {xs : List Nd} {E : Nat → Nat} (i : Nat) (hi : i < xs.length) (h : kindB xs E i xs[i] = false) : kindsB xs E = false := by
  unfold kindsB
  rw [List.all_eq_false]
  exact ⟨i, List.mem_range.2 hi, by rw [List.getElem?_eq_getElem hi]; simp [h]⟩
theorem kindsB_iff {xs : List Nd} {E : Nat → Nat} : kindsB xs E = true ↔ ∀ i (hi : i < xs.length), kindB xs E i xs[i] = true := by
  refine ⟨fun h i hi => ?_, kindsB_true⟩
  cases hk : kindB xs E i xs[i] with
  | true => rfl
  | false => rw [kindsB_false i hi hk] at h; cases h
set_option maxRecDepth 100000 in
set_option maxHeartbeats 1000000 in
theorem ofKinds_any (w : World) (g off n nc gE gD : Nat) (xs : List Nd) (E : Nat → Nat) (hx : NAt w g off xs) (hn : n = xs.length) (hE : Lies w gE (iv n E) 3) (he : Ends xs E) (hki : KidsIn xs) (hc : n ≤ nc) (hf : n ≤ 1000000) :
    Calls Tryz.prog 244 #[.agg (layV (some ⟨g, off, none⟩) n nc gE gD)] w fun e w' => e = .returned (.bool (kindsB xs E)) ∧ Below w.heap.size w w' := by
  have hA : Lies (w.alloc (.cells (layV (some ⟨g, off, none⟩) n nc gE gD) 279)) w.heap.size (layV (some ⟨g, off, none⟩) n nc gE gD) 279 := Lies.new _ _ _
  have hb0 : Below w.heap.size w (w.alloc (.cells (layV (some ⟨g, off, none⟩) n nc gE gD) 279)) := (Below.refl _ _).alloc (Nat.le_refl _) _
  have hkd := fun V => kinds_any V (layV (some ⟨g, off, none⟩) n nc gE gD) _ _ _ rfl
  have HK := Lib.hid hkd
  have H0 := Lib.hid (And.intro hx (And.intro hn (And.intro hE (And.intro he (And.intro hki (And.intro hc hf))))))
  obtain ⟨res, hres⟩ : ∃ r, r = kindsB xs E := ⟨_, rfl⟩
  rw [← hres]
  have HR := Lib.hid hres
  clear hkd hx hn hE he hki hc hf hres
  unfold layV at hA hb0 HK ⊢
  go_enter Tryz.func244, Tryz.ntmps244
  go_upto_region 1 with fail
  generalize w.alloc (.cells #[.slice (some ⟨g, off, none⟩) n nc, .slice (some ⟨gE, 0, none⟩) n n, .slice (some ⟨gD, 0, none⟩) n n] 279) = W0 at hA hb0 ⊢
  have c0 := hA.cell 0 (v := .slice (some ⟨g, off, none⟩) n nc) rfl
  have c1 := hA.cell 1 (v := .slice (some ⟨gE, 0, none⟩) n n) rfl
  have c2 := hA.cell 2 (v := .slice (some ⟨gD, 0, none⟩) n n) rfl
  have HA := Lib.hid (And.intro hA hb0)
  clear hA hb0
  go_wp2_with fail
  refine (HK.out _).mono ?_
  rintro e W1 ⟨rfl, l1, l2, l3, hb1⟩
  clear c0 c1 c2
  obtain ⟨p, hp⟩ : ∃ p, p = W0.heap.size := ⟨_, rfl⟩
  have hA1 := HA.out.1.below hb1 HA.out.1.lt
  have c0 := hA1.cell 0 (v := .slice (some ⟨g, off, none⟩) n nc) rfl
  have hbw1 := HA.out.2.trans (hb1.mono HA.out.2.size)
  have hke : KE W1 p (p + 1) g off n nc gE gD xs E := ⟨⟨by rw [hp]; exact l1, by rw [hp]; exact l2, H0.out.1.below hbw1 H0.out.1.1, H0.out.2.1⟩, H0.out.2.2.1.below hbw1 H0.out.2.2.1.lt, H0.out.2.2.2.1, H0.out.2.2.2.2.1, H0.out.2.2.2.2.2.1, H0.out.2.2.2.2.2.2⟩
  rw [← hp] at l3
  have HW := Lib.hid (And.intro hke (And.intro l3 (And.intro hbw1 hA1)))
  have hnn : n ≤ 1000000 := H0.out.2.2.2.2.2.2
  rw [← hp]
  have HP := Lib.hid hp
  clear hp l1 l2 l3 hb1 hbw1 hke hA1
  go_wp2_with fail
  go_loopw [12] (fun i W => ∃ k : Nat, k ≤ n ∧ i = .int .i64 k ∧ (∀ j (hj : j < xs.length), j < k → kindB xs E j xs[j] = true) ∧ Below W1.heap.size W1 W) (fun i _ => (n - intOf i).toNat)
  case atStart => exact ⟨0, by omega, by go_num, fun j _ h => by omega, Below.refl _ _⟩
  case round =>
    obtain ⟨k, hk, rfl, hall, hbr⟩ := hrel
    by_cases hlt : k < n
    · have hxl : k < xs.length := by rw [← H0.out.2.1]; exact hlt
      have hat := kind_at wr (p + 2) p (p + 1) g off n nc gE gD k xs E (HW.out.1.below hbr) ((hbr.block (p + 2) (Array.getElem?_eq_some_iff.1 HW.out.2.1).1).trans HW.out.2.1) hxl
      have hxc := (HW.out.1.below hbr).kw.at_.2 k hxl
      obtain ⟨r, hr⟩ : ∃ r, r = kindB xs E k xs[k] := ⟨_, rfl⟩
      rw [← hr] at hat
      obtain ⟨x, ex⟩ : ∃ x, x = xs[k] := ⟨_, rfl⟩
      rw [← ex] at hat hxc
      obtain ⟨k1, n1, b1, t1, d1⟩ := x
      simp only at hat
      have hnxt : r = true → ∀ j (hj : j < xs.length), j < k + 1 → kindB xs E j xs[j] = true := fun e j hj h => by
        by_cases e2 : j = k
        · subst e2; rw [← hr]; exact e
        · exact hall j hj (by omega)
      have hbad : r = false → res = false := fun e => by rw [HR.out]; exact kindsB_false k hxl (by rw [← hr]; exact e)
      have x0 : wr.cell? ⟨g, off + k * 5, none⟩ = some (.int .i64 k1) := hxc 0 _ rfl
      have x1 : wr.cell? ⟨g, off + k * 5 + 1, none⟩ = some (.int .i64 n1) := hxc 1 _ rfl
      have x2 : wr.cell? ⟨g, off + k * 5 + 2, none⟩ = some (.int .u64 b1) := hxc 2 _ rfl
      have x3 : wr.cell? ⟨g, off + k * 5 + 3, none⟩ = some (.string t1) := hxc 3 _ rfl
      have x4 : wr.cell? ⟨g, off + k * 5 + 4, none⟩ = some (.int .i64 d1) := hxc 4 _ rfl
      have q0 : (0 : Int) ≤ (k : Int) := by omega
      have q1 : (k : Int) < (n : Int) := by omega
      have hB := (Lies.new wr #[.int .i64 k1, .int .i64 n1, .int .u64 b1, .string t1, .int .i64 d1] 72)
      have hbA : Below wr.heap.size wr (wr.alloc (.cells #[.int .i64 k1, .int .i64 n1, .int .u64 b1, .string t1, .int .i64 d1] 72)) := (Below.refl _ _).alloc (Nat.le_refl _) _
      have HRD := Lib.hid (And.intro hall (And.intro hbr (And.intro hnxt hbad)))
      have HAT := Lib.hid hat
      clear hall hbr hnxt hbad hat hr ex hxc hxl
      go_upto_region 5 with fail
      generalize wr.alloc (.cells #[.int .i64 k1, .int .i64 n1, .int .u64 b1, .string t1, .int .i64 d1] 72) = W5 at hB hbA ⊢
      clear x0 x1 x2 x3 x4
      have y0 := hB.cell 0 (v := .int .i64 k1) rfl
      have HB5 := Lib.hid hbA
      clear hB hbA
      rcases HAT.out with ⟨hrf, hlk⟩ | ⟨K, d1', d2', hlk, hcf, hcl⟩
      · have hl5 := hlk W5 HB5.out
        have hq := nilF_nil
        have hz := HRD.out.2.2.2 hrf
        have HZ := Lib.hid hz
        clear hlk hrf hz
        go_wp2_with fail
        go_ret
        exact ⟨by rw [HZ.out]; rfl, HW.out.2.2.1.trans ((HRD.out.2.1.trans (HB5.out.mono HRD.out.2.1.size)).mono HW.out.2.2.1.size)⟩
      · have hl5 := hlk W5 HB5.out
        have hq := func_nil K d1' d2'
        have HC := Lib.hid (hcl W5 HB5.out)
        clear hlk hcl
        go_wp2_with fail
        refine HC.out.mono ?_
        rintro e W6 ⟨rfl, hb6⟩
        have HB6 := Lib.hid hb6
        clear hb6 y0 hl5
        cases r with
        | true =>
          have hnx := HRD.out.2.2.1 rfl
          have HN := Lib.hid hnx
          clear hnx
          go_wp2_with fail
          go_roundw
          case rel => exact ⟨k + 1, by omega, by go_num, HN.out, HRD.out.2.1.trans (HB6.out.mono HRD.out.2.1.size)⟩
          case measure => simp [intOf]; omega
        | false =>
          have hz := HRD.out.2.2.2 rfl
          have HZ := Lib.hid hz
          clear hz
          go_wp2_with fail
          go_ret
          exact ⟨by rw [HZ.out]; rfl, HW.out.2.2.1.trans ((HRD.out.2.1.trans (HB6.out.mono HRD.out.2.1.size)).mono HW.out.2.2.1.size)⟩
    · have hke : k = n := by omega
      have hz : res = true := by
        rw [HR.out]
        exact kindsB_true fun i hi => hall i hi (by rw [hke, H0.out.2.1]; exact hi)
      have HZ := Lib.hid (And.intro hz hbr)
      clear hz hall hbr hke hk
      go_wp2_with fail
      go_ret
      exact ⟨by rw [HZ.out.1]; rfl, HW.out.2.2.1.trans (HZ.out.2.mono HW.out.2.2.1.size)⟩
end Go.Proofs.YtilbbemdinpjcaaGreat.T
namespace Go.Proofs.YtilbbemdinpjcaaGreat.T
open Ieee

theorem orderB_turn (a b : Nat) : orderB a b = - orderB b a := by
  unfold orderB
  by_cases h1 : pos a < pos b
  · rw [if_pos h1, if_neg (by omega), if_neg (by omega)]
  · rw [if_neg h1]
    by_cases h2 : pos a = pos b
    · rw [if_pos h2, if_neg (by omega), if_pos h2.symm]; rfl
    · rw [if_neg h2, if_pos (by omega)]; rfl
theorem orderB_range (a b : Nat) : -1 ≤ orderB a b ∧ orderB a b ≤ 1 := by
  unfold orderB
  split
  · decide
  · split <;> decide
theorem orderB_neg (a b : Nat) : orderB a b < 0 ↔ pos a < pos b := by
  unfold orderB
  by_cases h1 : pos a < pos b
  · rw [if_pos h1]; exact ⟨fun _ => h1, fun _ => by decide⟩
  · rw [if_neg h1]
    refine ⟨fun h => ?_, fun h => absurd h h1⟩
    split at h <;> omega
theorem orderB_zero (a b : Nat) : orderB a b = 0 ↔ pos a = pos b := by
  unfold orderB
  by_cases h1 : pos a < pos b
  · rw [if_pos h1]; exact ⟨fun h => by omega, fun h => by omega⟩
  · rw [if_neg h1]
    by_cases h2 : pos a = pos b
    · rw [if_pos h2]; exact ⟨fun _ => h2, fun _ => rfl⟩
    · rw [if_neg h2]; exact ⟨fun h => by omega, fun h => absurd h h2⟩
theorem orderB_le (a b : Nat) : orderB a b ≤ 0 ↔ pos a ≤ pos b := by
  have h1 := orderB_neg a b
  have h2 := orderB_zero a b
  omega
theorem orderB_trans (a b c : Nat) (h1 : orderB a b ≤ 0) (h2 : orderB b c ≤ 0) : orderB a c ≤ 0 := by
  rw [orderB_le] at *; omega
theorem pos_canon (a b : Nat) (ha : a < 2 ^ 64) (hb : b < 2 ^ 64) : pos a = pos b ↔ canonB a = canonB b := by
  have ea := mk_of a ha
  have eb := mk_of b hb
  unfold pos canonB
  by_cases na : isNone a
  · by_cases nb : isNone b
    · simp [na, nb]
    · rw [if_pos na, if_pos na, if_neg nb, if_neg nb]
      have h1 : rg b ≤ inf := by unfold isNone at nb; omega
      refine ⟨fun h => ?_, fun h => ?_⟩
      · split at h <;> omega
      · exact absurd (h ▸ none_NAN) nb
  · have h0 : rg a ≤ inf := by unfold isNone at na; omega
    by_cases nb : isNone b
    · rw [if_neg na, if_neg na, if_pos nb, if_pos nb]
      refine ⟨fun h => ?_, fun h => ?_⟩
      · split at h <;> omega
      · exact absurd (h ▸ none_NAN) na
    · rw [if_neg na, if_neg na, if_neg nb, if_neg nb]
      refine ⟨fun h => ?_, fun h => ?_⟩
      · rw [← ea, ← eb]
        cases sa : sg a <;> cases sb : sg b <;> simp [sa, sb] at h
        · rw [show rg a = rg b by omega]
        · omega
        · omega
        · rw [show rg a = rg b by omega]
      · subst h; rfl
theorem less_key (a b : Nat) : lessB a b = true ↔ ¬ isNone a ∧ ¬ isNone b ∧ key a < key b := by
  unfold lessB
  rw [decide_eq_true_eq]
  by_cases na : isNone a
  · rw [order_none a b (.inl na)]; simp [na]
  · by_cases nb : isNone b
    · rw [order_none a b (.inr nb)]; simp [nb]
    · rw [order_some a b na nb]
      refine ⟨fun h => ⟨na, nb, ?_⟩, fun h => by rw [cmp_lt h.2.2]⟩
      rcases Int.lt_trichotomy (key a) (key b) with k | k | k
      · exact k
      · rw [cmp_eq k] at h; cases h
      · rw [cmp_gt k] at h; cases h
theorem same_key (a b : Nat) : sameB a b = true ↔ ¬ isNone a ∧ ¬ isNone b ∧ key a = key b := by
  unfold sameB
  rw [decide_eq_true_eq]
  by_cases na : isNone a
  · rw [order_none a b (.inl na)]; simp [na]
  · by_cases nb : isNone b
    · rw [order_none a b (.inr nb)]; simp [nb]
    · rw [order_some a b na nb]
      refine ⟨fun h => ⟨na, nb, ?_⟩, fun h => by rw [cmp_eq h.2.2]⟩
      rcases Int.lt_trichotomy (key a) (key b) with k | k | k
      · rw [cmp_lt k] at h; cases h
      · exact k
      · rw [cmp_gt k] at h; cases h
theorem canon_nan (a : Nat) (ha : canonB a = NAN) : isNone a := by
  unfold canonB at ha
  by_cases h : isNone a
  · exact h
  · rw [if_neg h] at ha; rw [ha]; exact none_NAN
theorem nan_canon (a : Nat) (h : isNone a) : canonB a = NAN := by unfold canonB; rw [if_pos h]
/-- What Less says of places. -/
theorem less_pos (a b : Nat) (na : ¬ isNone a) (nb : ¬ isNone b) : lessB a b = true ↔ pos a < pos b ∧ ¬ (rg a = 0 ∧ rg b = 0) := by
  rw [less_key]
  have h : (¬ isNone a ∧ ¬ isNone b ∧ key a < key b) ↔ key a < key b := ⟨fun h => h.2.2, fun h => ⟨na, nb, h⟩⟩
  rw [h]
  unfold key pos
  rw [if_neg na, if_neg nb]
  cases sg a <;> cases sg b <;> simp <;> omega
theorem same_pos (a b : Nat) (na : ¬ isNone a) (nb : ¬ isNone b) : sameB a b = true ↔ pos a = pos b ∨ (rg a = 0 ∧ rg b = 0) := by
  rw [same_key]
  have h : (¬ isNone a ∧ ¬ isNone b ∧ key a = key b) ↔ key a = key b := ⟨fun h => h.2.2, fun h => ⟨na, nb, h⟩⟩
  rw [h]
  unfold key pos
  rw [if_neg na, if_neg nb]
  cases sg a <;> cases sg b <;> simp <;> omega

/-! ## Sums by the same real -/
open Go.RowKit
theorem places_lt (s t : Bool) (r q : Nat) (h : (if s then -(r : Int) else (r : Int)) < if t then -(q : Int) else (q : Int)) : (if s then -1 - (r : Int) else (r : Int)) < if t then -1 - (q : Int) else (q : Int) := by
  cases s <;> cases t <;> simp only [Bool.false_eq_true, if_false, if_true] at h ⊢ <;> omega
theorem wrapI_mk (s : Bool) (r : Nat) (h : r < 2 ^ 63) : wrapI (mk s r) = if s then (r : Int) - (2 ^ 63 : Int) else (r : Int) := by
  unfold wrapI mk
  rw [IntKind.wrap_i64]
  cases s
  · simp only [Bool.false_eq_true, if_false]; omega
  · simp only [if_true]; omega
theorem places_eq (s t : Bool) (r q : Nat) (h : (if s then -(r : Int) else (r : Int)) = if t then -(q : Int) else (q : Int)) :
    cmpI (if s then (r : Int) - (2 ^ 63 : Int) else (r : Int)) (if t then (q : Int) - (2 ^ 63 : Int) else (q : Int)) =
      if (if s then -1 - (r : Int) else (r : Int)) < (if t then -1 - (q : Int) else (q : Int)) then -1 else if (if s then -1 - (r : Int) else (r : Int)) = (if t then -1 - (q : Int) else (q : Int)) then 0 else 1 := by
  unfold cmpI
  cases s <;> cases t <;> simp only [Bool.false_eq_true, if_false, if_true] at h ⊢
  · rw [show r = q by omega]; simp
  · have h1 : r = 0 := by omega
    have h2 : q = 0 := by omega
    rw [h1, h2]; decide
  · have h1 : r = 0 := by omega
    have h2 : q = 0 := by omega
    rw [h1, h2]; decide
  · rw [show r = q by omega]; simp
theorem ordC_eq (a b : Nat) (ha : a < 2 ^ 64) (hb : b < 2 ^ 64) : ordC a b = orderB a b := by
  unfold ordC orderB
  by_cases na : isNone a
  · rw [show noneB a = true from decide_eq_true na, Bool.true_or, if_pos rfl]
    unfold cmpF pos
    rw [show noneB a = true from decide_eq_true na, if_pos na]
    by_cases nb : isNone b
    · rw [show noneB b = true from decide_eq_true nb, if_pos nb]
      simp
    · rw [show noneB b = false from decide_eq_false nb, if_neg nb]
      have h2 : rg b ≤ inf := by unfold isNone at nb; omega
      simp only [Bool.false_eq_true, if_false, if_true]
      rw [if_neg (by split <;> omega), if_neg (by split <;> omega)]
  · by_cases nb : isNone b
    · rw [show noneB b = true from decide_eq_true nb, Bool.or_true, if_pos rfl]
      unfold cmpF pos
      rw [show noneB b = true from decide_eq_true nb, if_pos nb, show noneB a = false from decide_eq_false na, if_neg na]
      have h2 : rg a ≤ inf := by unfold isNone at na; omega
      simp only [Bool.false_eq_true, if_false, if_true]
      rw [if_pos (by split <;> omega)]
    · rw [show noneB a = false from decide_eq_false na, show noneB b = false from decide_eq_false nb, Bool.or_self, if_neg (by simp)]
      have ea := mk_of a ha
      have eb := mk_of b hb
      have ra := rg_lt a
      have rb := rg_lt b
      have ho : ∀ o, orderIs o a b = (compare (key a) (key b) == o) := fun o => by
        unfold orderIs
        show (Ieee.double.order a b == some o) = _
        rw [order_some a b na nb]
        cases compare (key a) (key b) <;> cases o <;> rfl
      unfold ordIn cmpF
      rw [ho, ho, ho, show noneB a = false from decide_eq_false na, show noneB b = false from decide_eq_false nb]
      have pa : pos a = if sg a then -1 - (rg a : Int) else rg a := by unfold pos; rw [if_neg na]
      have pb : pos b = if sg b then -1 - (rg b : Int) else rg b := by unfold pos; rw [if_neg nb]
      have ka : key a = if sg a then -(rg a : Int) else rg a := rfl
      have kb : key b = if sg b then -(rg b : Int) else rg b := rfl
      rcases Int.lt_trichotomy (key a) (key b) with h | h | h
      · rw [cmp_lt h, if_pos (show pos a < pos b by rw [pa, pb]; rw [ka, kb] at h; exact places_lt _ _ _ _ h)]
        rfl
      · rw [cmp_eq h]
        show cmpI (wrapI a) (wrapI b) = _
        have wa := wrapI_mk (sg a) (rg a) ra
        have wb := wrapI_mk (sg b) (rg b) rb
        rw [ea] at wa
        rw [eb] at wb
        rw [ka, kb] at h
        rw [wa, wb, pa, pb]
        exact places_eq _ _ _ _ h
      · have hp : pos b < pos a := by rw [pa, pb]; rw [ka, kb] at h; exact places_lt _ _ _ _ h
        have hR : (if pos a < pos b then (-1 : Int) else if pos a = pos b then 0 else 1) = 1 := by rw [if_neg (by omega), if_neg (by omega)]
        rw [cmp_gt h, hR]
        rfl
end Go.Proofs.YtilbbemdinpjcaaGreat.T
