/-
  pack: PutTerm.
-/
import Derived.Test.YtilbbemdinpjcaaGreatJPo
import Derived.Test.YtilbbemdinpjcaaGreatJTTfo
import Derived.Test.YtilbbemdinpjcaaGreatJTTom
set_option maxHeartbeats 16000000
namespace Go.Proofs.YtilbbemdinpjcaaGreat.P
set_option maxRecDepth 100000
open Go.RowKit
theorem cl1_any (w : World) {B g : Nat} {v : Value} {st : Option (List UInt8)} (p : Nat) (n : T.Nd) (hp : w.cell? ⟨p, 0, none⟩ = some (.pointer (some ⟨g, 0, none⟩))) (hl : p < w.heap.size) (h : WrO W.WSt w B g v st) (hx : sz st ≤ 900000) :
  Calls Tryz.prog 245 #[.agg n.cells, .pointer (some ⟨p, 0, none⟩)] w (PutR W.WSt w B g v (W.stepN st (W.low64 n.kids) 2)) := by
 obtain ⟨k1, n1, b1, t1, d1⟩ := n
 have hA := Lies.new w #[.int .i64 k1, .int .i64 n1, .int .u64 b1, .string t1, .int .i64 d1] 72
 have hb : Below w.heap.size w (w.alloc (.cells #[.int .i64 k1, .int .i64 n1, .int .u64 b1, .string t1, .int .i64 d1] 72)) := (Below.refl _ _).alloc (Nat.le_refl _) _
 have H := Lib.hid (And.intro h (And.intro hp (And.intro hl hx)))
 clear h hp hl hx
 unfold T.Nd.cells
 go_enter Tryz.func245, Tryz.ntmps245
 go_upto_region 1 with fail
 generalize w.alloc (.cells #[.int .i64 k1, .int .i64 n1, .int .u64 b1, .string t1, .int .i64 d1] 72) = W0 at hA hb ⊢
 have c4 := hA.cell 4 (v := .int .i64 d1) rfl
 have cp := (hb.cell (p := ⟨p, 0, none⟩) H.out.2.2.1).trans H.out.2.1
 have HC := Lib.hid (wU16 W0 d1 (H.out.1.belowW hb) H.out.2.2.2)
 have HB := Lib.hid hb
 clear hA hb
 go_wp2_with fail
 refine HC.out.mono ?_
 rintro e w1 hr
 obtain ⟨rfl, hr⟩ := hr
 have HR := Lib.hid hr
 clear hr c4 cp HC
 go_wp2_with fail
 go_end0
 exact PutR.after HB.out ⟨rfl, HR.out⟩
theorem cl2_any (w : World) {B g : Nat} {v : Value} {st : Option (List UInt8)} (p : Nat) (n : T.Nd) (hp : w.cell? ⟨p, 0, none⟩ = some (.pointer (some ⟨g, 0, none⟩))) (hl : p < w.heap.size) (h : WrO W.WSt w B g v st) (hx : sz st ≤ 900000) :
  Calls Tryz.prog 246 #[.agg n.cells, .pointer (some ⟨p, 0, none⟩)] w (PutR W.WSt w B g v (W.stepN st (W.low64 n.num) 8)) := by
 obtain ⟨k1, n1, b1, t1, d1⟩ := n
 have hA := Lies.new w #[.int .i64 k1, .int .i64 n1, .int .u64 b1, .string t1, .int .i64 d1] 72
 have hb : Below w.heap.size w (w.alloc (.cells #[.int .i64 k1, .int .i64 n1, .int .u64 b1, .string t1, .int .i64 d1] 72)) := (Below.refl _ _).alloc (Nat.le_refl _) _
 have H := Lib.hid (And.intro h (And.intro hp (And.intro hl hx)))
 clear h hp hl hx
 unfold T.Nd.cells
 go_enter Tryz.func246, Tryz.ntmps246
 go_upto_region 1 with fail
 generalize w.alloc (.cells #[.int .i64 k1, .int .i64 n1, .int .u64 b1, .string t1, .int .i64 d1] 72) = W0 at hA hb ⊢
 have c4 := hA.cell 1 (v := .int .i64 n1) rfl
 have cp := (hb.cell (p := ⟨p, 0, none⟩) H.out.2.2.1).trans H.out.2.1
 have HC := Lib.hid (wI64 W0 n1 (H.out.1.belowW hb) H.out.2.2.2)
 have HB := Lib.hid hb
 clear hA hb
 go_wp2_with fail
 refine HC.out.mono ?_
 rintro e w1 hr
 obtain ⟨rfl, hr⟩ := hr
 have HR := Lib.hid hr
 clear hr c4 cp HC
 go_wp2_with fail
 go_end0
 exact PutR.after HB.out ⟨rfl, HR.out⟩
theorem cl3_any (w : World) {B g : Nat} {v : Value} {st : Option (List UInt8)} (p : Nat) (n : T.Nd) (hp : w.cell? ⟨p, 0, none⟩ = some (.pointer (some ⟨g, 0, none⟩))) (hl : p < w.heap.size) (hn : n.txt.size ≤ 140737488355328) (h : WrO W.WSt w B g v st) (hx : sz st ≤ 900000) :
  Calls Tryz.prog 247 #[.agg n.cells, .pointer (some ⟨p, 0, none⟩)] w (PutR W.WSt w B g v (W.stepText st n.txt)) := by
 obtain ⟨k1, n1, b1, t1, d1⟩ := n
 have hA := Lies.new w #[.int .i64 k1, .int .i64 n1, .int .u64 b1, .string t1, .int .i64 d1] 72
 have hb : Below w.heap.size w (w.alloc (.cells #[.int .i64 k1, .int .i64 n1, .int .u64 b1, .string t1, .int .i64 d1] 72)) := (Below.refl _ _).alloc (Nat.le_refl _) _
 have H := Lib.hid (And.intro h (And.intro hp (And.intro hl (And.intro hx hn))))
 clear h hp hl hx hn
 unfold T.Nd.cells
 go_enter Tryz.func247, Tryz.ntmps247
 go_upto_region 1 with fail
 generalize w.alloc (.cells #[.int .i64 k1, .int .i64 n1, .int .u64 b1, .string t1, .int .i64 d1] 72) = W0 at hA hb ⊢
 have c4 := hA.cell 3 (v := .string t1) rfl
 have cp := (hb.cell (p := ⟨p, 0, none⟩) H.out.2.2.1).trans H.out.2.1
 have HC := Lib.hid (wText W0 t1 H.out.2.2.2.2 (H.out.1.belowW hb) H.out.2.2.2.1)
 have HB := Lib.hid hb
 clear hA hb
 go_wp2_with fail
 refine HC.out.mono ?_
 rintro e w1 hr
 obtain ⟨rfl, hr⟩ := hr
 have HR := Lib.hid hr
 clear hr c4 cp HC
 go_wp2_with fail
 go_end0
 exact PutR.after HB.out ⟨rfl, HR.out⟩
theorem cl4_any (w : World) {B g : Nat} {v : Value} {st : Option (List UInt8)} (p : Nat) (n : T.Nd) (hp : w.cell? ⟨p, 0, none⟩ = some (.pointer (some ⟨g, 0, none⟩))) (hl : p < w.heap.size) (hn : n.bits < 18446744073709551616) (h : WrO W.WSt w B g v st) (hx : sz st ≤ 900000) :
  Calls Tryz.prog 248 #[.agg n.cells, .pointer (some ⟨p, 0, none⟩)] w (PutR W.WSt w B g v (W.stepN st n.bits 8)) := by
 obtain ⟨k1, n1, b1, t1, d1⟩ := n
 have hA := Lies.new w #[.int .i64 k1, .int .i64 n1, .int .u64 b1, .string t1, .int .i64 d1] 72
 have hb : Below w.heap.size w (w.alloc (.cells #[.int .i64 k1, .int .i64 n1, .int .u64 b1, .string t1, .int .i64 d1] 72)) := (Below.refl _ _).alloc (Nat.le_refl _) _
 have H := Lib.hid (And.intro h (And.intro hp (And.intro hl (And.intro hx hn))))
 clear h hp hl hx hn
 unfold T.Nd.cells
 go_enter Tryz.func248, Tryz.ntmps248
 go_upto_region 1 with fail
 generalize w.alloc (.cells #[.int .i64 k1, .int .i64 n1, .int .u64 b1, .string t1, .int .i64 d1] 72) = W0 at hA hb ⊢
 have c4 := hA.cell 2 (v := .int .u64 b1) rfl
 have cp := (hb.cell (p := ⟨p, 0, none⟩) H.out.2.2.1).trans H.out.2.1
 have HC := Lib.hid (wU64 W0 b1 H.out.2.2.2.2 (H.out.1.belowW hb) H.out.2.2.2.1)
 have HB := Lib.hid hb
 clear hA hb
 go_wp2_with fail
 refine HC.out.mono ?_
 rintro e w1 hr
 obtain ⟨rfl, hr⟩ := hr
 have HR := Lib.hid hr
 clear hr c4 cp HC
 go_wp2_with fail
 go_end0
 exact PutR.after HB.out ⟨rfl, HR.out⟩
theorem cl5_any (w : World) {B g : Nat} {v : Value} {st : Option (List UInt8)} (p : Nat) (n : T.Nd) (hp : w.cell? ⟨p, 0, none⟩ = some (.pointer (some ⟨g, 0, none⟩))) (hl : Off w g v p) (h : WrO W.WSt w B g v st) (hx : sz st ≤ 800000) :
  Calls Tryz.prog 249 #[.agg n.cells, .pointer (some ⟨p, 0, none⟩)] w (PutR W.WSt w B g v (W.stepN (W.stepN st (W.low64 n.num) 4) (W.low64 n.kids) 2)) := by
 obtain ⟨k1, n1, b1, t1, d1⟩ := n
 have hA := Lies.new w #[.int .i64 k1, .int .i64 n1, .int .u64 b1, .string t1, .int .i64 d1] 72
 have hb : Below w.heap.size w (w.alloc (.cells #[.int .i64 k1, .int .i64 n1, .int .u64 b1, .string t1, .int .i64 d1] 72)) := (Below.refl _ _).alloc (Nat.le_refl _) _
 have H := Lib.hid (And.intro h (And.intro hp (And.intro hl hx)))
 have HQ := Lib.hid (h.off (w' := w.alloc (.cells #[.int .i64 k1, .int .i64 n1, .int .u64 b1, .string t1, .int .i64 d1] 72)) (Nat.le_refl _) (by simp))
 clear h hp hl hx
 unfold T.Nd.cells
 go_enter Tryz.func249, Tryz.ntmps249
 go_upto_region 1 with fail
 generalize w.alloc (.cells #[.int .i64 k1, .int .i64 n1, .int .u64 b1, .string t1, .int .i64 d1] 72) = W0 at hA hb HQ ⊢
 have c1 := hA.cell 1 (v := .int .i64 n1) rfl
 have c4 := hA.cell 4 (v := .int .i64 d1) rfl
 have cp := (hb.cell (p := ⟨p, 0, none⟩) H.out.2.2.1.lt).trans H.out.2.1
 have hw0 := H.out.1.belowW hb
 have HC := Lib.hid (wU32 W0 n1 hw0 (by have := H.out.2.2.2; omega))
 have HB := Lib.hid hb
 have HP := Lib.hid (H.out.2.2.1.on (Lk.of_below hb))
 clear hA hb
 go_wp2_with fail
 refine HC.out.mono ?_
 rintro e w1 hr
 obtain ⟨rfl, v1, hw1, hk1⟩ := hr
 have d4 := (hk1.cell (o := 4) HQ.out.lt HQ.out.ne HQ.out.own).trans c4
 have dp := (hk1.cell (o := 0) HP.out.lt HP.out.ne HP.out.own).trans cp
 have HC2 := Lib.hid (wU16 w1 d1 hw1 (by have := H.out.2.2.2; have := sz_N st (W.low64 n1) 4; omega))
 have HR := Lib.hid hk1
 clear hw1 hk1 c1 c4 cp HC
 go_wp2_with fail
 refine HC2.out.mono ?_
 rintro e w2 hr
 obtain ⟨rfl, hr⟩ := hr
 have HR2 := Lib.hid hr
 clear hr d4 dp HC2
 go_wp2_with fail
 go_end0
 exact PutR.after HB.out (PutR.on HR.out ⟨rfl, HR2.out⟩)
theorem uMapP : Tryz.prog.underlying 247 = some (.map 67 249) := by kernel_rfl
theorem run_insertP (w : World) (es : Array MapEntry) (clock : Nat) (key : Int) (v : Value) (h : Instr.findNow (.int .i64) (.int .i64 key) es.toList 0 = some none) :
  (Instr.mapUpdate 247 (.map (some w.heap.size)) (.int .i64 key) v).run Tryz.prog (w.alloc (.map es clock)) = .ok () (w.alloc (.map (es.push ⟨.int .i64 key, v, clock⟩) (clock + 1))) := by
 have hb : (w.alloc (.map es clock)).heap[w.heap.size]? = some (.map es clock) := (MapKept.heap_alloc w _).1
 have hk := MapKept.run_checkKey (P := Tryz.prog) (w := w.alloc (.map es clock)) (k := .int .i64 key) T.u29 (by simp [MapKept.IsKey]) false 9999
 simp [Instr.mapUpdate, run_underlying uMapP, MapKept.run_getObj_map hb, hk, MapKept.run_findKey T.u29 h, MapKept.run_setObj_map _ hb, Result.andThen]
 simp [World.alloc, -World.alloc_eq, T.push_set]
theorem run_foundP (w : World) (b : Nat) (es : Array MapEntry) (clock : Nat) (key : Int) (i : Nat) (v : Value) (hb : w.heap[b]? = some (.map es clock)) (h : Instr.findNow (.int .i64) (.int .i64 key) es.toList 0 = some (some (i, v))) :
  (Instr.lookup 247 (.map (some b)) (.int .i64 key) false).run Tryz.prog w = .ok v w := by
 have hk := MapKept.run_checkKey (P := Tryz.prog) (w := w) (k := .int .i64 key) T.u29 (by simp [MapKept.IsKey]) es.isEmpty 9999
 simp [Instr.lookup, run_underlying uMapP, MapKept.run_getObj_map hb, hk, MapKept.run_findKey T.u29 h, Result.andThen]
def entP (k : Int) (f : Nat) (a : Nat) (born : Nat) : MapEntry := ⟨.int .i64 k, .func (Fn.func f) #[] #[.pointer (some ⟨a, 0, none⟩)], born⟩
def kindsP (p : Nat) : Array MapEntry := #[entP 1 246 p 0, entP 2 247 p 1, entP 3 248 p 2, entP 4 245 p 3, entP 5 249 p 4, entP 6 245 p 5]
theorem kindsP_any (w : World) (g : Nat) :
  Calls Tryz.prog 195 #[.agg #[.pointer (some ⟨g, 0, none⟩)]] w fun e w' => e = .returned (.map (some (w.heap.size + 1))) ∧ w'.cell? ⟨w.heap.size, 0, none⟩ = some (.pointer (some ⟨g, 0, none⟩)) ∧ w'.heap[w.heap.size + 1]? = some (.map (kindsP w.heap.size) 6) ∧ Below w.heap.size w w' ∧ w'.heap.size = w.heap.size + 2 := by
 have hmf : ∀ (fn : Fn) (first cap : Array Value) (w : World), (Instr.makeFunc fn first cap).run Tryz.prog w = .ok (.func fn first cap) w := fun _ _ _ _ => rfl
 have hmm := @run_makeMap Tryz.prog
 have k1 := fun (W : World) (v1 : Value) => run_insertP W #[] 0 1 v1 rfl
 have k2 := fun (W : World) (v1 v2 : Value) => run_insertP W #[⟨.int .i64 1, v1, 0⟩] 1 2 v2 rfl
 have k3 := fun (W : World) (v1 v2 v3 : Value) => run_insertP W #[⟨.int .i64 1, v1, 0⟩, ⟨.int .i64 2, v2, 1⟩] 2 3 v3 rfl
 have k4 := fun (W : World) (v1 v2 v3 v4 : Value) => run_insertP W #[⟨.int .i64 1, v1, 0⟩, ⟨.int .i64 2, v2, 1⟩, ⟨.int .i64 3, v3, 2⟩] 3 4 v4 rfl
 have k5 := fun (W : World) (v1 v2 v3 v4 v5 : Value) => run_insertP W #[⟨.int .i64 1, v1, 0⟩, ⟨.int .i64 2, v2, 1⟩, ⟨.int .i64 3, v3, 2⟩, ⟨.int .i64 4, v4, 3⟩] 4 5 v5 rfl
 have k6 := fun (W : World) (v1 v2 v3 v4 v5 v6 : Value) => run_insertP W #[⟨.int .i64 1, v1, 0⟩, ⟨.int .i64 2, v2, 1⟩, ⟨.int .i64 3, v3, 2⟩, ⟨.int .i64 4, v4, 3⟩, ⟨.int .i64 5, v5, 4⟩] 5 6 v6 rfl
 simp only [List.push_toArray, List.cons_append, List.nil_append, Nat.reduceAdd] at k1 k2 k3 k4 k5 k6
 have hA := Lies.new w #[.pointer (some ⟨g, 0, none⟩)] 170
 have hb0 : Below w.heap.size w (w.alloc (.cells #[.pointer (some ⟨g, 0, none⟩)] 170)) := (Below.refl _ _).alloc (Nat.le_refl _) _
 have hz : (w.alloc (.cells #[.pointer (some ⟨g, 0, none⟩)] 170)).heap.size = w.heap.size + 1 := by simp
 go_enter Tryz.func195, Tryz.ntmps195
 go_upto_region 1 with fail
 generalize w.alloc (.cells #[.pointer (some ⟨g, 0, none⟩)] 170) = W0 at *
 have H := Lib.hid (And.intro hA (And.intro hb0 hz))
 clear hA hb0 hz
 go_wp2_with fail
 go_ret
 refine ⟨by rw [H.out.2.2]; rfl, (H.out.1.alloc _).cell 0 rfl, ?_, H.out.2.1.alloc H.out.2.1.size _, by simp [H.out.2.2]⟩
 rw [← H.out.2.2]
 exact (MapKept.heap_alloc _ _).1
end Go.Proofs.YtilbbemdinpjcaaGreat.P
namespace Go.Proofs.YtilbbemdinpjcaaGreat.P
set_option maxRecDepth 100000
open Go.RowKit
def KindP (x : T.Nd) (K : Nat) : Prop :=
 (∀ V b p, V.heap[b]? = some (.map (kindsP p) 6) → (Instr.lookup 247 (.map (some b)) (.int .i64 x.kind) false).run Tryz.prog V = .ok (.func (Fn.func K) #[] #[.pointer (some ⟨p, 0, none⟩)]) V) ∧
 (∀ cap V, (callFunc K cap).run Tryz.prog V = .ok (.enter K cap) V) ∧
 ∀ (w : World) (B g : Nat) (v : Value) (st : Option (List UInt8)) (p : Nat), w.cell? ⟨p, 0, none⟩ = some (.pointer (some ⟨g, 0, none⟩)) → Off w g v p → WrO W.WSt w B g v st → sz st ≤ 800000 → Calls Tryz.prog K #[.agg x.cells, .pointer (some ⟨p, 0, none⟩)] w (PutR W.WSt w B g v (ndT st x))
theorem kindP_at (x : T.Nd) (hk : 1 ≤ x.kind ∧ x.kind ≤ 6) (hi : NdIn x) : ∃ K, KindP x K := by
 unfold KindP
 by_cases e1 : x.kind = 1
 ·
  refine ⟨246, fun V b p hb => ?_, fun cap V => T.callK 246 Tryz.f246 Tryz.func246 (by kernel_rfl) (by kernel_rfl) cap V, fun w B g v st p hp hl h hx => ?_⟩
  ·
   rw [e1]; exact run_foundP V b _ 6 1 0 _ hb rfl
  ·
   have := cl2_any w p x hp hl.lt h (by omega)
   rwa [show ndT st x = W.stepN st (W.low64 x.num) 8 by unfold ndT; rw [if_pos e1]]
 by_cases e2 : x.kind = 2
 ·
  refine ⟨247, fun V b p hb => ?_, fun cap V => T.callK 247 Tryz.f247 Tryz.func247 (by kernel_rfl) (by kernel_rfl) cap V, fun w B g v st p hp hl h hx => ?_⟩
  ·
   rw [e2]; exact run_foundP V b _ 6 2 1 _ hb rfl
  ·
   have := cl3_any w p x hp hl.lt hi.txt h (by omega)
   rwa [show ndT st x = W.stepText st x.txt by unfold ndT; rw [if_neg e1, if_pos e2]]
 by_cases e3 : x.kind = 3
 ·
  refine ⟨248, fun V b p hb => ?_, fun cap V => T.callK 248 Tryz.f248 Tryz.func248 (by kernel_rfl) (by kernel_rfl) cap V, fun w B g v st p hp hl h hx => ?_⟩
  ·
   rw [e3]; exact run_foundP V b _ 6 3 2 _ hb rfl
  ·
   have := cl4_any w p x hp hl.lt hi.bits h (by omega)
   rwa [show ndT st x = W.stepN st x.bits 8 by unfold ndT; rw [if_neg e1, if_neg e2, if_pos e3]]
 by_cases e5 : x.kind = 5
 ·
  refine ⟨249, fun V b p hb => ?_, fun cap V => T.callK 249 Tryz.f249 Tryz.func249 (by kernel_rfl) (by kernel_rfl) cap V, fun w B g v st p hp hl h hx => ?_⟩
  ·
   rw [e5]; exact run_foundP V b _ 6 5 4 _ hb rfl
  ·
   have := cl5_any w p x hp hl h hx
   rwa [show ndT st x = W.stepN (W.stepN st (W.low64 x.num) 4) (W.low64 x.kids) 2 by unfold ndT; rw [if_neg e1, if_neg e2, if_neg e3, if_pos e5]]
 refine ⟨245, fun V b p hb => ?_, fun cap V => T.callK 245 Tryz.f245 Tryz.func245 (by kernel_rfl) (by kernel_rfl) cap V, fun w B g v st p hp hl h hx => ?_⟩
 ·
  by_cases e4 : x.kind = 4
  ·
   rw [e4]; exact run_foundP V b _ 6 4 3 _ hb rfl
  ·
   rw [show x.kind = 6 by omega]; exact run_foundP V b _ 6 6 5 _ hb rfl
 ·
  have := cl1_any w p x hp hl.lt h (by omega)
  rwa [show ndT st x = W.stepN st (W.low64 x.kids) 2 by unfold ndT; rw [if_neg e1, if_neg e2, if_neg e3, if_neg e5]]
theorem cost_le {xs : List T.Nd} {k : Nat} : T.cost (xs.take k) ≤ T.cost xs := by
 conv => rhs; rw [← List.take_append_drop k xs, T.cost_app]
 omega
theorem putterTerm_any (w : World) {B g : Nat} {v : Value} {st : Option (List UInt8)} (a : Option Addr) (nc : Nat) (xs : List T.Nd) (hT : Stays g w v fun W => T.TAt W a xs) (hk : ∀ x ∈ xs, 1 ≤ x.kind ∧ x.kind ≤ 6) (hi : ∀ x ∈ xs, NdIn x) (h : WrO W.WSt w B g v st) (hx : sz st + 26 * T.cost xs ≤ 700000) :
  Calls Tryz.prog 119 #[.agg #[.pointer (some ⟨g, 0, none⟩)], .agg #[.slice a xs.length nc]] w (PutR W.WSt w B g v (termS st xs)) := by
 have hn := hT.now.2.1
 have hA : Lies ((w.alloc (.cells #[.pointer (some ⟨g, 0, none⟩)] 170)).alloc (.cells #[.slice a xs.length nc] 24)) w.heap.size #[.pointer (some ⟨g, 0, none⟩)] 170 := (Lies.new _ _ _).alloc _
 have hB : Lies ((w.alloc (.cells #[.pointer (some ⟨g, 0, none⟩)] 170)).alloc (.cells #[.slice a xs.length nc] 24)) (w.heap.size + 1) #[.slice a xs.length nc] 24 := by
  have := Lies.new (w.alloc (.cells #[.pointer (some ⟨g, 0, none⟩)] 170)) #[.slice a xs.length nc] 24
  simpa using this
 have hb0 : Below w.heap.size w ((w.alloc (.cells #[.pointer (some ⟨g, 0, none⟩)] 170)).alloc (.cells #[.slice a xs.length nc] 24)) := ((Below.refl _ _).alloc (Nat.le_refl _) _).alloc (by simp) _
 have H := Lib.hid (And.intro hT (And.intro hk (And.intro hi (And.intro h hx))))
 have HK := Lib.hid (fun V => kindsP_any V g)
 clear hT hk hi h hx
 go_enter Tryz.func119, Tryz.ntmps119
 go_upto_region 1 with fail
 generalize ((w.alloc (.cells #[.pointer (some ⟨g, 0, none⟩)] 170)).alloc (.cells #[.slice a xs.length nc] 24)) = W0 at hA hB hb0 ⊢
 have c0 := hA.cell 0 (v := .pointer (some ⟨g, 0, none⟩)) rfl
 have c1 := hB.cell 0 (v := .slice a xs.length nc) rfl
 have HA := Lib.hid (And.intro hA (And.intro hB hb0))
 clear hA hB hb0
 go_wp2_with fail
 refine (HK.out _).mono ?_
 rintro e W1 ⟨rfl, l1, l2, hb1, hs1⟩
 clear c0 c1
 have hA1 := HA.out.1.below hb1 HA.out.1.lt
 have hB1 := HA.out.2.1.below hb1 HA.out.2.1.lt
 have c1 := hB1.cell 0 (v := .slice a xs.length nc) rfl
 have hbw1 := HA.out.2.2.trans (hb1.mono HA.out.2.2.size)
 have hW1 := H.out.2.2.2.1.belowW hbw1
 have HW := Lib.hid (And.intro hA1 (And.intro hB1 (And.intro hbw1 (And.intro hW1 (And.intro l1 (And.intro l2 hs1))))))
 have hof : ∀ q, w.heap.size ≤ q → q < W1.heap.size → Off W1 g v q := fun q h1 h2 => H.out.2.2.2.1.off h1 h2
 have HO := Lib.hid hof
 have hsz : w.heap.size ≤ W0.heap.size := HA.out.2.2.size
 have HZ := Lib.hid (And.intro hsz (And.intro HA.out.1.lt HA.out.2.1.lt))
 generalize W0.heap.size = z at hs1 l1 l2 hsz HW HZ ⊢
 clear l1 l2 hb1 hbw1 hA1 hB1 hW1 hs1 hof hsz
 go_wp2_with fail
 go_loopw [12] (fun i Z => ∃ (k : Nat) (u : Value), k ≤ xs.length ∧ i = .int .i64 k ∧ WrO W.WSt Z B g u (termS st (xs.take k)) ∧ Lk g W1 v Z u) (fun i _ => (xs.length - intOf i).toNat)
 case atStart => exact ⟨0, v, by omega, by go_num, HW.out.2.2.2.1, Lk.refl _ _ _⟩
 case round =>
  obtain ⟨k, u, hk, rfl, hwr, hlk⟩ := hrel
  by_cases hlt : k < xs.length
  ·
   have hmem : xs[k] ∈ xs := List.getElem_mem hlt
   obtain ⟨K, hK⟩ := kindP_at xs[k] (H.out.2.1 _ hmem) (H.out.2.2.1 _ hmem)
   have hfull : Lk g w v wr u := (Lk.of_below HW.out.2.2.1).trans hlk
   obtain ⟨gx, off, rfl, hat⟩ := (H.out.1 _ _ hfull).1 (by omega)
   have hxc := hat.2 k hlt
   have hst : termS st (xs.take (k + 1)) = ndT (W.stepN (termS st (xs.take k)) (W.low64 xs[k].kind) 1) xs[k] := termS_take hlt st
   have hs0 := sz_term (xs.take k) st
   have hs1 := cost_le (xs := xs) (k := k)
   have hs2 := sz_N (termS st (xs.take k)) (W.low64 xs[k].kind) 1
   have hxx := H.out.2.2.2.2
   obtain ⟨x, ex⟩ : ∃ x, x = xs[k] := ⟨_, rfl⟩
   rw [← ex] at hK hxc hst hs2
   obtain ⟨k1, n1, b1, t1, d1⟩ := x
   have x0 : wr.cell? ⟨gx, off + k * 5, none⟩ = some (.int .i64 k1) := hxc 0 _ rfl
   have x1 : wr.cell? ⟨gx, off + k * 5 + 1, none⟩ = some (.int .i64 n1) := hxc 1 _ rfl
   have x2 : wr.cell? ⟨gx, off + k * 5 + 2, none⟩ = some (.int .u64 b1) := hxc 2 _ rfl
   have x3 : wr.cell? ⟨gx, off + k * 5 + 3, none⟩ = some (.string t1) := hxc 3 _ rfl
   have x4 : wr.cell? ⟨gx, off + k * 5 + 4, none⟩ = some (.int .i64 d1) := hxc 4 _ rfl
   have q0 : (0 : Int) ≤ (k : Int) := by omega
   have q1 : (k : Int) < (xs.length : Int) := by omega
   have hB := (Lies.new wr #[.int .i64 k1, .int .i64 n1, .int .u64 b1, .string t1, .int .i64 d1] 72)
   have hbA : Below wr.heap.size wr (wr.alloc (.cells #[.int .i64 k1, .int .i64 n1, .int .u64 b1, .string t1, .int .i64 d1] 72)) := (Below.refl _ _).alloc (Nat.le_refl _) _
   have hqq := hwr.off (w' := wr.alloc (.cells #[.int .i64 k1, .int .i64 n1, .int .u64 b1, .string t1, .int .i64 d1] 72)) (Nat.le_refl _) (by simp)
   have p0 := (hlk.cell (o := 0) (HO.out w.heap.size (Nat.le_refl _) (Nat.lt_of_lt_of_le HW.out.1.lt (Nat.le_refl _))).lt (HO.out w.heap.size (Nat.le_refl _) HW.out.1.lt).ne (HO.out w.heap.size (Nat.le_refl _) HW.out.1.lt).own).trans (HW.out.1.cell 0 (v := .pointer (some ⟨g, 0, none⟩)) rfl)
   have HQ := Lib.hid (And.intro hqq (And.intro hs0 (And.intro hs1 (And.intro hs2 (And.intro hxx (And.intro hst hK))))))
   have HRD := Lib.hid (And.intro hwr hlk)
   clear hwr hlk hqq hs0 hs1 hs2 hxx hst hK ex hxc hat hfull hmem
   go_upto_region 5 with fail
   generalize wr.alloc (.cells #[.int .i64 k1, .int .i64 n1, .int .u64 b1, .string t1, .int .i64 d1] 72) = W5 at hB hbA HQ ⊢
   clear x0 x1 x2 x3 x4
   have y0 := hB.cell 0 (v := .int .i64 k1) rfl
   have p5 := (hbA.cell (p := ⟨w.heap.size, 0, none⟩) (HO.out w.heap.size (Nat.le_refl _) HW.out.1.lt |>.on HRD.out.2).lt).trans p0
   have HC1 := Lib.hid (wU8 W5 k1 (HRD.out.1.belowW hbA) (by have := HQ.out; omega))
   have HB5 := Lib.hid (And.intro hbA hB)
   clear hbA hB p0
   go_wp2_with fail
   refine HC1.out.mono ?_
   rintro e W6 ⟨rfl, u6, hw6, hk6⟩
   have hl6 : Lk g W1 v W6 u6 := (HRD.out.2.below HB5.out.1).trans hk6
   have hmp : W6.heap[z + 1]? = some (.map (kindsP z) 6) := by
    have hlt1 := (Array.getElem?_eq_some_iff.1 HW.out.2.2.2.2.2.1).1
    have ho := HO.out (z + 1) (by have := HZ.out.1; omega) hlt1
    exact (hl6.block hlt1 ho.ne ho.own).trans HW.out.2.2.2.2.2.1
   have hzl : z < W1.heap.size := by have := HW.out.2.2.2.2.2.2; omega
   have hoz := HO.out z HZ.out.1 hzl
   have hpz := (hl6.cell (o := 0) hoz.lt hoz.ne hoz.own).trans HW.out.2.2.2.2.1
   have hlk6 := HQ.out.2.2.2.2.2.2.1 W6 (z + 1) z hmp
   have hcf := HQ.out.2.2.2.2.2.2.2.1
   have hq6 := HQ.out.1
   have hb6 := hk6.lies HB5.out.2 hq6.ne hq6.own
   have y0 := hb6.cell 0 (v := .int .i64 k1) rfl
   have y1 := hb6.cell 1 (v := .int .i64 n1) rfl
   have y2 := hb6.cell 2 (v := .int .u64 b1) rfl
   have y3 := hb6.cell 3 (v := .string t1) rfl
   have y4 := hb6.cell 4 (v := .int .i64 d1) rfl
   have HC2 := Lib.hid (HQ.out.2.2.2.2.2.2.2.2 W6 B g u6 _ z hpz (hoz.on hl6) hw6 (by have := HQ.out; omega))
   have HL6 := Lib.hid hl6
   clear hw6 hk6 hl6 hmp hzl hoz hpz hq6 hb6 HC1 p5
   dsimp only at hlk6
   unfold T.Nd.cells at HC2
   go_wp2_with fail
   refine HC2.out.mono ?_
   rintro e W7 ⟨rfl, u7, hw7, hk7⟩
   have HN := Lib.hid (And.intro hw7 (HL6.out.trans hk7))
   clear hw7 hk7 hlk6 y0 y1 y2 y3 y4 HC2
   go_wp2_with fail
   go_roundw
   case rel => exact ⟨k + 1, u7, by omega, by go_num, by rw [HQ.out.2.2.2.2.2.1]; exact HN.out.1, HN.out.2⟩
   case measure => simp [intOf]; omega
  ·
   have hke : k = xs.length := by omega
   have HN := Lib.hid (And.intro hwr hlk)
   clear hwr hlk
   go_wp2_with fail
   go_end0
   have hw := HN.out.1
   rw [hke, List.take_of_length_le (Nat.le_refl _)] at hw
   exact PutR.end_ hw ((Lk.of_below HW.out.2.2.1).trans HN.out.2)
end Go.Proofs.YtilbbemdinpjcaaGreat.P
namespace Go.Proofs.YtilbbemdinpjcaaGreat.P
set_option maxRecDepth 100000
open Go.RowKit
theorem right_kinds {xs : List T.Nd} (h : T.rightB xs = true) : ∀ x ∈ xs, 1 ≤ x.kind ∧ x.kind ≤ 6 := by
 intro x hx
 unfold T.rightB T.fitsB at h
 simp only [Bool.and_eq_true] at h
 obtain ⟨i, hi, rfl⟩ := List.mem_iff_getElem.1 hx
 have hk := (T.kindsB_iff.1 h.2.2.2) i hi
 unfold T.kindB at hk
 split at hk
 ·
  omega
 ·
  split at hk
  ·
   omega
  ·
   split at hk
   ·
    omega
   ·
    split at hk
    ·
     omega
    ·
     split at hk
     ·
      omega
     ·
      split at hk
      ·
       omega
      ·
       cases hk
theorem putTermG_any (w : World) {B g : Nat} {v : Value} {st : Option (List UInt8)} (a : Option Addr) (nc : Nat) (xs : List T.Nd) (hT : Stays g w v fun W => T.TAt W a xs) (hc : xs.length ≤ nc) (hi : ∀ x ∈ xs, NdIn x) (h : WrO W.WSt w B g v st) (hx : sz st + 26 * T.cost xs ≤ 700000) :
    Calls Tryz.prog 117 #[.pointer (some ⟨g, 0, none⟩), .agg #[.slice a xs.length nc], .func (Fn.func 118) #[] #[], .func (Fn.func 119) #[] #[]] w (PutR W.WSt w B g v (if T.rightB xs then termS st xs else none)) := by
  obtain ⟨r, hr⟩ : ∃ r, r = T.rightB xs := ⟨_, rfl⟩
  have hA := Lies.new w #[.slice a xs.length nc] 24
  have hb : Below w.heap.size w (w.alloc (.cells #[.slice a xs.length nc] 24)) := (Below.refl _ _).alloc (Nat.le_refl _) _
  have hf1 := T.callK 118 Tryz.f118 Tryz.func118 (by kernel_rfl) (by kernel_rfl)
  have hf2 := T.callK 119 Tryz.f119 Tryz.func119 (by kernel_rfl) (by kernel_rfl)
  have hk : r = true → ∀ x ∈ xs, 1 ≤ x.kind ∧ x.kind ≤ 6 := fun e => right_kinds (hr ▸ e)
  have hR : ∀ W, T.TAt W a xs → Calls Tryz.prog 118 #[.agg #[.slice a xs.length nc]] W fun e w' => e = .returned (.bool r) ∧ Below W.heap.size W w' := fun W hW => by rw [hr]; exact T.rightT_any W a nc xs hW hc
  have HR := Lib.hid (hR _ ((hT.on (Lk.of_below hb)).now))
  obtain ⟨s2, hs2⟩ : ∃ s, s = (if r then termS st xs else none) := ⟨_, rfl⟩
  rw [← hr, ← hs2]
  have H := Lib.hid (And.intro hT (And.intro hi (And.intro h (And.intro hx (And.intro hr hk)))))
  have HS := Lib.hid hs2
  clear hT hi h hx hr hk hR hc hs2
  go_enter Tryz.func117, Tryz.ntmps117
  go_upto_region 1 with fail
  generalize w.alloc (.cells #[.slice a xs.length nc] 24) = W0 at hA hb HR ⊢
  have c0 := hA.cell 0 (v := .slice a xs.length nc) rfl
  have HB := Lib.hid (And.intro hb hA)
  clear hA hb
  go_wp2_with fail
  refine HR.out.mono ?_
  rintro e W1 ⟨rfl, hb1⟩
  have hbw := HB.out.1.trans (hb1.mono HB.out.1.size)
  have hw1 := H.out.2.2.1.belowW hbw
  have hA1 := HB.out.2.below hb1 HB.out.2.lt
  have hT1 := H.out.1.on (Lk.of_below hbw)
  clear c0 hb1 HR
  cases r with
  | true =>
    have c0 := hA1.cell 0 (v := .slice a xs.length nc) rfl
    have HC := Lib.hid (putterTerm_any W1 a nc xs hT1 (H.out.2.2.2.2.2 rfl) H.out.2.1 hw1 H.out.2.2.2.1)
    have HW := Lib.hid hbw
    clear hbw hw1 hA1 hT1
    go_wp2_with fail
    refine HC.out.mono ?_
    rintro e W2 hr2
    obtain ⟨rfl, hr2⟩ := hr2
    have HE := Lib.hid hr2
    clear hr2 c0 HC
    go_wp2_with fail
    go_end0
    rw [HS.out]
    exact PutR.after HW.out ⟨rfl, HE.out⟩
  | false =>
    have HC := Lib.hid (wSpoil W1 hw1)
    have HW := Lib.hid hbw
    clear hbw hw1 hA1 hT1
    go_wp2_with fail
    refine HC.out.mono ?_
    rintro e W2 hr2
    obtain ⟨rfl, hr2⟩ := hr2
    have HE := Lib.hid hr2
    clear hr2 HC
    go_wp2_with fail
    first
      | go_end0
      | refine bodyPost_ret (results_none rfl _ _ _) rfl ?_
    rw [HS.out]
    exact PutR.after HW.out ⟨rfl, HE.out⟩
theorem putTerm_any (w : World) {B g : Nat} {v : Value} {st : Option (List UInt8)} (a : Option Addr) (nc : Nat) (xs : List T.Nd) (hT : Stays g w v fun W => T.TAt W a xs) (hc : xs.length ≤ nc) (hi : ∀ x ∈ xs, NdIn x) (h : WrO W.WSt w B g v st) (hx : sz st + 26 * T.cost xs ≤ 700000) :
  Calls Tryz.prog 47 #[.pointer (some ⟨g, 0, none⟩), .agg #[.slice a xs.length nc]] w (PutR W.WSt w B g v (if T.rightB xs then termS st xs else none)) := by
 have hA := Lies.new w #[.slice a xs.length nc] 24
 have hb : Below w.heap.size w (w.alloc (.cells #[.slice a xs.length nc] 24)) := (Below.refl _ _).alloc (Nat.le_refl _) _
 obtain ⟨s2, hs2⟩ : ∃ s, s = (if T.rightB xs then termS st xs else none) := ⟨_, rfl⟩
 have hC := putTermG_any _ a nc xs (hT.on (Lk.of_below hb)) hc hi (h.belowW hb) hx
 rw [← hs2] at hC ⊢
 have HC := Lib.hid hC
 clear hT hi h hx hs2 hC hc
 go_enter Tryz.func47, Tryz.ntmps47
 go_upto_region 1 with fail
 generalize w.alloc (.cells #[.slice a xs.length nc] 24) = W0 at hA hb HC ⊢
 have c0 := hA.cell 0 (v := .slice a xs.length nc) rfl
 have HB := Lib.hid hb
 clear hA hb
 go_wp2_with fail
 refine HC.out.mono ?_
 rintro e W2 hr2
 obtain ⟨rfl, hr2⟩ := hr2
 have HE := Lib.hid hr2
 clear hr2 HC
 go_wp2_with fail
 go_end0
 exact PutR.after HB.out ⟨rfl, HE.out⟩
end Go.Proofs.YtilbbemdinpjcaaGreat.P
