/-
  append(append([]Node{}, xs...), n) into a fresh box, in whatever order.
-/
import Derived.Test.YtilbbemdinpjcaaGreatJPx
import Derived.Test.YtilbbemdinpjcaaGreatJTLreals
namespace Go.Proofs.YtilbbemdinpjcaaGreat.P
set_option maxRecDepth 100000
open Go.RowKit Go.Sort

theorem wpOp_storeRow {P : Program} {ops : Array Oper} {Q : Exit → Act → World → Prop} {i : Nat} {o : Oper} {a : Act} {w : World} {K : Act → World → Prop} (hi : ops[i]? = some o) (hg : o.guard = none) (hd : o.dst = none) (ty : TypeId) (x y : Operand) (ho : o.op = .store ty x y)
    (g : Nat) (cells : Array Value) (hx : a.eval x = .pointer (some ⟨g, 0, none⟩)) (hy : a.eval y = .agg cells) (t : TypeId) (old : Array Value) (hgg : w.heap[g]? = some (.cells old t (0, 0))) (hii : (P.info? ty).map (·.size) = some cells.size)
    (hold : old.size = cells.size) (h1 : cells.all (·.oneCell') = true) (h : K a (w.setRow g cells)) : wpOp P ops Q i K a w := by
  refine W.wpOp_wp hi hg (wp_store_row ty x y ho g cells hx hy t old hgg hii hold h1 ?_)
  rw [hd]
  exact h
set_option maxHeartbeats 4000000 in
theorem gc5_any (w : World) (g k : Nat) (xs : List UInt8) (c : Nat) (st : Option Nat) (p : Nat) (hp : w.cell? ⟨p, 0, none⟩ = some (.pointer (some ⟨g, 0, none⟩))) (hl : p < w.heap.size) (hpg : p ≠ g) (h : W.RSt w g k xs c st) :
    Calls Tryz.prog 257 #[.pointer (some ⟨p, 0, none⟩)] w (GotR g k xs c w (.agg #[.int .i64 0, .int .i64 (W.numV xs st 4), .int .u64 0, .string ⟨#[]⟩, .int .i64 (W.numV xs (W.numS xs st 4) 2)]) (W.numS xs (W.numS xs st 4) 2)) := by
  have hA := Lies.new w zNode 72
  have hb : Below w.heap.size w (w.alloc (.cells zNode 72)) := (Below.refl _ _).alloc (Nat.le_refl _) _
  have H := Lib.hid (And.intro h (And.intro hp (And.intro hl hpg)))
  clear h hp hl hpg
  unfold zNode at hA hb
  obtain ⟨nv, hnv⟩ : ∃ n, n = W.numV xs st 4 := ⟨_, rfl⟩
  obtain ⟨mv, hmv⟩ : ∃ n, n = W.numV xs (W.numS xs st 4) 2 := ⟨_, rfl⟩
  have HV := Lib.hid (And.intro hnv hmv)
  rw [← hnv, ← hmv]
  clear hnv hmv
  go_enter Tryz.func257, Tryz.ntmps257
  go_upto_region 1 with fail
  generalize w.alloc (.cells #[.int .i64 0, .int .i64 0, .int .u64 0, .string ⟨#[]⟩, .int .i64 0] 72) = W0 at hA hb ⊢
  obtain ⟨q, hq⟩ : ∃ q, q = w.heap.size := ⟨_, rfl⟩
  rw [← hq] at hA ⊢
  have hqg : q ≠ g := by have := H.out.1.lt; omega
  have cp := (hb.cell (p := ⟨p, 0, none⟩) H.out.2.2.1).trans H.out.2.1
  have hpl : p < W0.heap.size := Nat.lt_of_lt_of_le H.out.2.2.1 hb.size
  have HB := Lib.hid (And.intro hb (And.intro hA (And.intro hqg (And.intro hq (And.intro hpl cp)))))
  clear hA hb hqg hq cp hpl
  refine wp_region_held (S := fun V => V.cell? ⟨p, 0, none⟩ = some (.pointer (some ⟨g, 0, none⟩))) (by kernel_rfl) ?_
  change wpAnyH _ _ _ _ _ 8 _ _ (World.drew W0)
  have hcur : (World.drew W0).cell? ⟨p, 0, none⟩ = some (.pointer (some ⟨g, 0, none⟩)) := HB.out.2.2.2.2.2
  have hd : Below W0.heap.size W0 W0.drew := (Below.refl _ _).drew
  refine tk 0 (.pointer (some ⟨p, 0, none⟩)) 2 rfl rfl hcur ?_
  refine tk 1 (.pointer (some ⟨g, 0, none⟩)) 3 rfl rfl hcur ?_ (by intro w' hS'; unfold execOp; simp [go_sem, hS'])
  refine tk 3 (.pointer (some ⟨p, 0, none⟩)) 5 rfl rfl hcur ?_
  refine tk 4 (.pointer (some ⟨g, 0, none⟩)) 6 rfl rfl hcur ?_ (by intro w' hS'; unfold execOp; simp [go_sem, hS'])
  have hrs := H.out.1.below (HB.out.1.trans (hd.mono HB.out.1.size))
  generalize W0.drew = V0 at hcur hd hrs ⊢
  refine held_one (i := 2) (by kernel_rfl) _ rfl (wpOp_callG rfl (by rfl) 4 rfl 224 #[.pointer (some ⟨g, 0, none⟩)] (by unfold execOp; simp [go_sem]) (fun v w' => v = .int .i64 (nv : Int) ∧ W.RSt w' g k xs c (W.numS xs st 4) ∧ W.Only g V0 w' none) ((W.ask54_st V0 g k xs c st hrs).mono fun e w' k => ⟨_, k.1, by rw [HV.out.1], k.2.1, k.2.2⟩) ?_)
  rintro _ U1 ⟨rfl, hr1, ho1⟩
  have hcur := (onlyCell ho1 (Nat.lt_of_lt_of_le HB.out.2.2.2.2.1 hd.size) H.out.2.2.2).trans hcur
  refine ⟨hcur, ?_⟩
  simp only [Act.put, List.setIfInBounds_toArray, List.set_cons_zero, List.set_cons_succ]
  refine held_one (i := 5) (by kernel_rfl) _ rfl (wpOp_callG rfl (by rfl) 7 rfl 251 #[.pointer (some ⟨g, 0, none⟩)] (by unfold execOp; simp [go_sem]) (fun v w' => v = .int .i64 (mv : Int) ∧ W.RSt w' g k xs c (W.numS xs (W.numS xs st 4) 2) ∧ W.Only g U1 w' none) ((W.ask53_st U1 g k xs c _ hr1).mono fun e w' k => ⟨_, k.1, by rw [HV.out.2], k.2.1, k.2.2⟩) ?_)
  rintro _ U2 ⟨rfl, hr2, ho2⟩
  have hcur := (onlyCell ho2 (Nat.lt_of_lt_of_le (Nat.lt_of_lt_of_le HB.out.2.2.2.2.1 hd.size) ho1.size) H.out.2.2.2).trans hcur
  refine ⟨hcur, ?_⟩
  simp only [Act.put, List.setIfInBounds_toArray, List.set_cons_zero, List.set_cons_succ]
  refine tk 6 (.agg #[.int .i64 0, .int .i64 (nv : Int), .int .u64 0, .string ⟨#[]⟩, .int .i64 (mv : Int)]) 8 rfl rfl hcur ?_
  have hoo : W.Only g W0 U2 none := (W.only_below hd).trans0 (ho1.trans0 ho2)
  have hA2 := hoo.lies HB.out.2.1 HB.out.2.2.1
  refine held_one (i := 7) (by kernel_rfl) _ rfl (wpOp_storeRow rfl rfl rfl 72 (.tmp 1) (.tmp 8) rfl q #[.int .i64 0, .int .i64 (nv : Int), .int .u64 0, .string ⟨#[]⟩, .int .i64 (mv : Int)] rfl rfl 72 _ hA2 info_node rfl (by simp [Value.oneCell']) ?_)
  have hpq : p ≠ q := by rw [HB.out.2.2.2.1]; have := H.out.2.2.1; omega
  refine ⟨by rw [show (U2.setRow q #[.int .i64 0, .int .i64 (nv : Int), .int .u64 0, .string ⟨#[]⟩, .int .i64 (mv : Int)]).cell? ⟨p, 0, none⟩ = U2.cell? ⟨p, 0, none⟩ by simp only [World.cell?]; rw [setRow_other _ _ _ _ (by omega)]]; exact hcur, ?_⟩
  refine held_done (by kernel_rfl) ?_
  have HR := Lib.hid (And.intro hr2 (And.intro hoo hA2))
  clear hcur hd hrs hr1 ho1 hr2 ho2 hoo hA2
  go_wp2_with fail
  exact bodyPost_ret (v := .agg #[.int .i64 0, .int .i64 (nv : Int), .int .u64 0, .string ⟨#[]⟩, .int .i64 (mv : Int)]) (results_cell_row (p := 1) (ty := 72) (by kernel_rfl) _ _ q 72 #[.int .i64 0, .int .i64 (nv : Int), .int .u64 0, .string ⟨#[]⟩, .int .i64 (mv : Int)] (0, 0) _ rfl (HR.out.2.2.setRow _) Tryz.underlying72 rfl info_node) rfl (got_row HB.out.1 HB.out.2.2.1 (by rw [HB.out.2.2.2.1]; exact Nat.le_refl _) (H.out.1.lt) HR.out.1 HR.out.2.1)
theorem uMapG : Tryz.prog.underlying 250 = some (.map 67 252) := by kernel_rfl
theorem run_insertG (w : World) (es : Array MapEntry) (clock : Nat) (key : Int) (v : Value) (h : Instr.findNow (.int .i64) (.int .i64 key) es.toList 0 = some none) :
    (Instr.mapUpdate 250 (.map (some w.heap.size)) (.int .i64 key) v).run Tryz.prog (w.alloc (.map es clock)) = .ok () (w.alloc (.map (es.push ⟨.int .i64 key, v, clock⟩) (clock + 1))) := by
  have hb : (w.alloc (.map es clock)).heap[w.heap.size]? = some (.map es clock) := (MapKept.heap_alloc w _).1
  have hk := MapKept.run_checkKey (P := Tryz.prog) (w := w.alloc (.map es clock)) (k := .int .i64 key) T.u29 (by simp [MapKept.IsKey]) false 9999
  simp [Instr.mapUpdate, run_underlying uMapG, MapKept.run_getObj_map hb, hk, MapKept.run_findKey T.u29 h, MapKept.run_setObj_map _ hb, Result.andThen]
  simp [World.alloc, -World.alloc_eq, T.push_set]
theorem run_foundG (w : World) (b : Nat) (es : Array MapEntry) (clock : Nat) (key : Int) (i : Nat) (v : Value) (hb : w.heap[b]? = some (.map es clock)) (h : Instr.findNow (.int .i64) (.int .i64 key) es.toList 0 = some (some (i, v))) :
    (Instr.lookup 250 (.map (some b)) (.int .i64 key) false).run Tryz.prog w = .ok v w := by
  have hk := MapKept.run_checkKey (P := Tryz.prog) (w := w) (k := .int .i64 key) T.u29 (by simp [MapKept.IsKey]) es.isEmpty 9999
  simp [Instr.lookup, run_underlying uMapG, MapKept.run_getObj_map hb, hk, MapKept.run_findKey T.u29 h, Result.andThen]
theorem run_missedG (w : World) (b : Nat) (es : Array MapEntry) (clock : Nat) (key : Int) (hb : w.heap[b]? = some (.map es clock)) (h : Instr.findNow (.int .i64) (.int .i64 key) es.toList 0 = some none) :
    (Instr.lookup 250 (.map (some b)) (.int .i64 key) false).run Tryz.prog w = .ok .nilFunc w := by
  have hk := MapKept.run_checkKey (P := Tryz.prog) (w := w) (k := .int .i64 key) T.u29 (by simp [MapKept.IsKey]) es.isEmpty 9999
  simp [Instr.lookup, run_underlying uMapG, MapKept.run_getObj_map hb, hk, MapKept.run_findKey T.u29 h, Result.andThen]
/-- The getter's map of kinds; p: the getter's box. -/
def kindsG (p : Nat) : Array MapEntry := #[entP 1 252 p 0, entP 2 253 p 1, entP 3 255 p 2, entP 4 250 p 3, entP 5 257 p 4, entP 6 250 p 5]
set_option maxHeartbeats 1000000 in
theorem kindsG_any (w : World) (g : Nat) :
    Calls Tryz.prog 199 #[.agg #[.pointer (some ⟨g, 0, none⟩)]] w fun e w' => e = .returned (.map (some (w.heap.size + 1))) ∧ w'.cell? ⟨w.heap.size, 0, none⟩ = some (.pointer (some ⟨g, 0, none⟩)) ∧ w'.heap[w.heap.size + 1]? = some (.map (kindsG w.heap.size) 6) ∧ Below w.heap.size w w' ∧ w'.heap.size = w.heap.size + 2 := by
  have hmf : ∀ (fn : Fn) (first cap : Array Value) (w : World), (Instr.makeFunc fn first cap).run Tryz.prog w = .ok (.func fn first cap) w := fun _ _ _ _ => rfl
  have hmm := @run_makeMap Tryz.prog
  have k1 := fun (W : World) (v1 : Value) => run_insertG W #[] 0 1 v1 rfl
  have k2 := fun (W : World) (v1 v2 : Value) => run_insertG W #[⟨.int .i64 1, v1, 0⟩] 1 2 v2 rfl
  have k3 := fun (W : World) (v1 v2 v3 : Value) => run_insertG W #[⟨.int .i64 1, v1, 0⟩, ⟨.int .i64 2, v2, 1⟩] 2 3 v3 rfl
  have k4 := fun (W : World) (v1 v2 v3 v4 : Value) => run_insertG W #[⟨.int .i64 1, v1, 0⟩, ⟨.int .i64 2, v2, 1⟩, ⟨.int .i64 3, v3, 2⟩] 3 4 v4 rfl
  have k5 := fun (W : World) (v1 v2 v3 v4 v5 : Value) => run_insertG W #[⟨.int .i64 1, v1, 0⟩, ⟨.int .i64 2, v2, 1⟩, ⟨.int .i64 3, v3, 2⟩, ⟨.int .i64 4, v4, 3⟩] 4 5 v5 rfl
  have k6 := fun (W : World) (v1 v2 v3 v4 v5 v6 : Value) => run_insertG W #[⟨.int .i64 1, v1, 0⟩, ⟨.int .i64 2, v2, 1⟩, ⟨.int .i64 3, v3, 2⟩, ⟨.int .i64 4, v4, 3⟩, ⟨.int .i64 5, v5, 4⟩] 5 6 v6 rfl
  simp only [List.push_toArray, List.cons_append, List.nil_append, Nat.reduceAdd] at k1 k2 k3 k4 k5 k6
  have hA := Lies.new w #[.pointer (some ⟨g, 0, none⟩)] 174
  have hb0 : Below w.heap.size w (w.alloc (.cells #[.pointer (some ⟨g, 0, none⟩)] 174)) := (Below.refl _ _).alloc (Nat.le_refl _) _
  have hz : (w.alloc (.cells #[.pointer (some ⟨g, 0, none⟩)] 174)).heap.size = w.heap.size + 1 := by simp
  go_enter Tryz.func199, Tryz.ntmps199
  go_upto_region 1 with fail
  generalize w.alloc (.cells #[.pointer (some ⟨g, 0, none⟩)] 174) = W0 at *
  have H := Lib.hid (And.intro hA (And.intro hb0 hz))
  clear hA hb0 hz
  go_wp2_with fail
  go_ret
  refine ⟨by rw [H.out.2.2]; rfl, (H.out.1.alloc _).cell 0 rfl, ?_, H.out.2.1.alloc H.out.2.1.size _, by simp [H.out.2.2]⟩
  rw [← H.out.2.2]
  exact (MapKept.heap_alloc _ _).1
theorem sound_any (w : World) (g k : Nat) (xs : List UInt8) (c : Nat) (st : Option Nat) (h : W.RSt w g k xs c st) :
    Calls Tryz.prog 198 #[.agg #[.pointer (some ⟨g, 0, none⟩)]] w fun e w' => e = .returned (.bool st.isSome) ∧ Below w.heap.size w w' := by
  have hA := Lies.new w #[.pointer (some ⟨g, 0, none⟩)] 174
  have hb : Below w.heap.size w (w.alloc (.cells #[.pointer (some ⟨g, 0, none⟩)] 174)) := (Below.refl _ _).alloc (Nat.le_refl _) _
  have hr := h.below hb
  obtain ⟨b, hbb⟩ : ∃ b, b = st.isSome := ⟨_, rfl⟩
  have he : W.errV st = if b then 0 else 4 := by rw [hbb]; cases st <;> rfl
  rw [← hbb]
  clear h hbb
  go_enter Tryz.func198, Tryz.ntmps198
  go_upto_region 1 with fail
  generalize w.alloc (.cells #[.pointer (some ⟨g, 0, none⟩)] 174) = W0 at hA hb hr ⊢
  have c0 := hA.cell 0 (v := .pointer (some ⟨g, 0, none⟩)) rfl
  have HC := Lib.hid (W.err_rst W0 g k xs c st hr)
  rw [he] at HC
  have HB := Lib.hid hb
  clear hA hb hr he
  cases b with
  | true =>
    simp only [if_true] at HC
    go_wp2_with fail
    refine HC.out.mono ?_
    rintro e w1 ⟨rfl, rfl⟩
    clear HC
    go_wp2_with fail
    go_ret
    exact ⟨rfl, HB.out⟩
  | false =>
    simp only [Bool.false_eq_true, if_false] at HC
    go_wp2_with fail
    refine HC.out.mono ?_
    rintro e w1 ⟨rfl, rfl⟩
    clear HC
    go_wp2_with fail
    go_ret
    exact ⟨rfl, HB.out⟩
end Go.Proofs.YtilbbemdinpjcaaGreat.P
namespace Go.Proofs.YtilbbemdinpjcaaGreat.P
set_option maxRecDepth 100000
open Go.RowKit

/-- A node of a kind, as the bytes tell it behind its kind. -/
def ndV (xs : List UInt8) (st : Option Nat) (kd : Int) : T.Nd :=
  if kd = 1 then ⟨kd, IntKind.i64.wrap (W.numV xs st 8), 0, ⟨#[]⟩, 0⟩
  else if kd = 2 then ⟨kd, 0, 0, ⟨(W.textV xs st 200).toArray⟩, 0⟩
  else if kd = 3 then ⟨kd, 0, W.numV xs st 8, ⟨#[]⟩, 0⟩
  else if kd = 5 then ⟨kd, W.numV xs st 4, 0, ⟨#[]⟩, W.numV xs (W.numS xs st 4) 2⟩
  else ⟨kd, 0, 0, ⟨#[]⟩, W.numV xs st 2⟩
def ndP (xs : List UInt8) (st : Option Nat) (kd : Int) : Option Nat :=
  if kd = 1 then W.numS xs st 8
  else if kd = 2 then W.textS xs st 200
  else if kd = 3 then W.numS xs st 8
  else if kd = 5 then W.numS xs (W.numS xs st 4) 2
  else W.numS xs st 2
def kindIn (kd : Int) : Bool := decide (1 ≤ kd) && decide (kd ≤ 6)
/-- So many nodes at most, so many kids yet to come: the nodes, and where the reader stands. -/
def decT (xs : List UInt8) : Nat → Nat → List T.Nd → Option Nat → Option (List T.Nd × Nat)
  | _, 0, acc, st => st.map fun p => (acc, p)
  | 0, _ + 1, _, _ => none
  | f + 1, l + 1, acc, st => if kindIn (W.numV xs st 1) then decT xs f (l + (ndV xs (W.numS xs st 1) (W.numV xs st 1)).kids.toNat) (acc ++ [ndV xs (W.numS xs st 1) (W.numV xs st 1)]) (ndP xs (W.numS xs st 1) (W.numV xs st 1)) else none
theorem numV_two (xs : List UInt8) (st : Option Nat) : W.numV xs st 2 < 65536 := by have := W.numV_lt xs st 2; omega
theorem numV_four (xs : List UInt8) (st : Option Nat) : W.numV xs st 4 < 4294967296 := by have := W.numV_lt xs st 4; omega
theorem numV_eight (xs : List UInt8) (st : Option Nat) : W.numV xs st 8 < 18446744073709551616 := by have := W.numV_lt xs st 8; omega
theorem numV_byte (xs : List UInt8) (st : Option Nat) : W.numV xs st 1 < 256 := by have := W.numV_lt xs st 1; omega
theorem textV_len (xs : List UInt8) (st : Option Nat) (m : Nat) : (W.textV xs st m).length ≤ m := by
  cases st with
  | none => exact Nat.zero_le _
  | some a =>
    simp only [W.textV]
    split
    · rename_i h
      have := h.2.1
      rw [List.length_take]
      omega
    · exact Nat.zero_le _
theorem ndV_kids (xs : List UInt8) (st : Option Nat) (kd : Int) : 0 ≤ (ndV xs st kd).kids ∧ (ndV xs st kd).kids < 65536 := by
  have h1 := numV_two xs st
  have h2 := numV_two xs (W.numS xs st 4)
  unfold ndV
  repeat' split
  all_goals (simp only; omega)
theorem ndV_in (xs : List UInt8) (st : Option Nat) (kd : Int) (hk : kindIn kd = true) : NdIn (ndV xs st kd) := by
  unfold kindIn at hk
  rw [Bool.and_eq_true, decide_eq_true_iff, decide_eq_true_iff] at hk
  have h1 := ndV_kids xs st kd
  have h4 := numV_four xs st
  have h8 := numV_eight xs st
  have ht := textV_len xs st 200
  refine ⟨?_, ?_, ?_, ?_, ⟨by omega, by omega⟩⟩
  · unfold ndV I64
    repeat' split
    all_goals (simp only; omega)
  · unfold ndV I64
    repeat' split
    all_goals simp only
    · rw [IntKind.wrap_i64]; omega
    all_goals omega
  · unfold ndV
    repeat' split
    all_goals (simp only; omega)
  · unfold ndV
    repeat' split
    all_goals simp only
    all_goals first
      | (show (#[] : Array UInt8).size ≤ _; simp; done)
      | (show (W.textV xs st 200).toArray.size ≤ _
         rw [List.size_toArray]
         exact Nat.le_trans ht (by decide))
/-- What a closure hands back: the kind is put in behind it. -/
def restC (x : T.Nd) : Array Value := #[.int .i64 0, .int .i64 x.num, .int .u64 x.bits, .string x.txt, .int .i64 x.kids]
def KindG (kd : Int) (K : Nat) : Prop :=
  (∀ V b p, V.heap[b]? = some (.map (kindsG p) 6) → (Instr.lookup 250 (.map (some b)) (.int .i64 kd) false).run Tryz.prog V = .ok (.func (Fn.func K) #[] #[.pointer (some ⟨p, 0, none⟩)]) V) ∧
  (∀ cap V, (callFunc K cap).run Tryz.prog V = .ok (.enter K cap) V) ∧
  ∀ (w : World) (g k : Nat) (xs : List UInt8) (c : Nat) (st : Option Nat) (p : Nat), w.cell? ⟨p, 0, none⟩ = some (.pointer (some ⟨g, 0, none⟩)) → p < w.heap.size → p ≠ g → W.RSt w g k xs c st → Calls Tryz.prog K #[.pointer (some ⟨p, 0, none⟩)] w (GotR g k xs c w (.agg (restC (ndV xs st kd))) (ndP xs st kd))
theorem kindG_at (kd : Int) (hk : kindIn kd = true) : ∃ K, KindG kd K := by
  unfold kindIn at hk
  rw [Bool.and_eq_true, decide_eq_true_iff, decide_eq_true_iff] at hk
  unfold KindG
  by_cases e1 : kd = 1
  · refine ⟨252, fun V b p hb => ?_, fun cap V => T.callK 252 Tryz.f252 Tryz.func252 (by kernel_rfl) (by kernel_rfl) cap V, fun w g k xs c st p hp hl _ h => ?_⟩
    · rw [e1]; exact run_foundG V b _ 6 1 0 _ hb rfl
    · have := gc2_any w g k xs c st p hp hl h
      unfold ndV ndP
      rw [if_pos e1, if_pos e1]
      exact this
  by_cases e2 : kd = 2
  · refine ⟨253, fun V b p hb => ?_, fun cap V => T.callK 253 Tryz.f253 Tryz.func253 (by kernel_rfl) (by kernel_rfl) cap V, fun w g k xs c st p hp hl _ h => ?_⟩
    · rw [e2]; exact run_foundG V b _ 6 2 1 _ hb rfl
    · have := gc3_any w g k xs c st p hp hl h
      unfold ndV ndP
      rw [if_neg e1, if_pos e2, if_neg e1, if_pos e2]
      exact this
  by_cases e3 : kd = 3
  · refine ⟨255, fun V b p hb => ?_, fun cap V => T.callK 255 Tryz.f255 Tryz.func255 (by kernel_rfl) (by kernel_rfl) cap V, fun w g k xs c st p hp hl _ h => ?_⟩
    · rw [e3]; exact run_foundG V b _ 6 3 2 _ hb rfl
    · have := gc4_any w g k xs c st p hp hl h
      unfold ndV ndP
      rw [if_neg e1, if_neg e2, if_pos e3, if_neg e1, if_neg e2, if_pos e3]
      exact this
  by_cases e5 : kd = 5
  · refine ⟨257, fun V b p hb => ?_, fun cap V => T.callK 257 Tryz.f257 Tryz.func257 (by kernel_rfl) (by kernel_rfl) cap V, fun w g k xs c st p hp hl hpg h => ?_⟩
    · rw [e5]; exact run_foundG V b _ 6 5 4 _ hb rfl
    · have := gc5_any w g k xs c st p hp hl hpg h
      unfold ndV ndP
      rw [if_neg e1, if_neg e2, if_neg e3, if_pos e5, if_neg e1, if_neg e2, if_neg e3, if_pos e5]
      exact this
  refine ⟨250, fun V b p hb => ?_, fun cap V => T.callK 250 Tryz.f250 Tryz.func250 (by kernel_rfl) (by kernel_rfl) cap V, fun w g k xs c st p hp hl _ h => ?_⟩
  · by_cases e4 : kd = 4
    · rw [e4]; exact run_foundG V b _ 6 4 3 _ hb rfl
    · rw [show kd = 6 by omega]; exact run_foundG V b _ 6 6 5 _ hb rfl
  · have := gc1_any w g k xs c st p hp hl h
    unfold ndV ndP
    rw [if_neg e1, if_neg e2, if_neg e3, if_neg e5, if_neg e1, if_neg e2, if_neg e3, if_neg e5]
    exact this
theorem kindG_no (kd : Int) (hk : kindIn kd = false) (V : World) (b p : Nat) (hb : V.heap[b]? = some (.map (kindsG p) 6)) : (Instr.lookup 250 (.map (some b)) (.int .i64 kd) false).run Tryz.prog V = .ok .nilFunc V := by
  refine run_missedG V b _ 6 kd hb ?_
  unfold kindIn at hk
  rw [Bool.and_eq_false_iff, decide_eq_false_iff_not, decide_eq_false_iff_not] at hk
  have b1 : (kd == 1) = false := by simp only [beq_eq_false_iff_ne]; omega
  have b2 : (kd == 2) = false := by simp only [beq_eq_false_iff_ne]; omega
  have b3 : (kd == 3) = false := by simp only [beq_eq_false_iff_ne]; omega
  have b4 : (kd == 4) = false := by simp only [beq_eq_false_iff_ne]; omega
  have b5 : (kd == 5) = false := by simp only [beq_eq_false_iff_ne]; omega
  have b6 : (kd == 6) = false := by simp only [beq_eq_false_iff_ne]; omega
  simp [kindsG, entP, Instr.findNow, Instr.sameNow, b1, b2, b3, b4, b5, b6]
theorem nilG_nil (W : World) : (binOp .neq 252 .nilFunc .nilFunc).run Tryz.prog W = .ok (.bool false) W := by kernel_rfl
theorem funcG_nil (K : Nat) (c1 : Value) (W : World) : (binOp .neq 252 (.func (Fn.func K) #[] #[c1]) .nilFunc).run Tryz.prog W = .ok (.bool true) W := by kernel_rfl
end Go.Proofs.YtilbbemdinpjcaaGreat.P
namespace Go.Proofs.YtilbbemdinpjcaaGreat.T
open Go.RowKit

/-- A frame with some slots said. -/
def putF (a : Act) : List Tmp → (Tmp → Value) → Act
  | [], _ => a
  | s :: l, f => (putF a l f).put (some s) (f s)
theorem putF_size (a : Act) (f : Tmp → Value) : ∀ l : List Tmp, (putF a l f).tmps.size = a.tmps.size
  | [] => rfl
  | s :: l => by rw [putF, put_size, putF_size a f l]
theorem putF_eval (a : Act) (f : Tmp → Value) (s : Tmp) (h : s < a.tmps.size) : ∀ l : List Tmp, s ∈ l → (putF a l f).eval (.tmp s) = f s
  | [], hs => by cases hs
  | t :: l, hs => by
    by_cases e : t = s
    · subst e
      exact eval_put_same _ _ _ (by rw [putF_size]; exact h)
    · rw [putF, eval_put_other _ _ _ _ e]
      exact putF_eval a f s h l (by rcases List.mem_cons.1 hs with h1 | h1; exact absurd h1.symm e; exact h1)
theorem putF_none (a : Act) (f : Tmp → Value) (s : Tmp) (v : Value) : ∀ l : List Tmp, s ∉ l → putF a l (fun t => if t = s then v else f t) = putF a l f
  | [], _ => rfl
  | t :: l, h => by
    have h1 : ¬ t = s := fun e => h (by rw [e]; simp)
    rw [putF, putF, if_neg h1, putF_none a f s v l (fun h2 => h (List.mem_cons_of_mem _ h2))]
theorem putF_put (a : Act) (f : Tmp → Value) (s : Tmp) (v : Value) : ∀ l : List Tmp, l.Nodup → s ∈ l → (putF a l f).put (some s) v = putF a l (fun t => if t = s then v else f t)
  | [], _, h => by cases h
  | t :: l, hn, h => by
    have hn2 := List.nodup_cons.1 hn
    by_cases e : t = s
    · subst e
      rw [putF, put_twice, putF, if_pos rfl, putF_none a f t v l hn2.1]
    · rw [putF, put_turn _ _ _ _ _ e, putF_put a f s v l hn2.2 (by rcases List.mem_cons.1 h with h1 | h1; exact absurd h1.symm e; exact h1), putF, if_neg e]
theorem put_none (a : Act) (v : Value) : a.put none v = a := rfl
theorem putF_self (a : Act) : ∀ l : List Tmp, putF a l (fun t => a.tmps.getD t undef) = a
  | [] => rfl
  | s :: l => by rw [putF, putF_self a l, put_self]
theorem alloc24 (w : World) : (Instr.alloc 24 true (.tuple #[])).run Tryz.prog w = .ok (.pointer (some ⟨w.heap.size, 0, none⟩)) (w.alloc (.cells #[.slice none 0 0] 24)) := by kernel_rfl
theorem wp_alloc24 {Q : Exit → Act → World → Prop} {o : Oper} {a : Act} {w : World} {K : Act → World → Prop} (ho : o.op = .alloc 24) (h : K (a.put o.dst (.pointer (some ⟨w.heap.size, 0, none⟩))) (w.alloc (.cells #[.slice none 0 0] 24))) : o.wp Tryz.prog a w K Q := by
  unfold Oper.wp
  simp [execOp, ho, alloc24, Result.andThen]
  exact h
theorem OwnT.setRow24 {w : World} {B : Nat} {v : Value} {xs : List Nd} (h : OwnT w B v xs) {k : Nat} {cs : Array Value} (hk : Lies w k cs 24) (cs' : Array Value) : OwnT (w.setRow k cs') B v xs := by
  refine ⟨h.1, ?_⟩
  rcases h.2 with hn | ⟨g, cap, cur, h1, h2, h3, h4⟩
  · exact .inl hn
  · exact .inr ⟨g, cap, cur, h1, h2, (setRow_other w k g cs' (Lies.apart (t := 72) (u := 24) h3 hk (by decide))).trans h3, h4⟩
theorem OwnT.alloc {w : World} {B : Nat} {v : Value} {xs : List Nd} (h : OwnT w B v xs) (o : Obj) : OwnT (w.alloc o) B v xs := h.kept ((Below.refl _ _).alloc (Nat.le_refl _) _)
structure JIdx where
  b1 : Nat
  c1 : Nat
  b2 : Nat
  c2 : Nat
  a1 : Nat
  a2 : Nat
  d1 : Nat
  d2 : Nat
def jRow (x : JIdx) (r : List Nat) (b1 c1 b2 c2 a1 a2 d1 d2 : Bool) : Bool :=
  r.all (fun i => (i == x.b1 && !b1) || (i == x.c1 && !c1 && b1) || (i == x.b2 && !b2) || (i == x.c2 && !c2 && b2 && c1) || (i == x.a1 && !a1) || (i == x.a2 && !a2) || (i == x.d1 && !d1 && c1 && c2 && a1 && a2) || (i == x.d2 && !d2 && d1 && c1 && c2 && a1 && a2)) &&
    (!r.isEmpty || (b1 && c1 && b2 && c2 && a1 && a2 && d1 && d2))
abbrev JL := Bool → Bool → Bool → Bool → Bool → Bool → Bool → Bool → Array Bool
def jReadyB (x : JIdx) (L : JL) (ops : Array Oper) : Bool :=
  [false, true].all fun b1 => [false, true].all fun c1 => [false, true].all fun b2 => [false, true].all fun c2 => [false, true].all fun a1 => [false, true].all fun a2 => [false, true].all fun d1 => [false, true].all fun d2 => jRow x (Region.ready .any ops (L b1 c1 b2 c2 a1 a2 d1 d2)) b1 c1 b2 c2 a1 a2 d1 d2
theorem j_ready {x : JIdx} {L : JL} {ops : Array Oper} (h : jReadyB x L ops = true) (b1 c1 b2 c2 a1 a2 d1 d2 : Bool) :
    (∀ i ∈ Region.ready .any ops (L b1 c1 b2 c2 a1 a2 d1 d2), i = x.b1 ∧ b1 = false ∨ i = x.c1 ∧ c1 = false ∧ b1 = true ∨ i = x.b2 ∧ b2 = false ∨ i = x.c2 ∧ c2 = false ∧ b2 = true ∧ c1 = true ∨ i = x.a1 ∧ a1 = false ∨ i = x.a2 ∧ a2 = false ∨
      i = x.d1 ∧ d1 = false ∧ c1 = true ∧ c2 = true ∧ a1 = true ∧ a2 = true ∨ i = x.d2 ∧ d2 = false ∧ d1 = true ∧ c1 = true ∧ c2 = true ∧ a1 = true ∧ a2 = true) ∧
    (Region.ready .any ops (L b1 c1 b2 c2 a1 a2 d1 d2) = [] → b1 = true ∧ c1 = true ∧ b2 = true ∧ c2 = true ∧ a1 = true ∧ a2 = true ∧ d1 = true ∧ d2 = true) := by
  have h2 := all_two (all_two (all_two (all_two (all_two (all_two (all_two (all_two h b1) c1) b2) c2) a1) a2) d1) d2
  generalize Region.ready .any ops (L b1 c1 b2 c2 a1 a2 d1 d2) = r at h2 ⊢
  unfold jRow at h2
  rw [Bool.and_eq_true, List.all_eq_true] at h2
  refine ⟨fun i hi => ?_, fun e => ?_⟩
  · have := h2.1 i hi
    simp only [Bool.or_eq_true, Bool.and_eq_true, beq_iff_eq, Bool.not_eq_true'] at this
    rcases this with ((((((h | h) | h) | h) | h) | h) | h) | h
    · exact .inl h
    · exact .inr (.inl ⟨h.1.1, h.1.2, h.2⟩)
    · exact .inr (.inr (.inl h))
    · exact .inr (.inr (.inr (.inl ⟨h.1.1.1, h.1.1.2, h.1.2, h.2⟩)))
    · exact .inr (.inr (.inr (.inr (.inl h))))
    · exact .inr (.inr (.inr (.inr (.inr (.inl h)))))
    · exact .inr (.inr (.inr (.inr (.inr (.inr (.inl ⟨h.1.1.1.1.1, h.1.1.1.1.2, h.1.1.1.2, h.1.1.2, h.1.2, h.2⟩))))))
    · exact .inr (.inr (.inr (.inr (.inr (.inr (.inr ⟨h.1.1.1.1.1.1, h.1.1.1.1.1.2, h.1.1.1.1.2, h.1.1.1.2, h.1.1.2, h.1.2, h.2⟩))))))
  · have := h2.2
    subst e
    simp only [List.isEmpty_nil, Bool.not_true, Bool.false_or, Bool.and_eq_true] at this
    exact ⟨this.1.1.1.1.1.1.1, this.1.1.1.1.1.1.2, this.1.1.1.1.1.2, this.1.1.1.1.2, this.1.1.1.2, this.1.1.2, this.1.2, this.2⟩
/-- What has come up of: two rows made, two calls, two blocks, two stores. -/
def JI (w0 : World) (R1 R2 : Array Value) (m1 m2 : Nat) (p q : List Nd) (L : JL) (a0 : Act) (s1 r1 s2 r2 p1 p2 : Tmp) (l : Array Bool) (a : Act) (w : World) : Prop :=
  ∃ b1 c1 b2 c2 a1 a2 d1 d2 : Bool, l = L b1 c1 b2 c2 a1 a2 d1 d2 ∧ ∃ (f : Tmp → Value) (g1 g2 : Nat) (v1 v2 : Value), a = putF a0 [s1, r1, s2, r2, p1, p2] f ∧
    (b1 = true → c1 = false → ∃ g, f s1 = .slice (some ⟨g, 0, none⟩) m1 m1 ∧ Lies w g R1 24) ∧
    (b2 = true → c2 = false → ∃ g, f s2 = .slice (some ⟨g, 0, none⟩) m2 m2 ∧ Lies w g R2 24) ∧
    (c1 = true → b1 = true ∧ f r1 = .agg #[v1] ∧ v1.oneCell' = true ∧ OwnT w 0 v1 p) ∧
    (c2 = true → b2 = true ∧ c1 = true ∧ f r2 = .agg #[v2] ∧ v2.oneCell' = true ∧ OwnT w 0 v2 q) ∧
    (a1 = true → f p1 = .pointer (some ⟨g1, 0, none⟩) ∧ w0.heap.size ≤ g1 ∧ Lies w g1 (if d1 then #[v1] else #[.slice none 0 0]) 24) ∧
    (a2 = true → f p2 = .pointer (some ⟨g2, 0, none⟩) ∧ w0.heap.size ≤ g2 ∧ Lies w g2 (if d2 then #[v2] else #[.slice none 0 0]) 24) ∧
    (a1 = true → a2 = true → g1 ≠ g2) ∧ (d1 = true → c1 = true ∧ c2 = true ∧ a1 = true ∧ a2 = true) ∧ (d2 = true → d1 = true) ∧ Below w0.heap.size w0 w
end Go.Proofs.YtilbbemdinpjcaaGreat.T
namespace Go.Proofs.YtilbbemdinpjcaaGreat.T
open Go.RowKit

theorem append_T_run {o : Oper} {a : Act} {w : World} (s x : Operand)
    (ho : o.op = .call { callee := .builtin .append, args := #[s, x], argTypes := #[22, 22] }) (B : Nat) (v bv : Value) (ys xs : List Nd) (hs : a.eval s = v) (hown : OwnT w B v ys) (hx : a.eval x = bv) (hsrc : SrcT w bv xs) (hlen : ys.length + xs.length ≤ 1000000) (hB : B ≤ w.heap.size) :
    ∃ v' w', (execOp a.eval o).run Tryz.prog w = .ok (.value v') w' ∧ OwnT w' B v' (ys ++ xs) ∧ w.grownBy w' v.ownBlock ∧ (v'.ownBlock = v.ownBlock ∨ v'.ownBlock = some w.heap.size) := by
  obtain ⟨i0, hi0, hz0, hz1, hz2⟩ := info_parts info32
  have key : ∃ v' w', (Builtin.append_ #[22, 22] o.type #[v, bv]).run Tryz.prog w = .ok v' w' ∧ OwnT w' B v' (ys ++ xs) ∧ w.grownBy w' v.ownBlock ∧ (v'.ownBlock = v.ownBlock ∨ v'.ownBlock = some w.heap.size) := by
    rcases hsrc with ⟨rfl, rfl⟩ | ⟨ad, c, rfl, hsrc⟩
    · refine ⟨v, w, run_append_owned_none (P := Tryz.prog) (w := w) B 22 o.type 72 i0 5 Tryz.underlying22 hi0 v ys.length _ hown, by rw [List.append_nil]; exact hown, grownT_refl w _, .inl rfl⟩
    · obtain ⟨v', w', hr, h2, h3, _, h5⟩ := run_append_own_at (P := Tryz.prog) w B 22 o.type 72 i0 (.agg #[.int .i64 0, .int .i64 0, .int .u64 0, .string ⟨#[]⟩, .int .i64 0]) 5 48 Tryz.underlying22 hi0 hz0 hz1 hz2 rfl (by decide) v ys.length _ hown ad xs.length c (cellsL xs) (cellsL_len xs) hsrc (cellsL_one xs) (by unfold maxLen; omega) (by omega) hB
      exact ⟨v', w', hr, by unfold OwnT; rw [List.length_append, cellsL_app]; exact h2, h3, h5⟩
  obtain ⟨v', w', hr, h2, h3, h5⟩ := key
  obtain ⟨a', n', c', rfl⟩ := h2.isSlice
  refine ⟨_, w', ?_, h2, h3, h5⟩
  unfold execOp
  simp only [ho, resolve, invoke, builtin, Sem.run_bind, Sem.run_pure, Result.andThen_ok, List.map_toArray, List.map_cons, List.map_nil, hs, hx, hr]
theorem OwnT.far {w : World} {B : Nat} {v : Value} {xs : List Nd} (h : OwnT w B v xs) {k : Nat} {cs : Array Value} (hk : Lies w k cs 24) : some k ≠ v.ownBlock := by
  rcases h.2 with ⟨h1, -⟩ | ⟨g, cap, cur, h1, h2, h3, -⟩
  · rw [h1]; exact fun e => by cases e
  · rw [h1]
    intro e
    have : k = g := Option.some.inj e
    exact Lies.apart (t := 72) (u := 24) h3 hk (by decide) this.symm
theorem OwnT.fresh {w : World} {B : Nat} {v : Value} {xs : List Nd} (h : OwnT w B v xs) : v.ownBlock ≠ some w.heap.size := by
  rcases h.2 with ⟨h1, -⟩ | ⟨g, cap, cur, h1, h2, h3, -⟩
  · rw [h1]; exact fun e => by cases e
  · rw [h1]
    intro e
    have e2 : g = w.heap.size := Option.some.inj e
    have := (Array.getElem?_eq_some_iff.1 h3).1
    omega
theorem own_nil (w : World) (B : Nat) (hB : B ≤ w.heap.size) : OwnT (w.alloc (.cells #[] 72)) B (.slice (some ⟨w.heap.size, 0, none⟩) 0 0) [] :=
  ⟨rfl, .inr ⟨w.heap.size, 0, #[], rfl, hB, Lies.new w #[] 72, Nat.le_refl _, by unfold maxLen; omega, rfl, rfl⟩⟩
theorem src_node {w : World} {g : Nat} {n : Nd} (h : Lies w g n.cells 72) : SrcT w (.slice (some ⟨g, 0, none⟩) 1 1) [n] :=
  .inr ⟨⟨g, 0, none⟩, 1, rfl, fun j u hu => by
    have : n.cells[j]? = some u := by
      rw [cellsL_cons] at hu
      simpa [cellsL] using hu
    have h2 := h.cell j this
    have e : (⟨g, 0, none⟩ : Addr).add j = ⟨g, j, none⟩ := by cases j <;> simp [Addr.add]
    rw [e]; exact h2⟩
theorem grown_lies {w w' : World} {v : Value} {g : Nat} {cs : Array Value} {t : TypeId} (hg : w.grownBy w' v.ownBlock) (h : Lies w g cs t) (hn : some g ≠ v.ownBlock) : Lies w' g cs t := (hg.block g h.lt hn).trans h
abbrev AL := Bool → Bool → Bool → Bool → Bool → Bool → Bool → Array Bool
def apRow (r : List Nat) (b c e f g a d : Bool) : Bool :=
  r.all (fun i => (i == 0 && !b) || (i == 3 && !c && b) || (i == 5 && !e) || (i == 6 && !f && c && e) || (i == 7 && !g && f) || (i == 8 && !a) || (i == 9 && !d && g && a)) && (!r.isEmpty || (b && c && e && f && g && a && d))
def apReadyB (L : AL) (ops : Array Oper) : Bool :=
  [false, true].all fun b => [false, true].all fun c => [false, true].all fun e => [false, true].all fun f => [false, true].all fun g => [false, true].all fun a => [false, true].all fun d => apRow (Region.ready .any ops (L b c e f g a d)) b c e f g a d
theorem ap_ready {L : AL} {ops : Array Oper} (h : apReadyB L ops = true) (b c e f g a d : Bool) :
    (∀ i ∈ Region.ready .any ops (L b c e f g a d), i = 0 ∧ b = false ∨ i = 3 ∧ c = false ∧ b = true ∨ i = 5 ∧ e = false ∨ i = 6 ∧ f = false ∧ c = true ∧ e = true ∨ i = 7 ∧ g = false ∧ f = true ∨ i = 8 ∧ a = false ∨ i = 9 ∧ d = false ∧ g = true ∧ a = true) ∧
    (Region.ready .any ops (L b c e f g a d) = [] → b = true ∧ c = true ∧ e = true ∧ f = true ∧ g = true ∧ a = true ∧ d = true) := by
  have h2 := all_two (all_two (all_two (all_two (all_two (all_two (all_two h b) c) e) f) g) a) d
  generalize Region.ready .any ops (L b c e f g a d) = r at h2 ⊢
  unfold apRow at h2
  rw [Bool.and_eq_true, List.all_eq_true] at h2
  refine ⟨fun i hi => ?_, fun e => ?_⟩
  · have := h2.1 i hi
    simp only [Bool.or_eq_true, Bool.and_eq_true, beq_iff_eq, Bool.not_eq_true'] at this
    rcases this with (((((h | h) | h) | h) | h) | h) | h
    · exact .inl h
    · exact .inr (.inl ⟨h.1.1, h.1.2, h.2⟩)
    · exact .inr (.inr (.inl h))
    · exact .inr (.inr (.inr (.inl ⟨h.1.1.1, h.1.1.2, h.1.2, h.2⟩)))
    · exact .inr (.inr (.inr (.inr (.inl ⟨h.1.1, h.1.2, h.2⟩))))
    · exact .inr (.inr (.inr (.inr (.inr (.inl h)))))
    · exact .inr (.inr (.inr (.inr (.inr (.inr ⟨h.1.1.1, h.1.1.2, h.1.2, h.2⟩)))))
  · have := h2.2
    subst e
    simp only [List.isEmpty_nil, Bool.not_true, Bool.false_or, Bool.and_eq_true] at this
    exact ⟨this.1.1.1.1.1.1, this.1.1.1.1.1.2, this.1.1.1.1.2, this.1.1.1.2, this.1.1.2, this.1.2, this.2⟩
/-- What has come up. -/
def AI (w0 : World) (nd : Nd) (xs : List Nd) (L : AL) (a0 : Act) (s0 r1 s5 r2 t7 p : Tmp) (l : Array Bool) (a : Act) (w : World) : Prop :=
  ∃ b c e f g a' d : Bool, l = L b c e f g a' d ∧ ∃ (F : Tmp → Value) (gp : Nat), a = putF a0 [s0, r1, s5, r2, t7, p] F ∧
    (b = true → c = false → OwnT w w0.heap.size (F s0) []) ∧
    (c = true → f = false → OwnT w w0.heap.size (F r1) xs) ∧
    (e = true → f = false → ∃ g5, F s5 = .slice (some ⟨g5, 0, none⟩) 1 1 ∧ Lies w g5 nd.cells 72 ∧ (b = true → c = false → some g5 ≠ (F s0).ownBlock) ∧ (c = true → some g5 ≠ (F r1).ownBlock)) ∧
    (f = true → OwnT w w0.heap.size (F r2) (xs ++ [nd])) ∧
    (g = true → F t7 = .agg #[F r2]) ∧
    (a' = true → F p = .pointer (some ⟨gp, 0, none⟩) ∧ w0.heap.size ≤ gp ∧ Lies w gp (if d then #[F r2] else #[.slice none 0 0]) 24) ∧
    (c = true → b = true) ∧ (f = true → c = true ∧ e = true) ∧ (g = true → f = true) ∧ (d = true → g = true ∧ a' = true) ∧ Below w0.heap.size w0 w
set_option maxHeartbeats 8000000 in
theorem app2_any {ops : Array Oper} {Q : Exit → Act → World → Prop} (w0 : World) (nd : Nd) (xs : List Nd) (av : Value) (L : AL) (a0 : Act) (s0 r1 s5 r2 t7 p x2 : Tmp)
    (hnd : [s0, r1, s5, r2, t7, p].Nodup) (hsz : ∀ s ∈ [s0, r1, s5, r2, t7, p], s < a0.tmps.size) (hxl : xs.length + 1 ≤ 1000000) (ob oc oe of og oa od : Oper)
    (i0 : ops[0]? = some ob) (g0 : ob.guard = none) (d0 : ob.dst = some s0) (rb : ∀ f w, (execOp (putF a0 [s0, r1, s5, r2, t7, p] f).eval ob).run Tryz.prog w = .ok (.value (.slice (some ⟨w.heap.size, 0, none⟩) 0 0)) (w.alloc (.cells #[] 72)))
    (i3 : ops[3]? = some oc) (g3 : oc.guard = none) (d3 : oc.dst = some r1) (hoc : oc.op = .call { callee := .builtin .append, args := #[.tmp s0, .tmp x2], argTypes := #[22, 22] }) (hav : ∀ f, (putF a0 [s0, r1, s5, r2, t7, p] f).eval (.tmp x2) = av) (hsrc : ∀ W, Below w0.heap.size w0 W → SrcT W av xs)
    (i5 : ops[5]? = some oe) (g5 : oe.guard = none) (d5 : oe.dst = some s5) (re : ∀ f w, (execOp (putF a0 [s0, r1, s5, r2, t7, p] f).eval oe).run Tryz.prog w = .ok (.value (.slice (some ⟨w.heap.size, 0, none⟩) 1 1)) (w.alloc (.cells nd.cells 72)))
    (i6 : ops[6]? = some of) (g6 : of.guard = none) (d6 : of.dst = some r2) (hof : of.op = .call { callee := .builtin .append, args := #[.tmp r1, .tmp s5], argTypes := #[22, 22] })
    (i7 : ops[7]? = some og) (g7 : og.guard = none) (d7 : og.dst = some t7) (rg : ∀ f x y z w, f r2 = .slice x y z → (execOp (putF a0 [s0, r1, s5, r2, t7, p] f).eval og).run Tryz.prog w = .ok (.value (.agg #[.slice x y z])) w)
    (i8 : ops[8]? = some oa) (g8 : oa.guard = none) (d8 : oa.dst = some p) (hoa : oa.op = .alloc 24)
    (i9 : ops[9]? = some od) (g9 : od.guard = none) (d9 : od.dst = none) (hod : od.op = .store 24 (.tmp p) (.tmp t7))
    (hr : apReadyB L ops = true)
    (l0 : ∀ c e f g a d, (L false c e f g a d).setIfInBounds 0 true = L true c e f g a d)
    (l3 : ∀ b e f g a d, (L b false e f g a d).setIfInBounds 3 true = L b true e f g a d)
    (l5 : ∀ b c f g a d, (L b c false f g a d).setIfInBounds 5 true = L b c true f g a d)
    (l6 : ∀ b c e g a d, (L b c e false g a d).setIfInBounds 6 true = L b c e true g a d)
    (l7 : ∀ b c e f a d, (L b c e f false a d).setIfInBounds 7 true = L b c e f true a d)
    (l8 : ∀ b c e f g d, (L b c e f g false d).setIfInBounds 8 true = L b c e f g true d)
    (l9 : ∀ b c e f g a, (L b c e f g a false).setIfInBounds 9 true = L b c e f g a true)
    (hQ : ∀ F gp w', w0.heap.size ≤ gp → Lies w' gp #[F r2] 24 → OwnT w' w0.heap.size (F r2) (xs ++ [nd]) → Below w0.heap.size w0 w' → F p = .pointer (some ⟨gp, 0, none⟩) → Q .normal (putF a0 [s0, r1, s5, r2, t7, p] F) w')
    (w : World) (hb : Below w0.heap.size w0 w) (fuel : Nat) (hfu : (L false false false false false false false).toList.count false ≤ fuel) : wpAnyH Tryz.prog .any ops Q (Below w0.heap.size w0) fuel (L false false false false false false false) a0 w := by
  have hn := hnd
  simp only [List.nodup_cons, List.mem_cons, List.not_mem_nil, or_false, not_or, List.nodup_nil, not_false_eq_true, and_true] at hn
  obtain ⟨⟨n1, n2, n3, n4, n5⟩, ⟨n6, n7, n8, n9⟩, ⟨n10, n11, n12⟩, ⟨n13, n14⟩, n15⟩ := hn
  refine wpAnyH_inv (AI w0 nd xs L a0 s0 r1 s5 r2 t7 p) ?_ ?_ fuel _ _ _ hfu ?_
  · rintro l a w1 ⟨b, c, e, f, g, a', d, rfl, F, gp, rfl, -, -, -, k4, -, k6, -, -, -, -, k9⟩ hnil
    obtain ⟨rfl, rfl, rfl, rfl, rfl, rfl, rfl⟩ := (ap_ready hr b c e f g a' d).2 hnil
    exact hQ F gp w1 (k6 rfl).2.1 (k6 rfl).2.2 (k4 rfl) k9 (k6 rfl).1
  · rintro l a w1 i ⟨b, c, e, f, g, a', d, rfl, F, gp, rfl, k1, k2, k3, k4, k5, k6, kc, kf, kg, kd, k9⟩ hi
    have hs9 := k9.size
    have ev : ∀ s, s ∈ [s0, r1, s5, r2, t7, p] → (putF a0 [s0, r1, s5, r2, t7, p] F).eval (.tmp s) = F s := fun s hs => putF_eval a0 F s (hsz s hs) _ hs
    rcases (ap_ready hr b c e f g a' d).1 i hi with ⟨rfl, h1⟩ | ⟨rfl, h1, h2⟩ | ⟨rfl, h1⟩ | ⟨rfl, h1, h2, h3⟩ | ⟨rfl, h1, h2⟩ | ⟨rfl, h1⟩ | ⟨rfl, h1, h2, h3⟩
    · subst h1
      have hc : c = false := by
        cases c
        · rfl
        · have := kc rfl; cases this
      subst hc
      have hf : f = false := by
        cases f
        · rfl
        · have := (kf rfl).1; cases this
      subst hf
      have hb2 := k9.alloc hs9 (.cells #[] 72)
      refine wpOp_valueTo i0 g0 s0 d0 (rb _ _) ⟨hb2, ?_⟩
      rw [putF_put _ _ _ _ _ hnd (by simp), l0]
      refine ⟨true, false, e, false, g, a', d, rfl, _, gp, rfl, fun _ _ => by rw [if_pos rfl]; exact own_nil w1 _ hs9, (fun h => by cases h), fun h _ => ?_, (fun h => by cases h), fun h => ?_, fun h => ?_, (fun h => by cases h), (fun h => by cases h), kg, kd, hb2⟩
      · obtain ⟨g5, h2, h3, -, -⟩ := k3 h rfl
        refine ⟨g5, by rw [if_neg (Ne.symm n2)]; exact h2, h3.alloc _, fun _ _ => ?_, (fun h => by cases h)⟩
        rw [if_pos rfl]
        intro e
        have e2 : g5 = w1.heap.size := Option.some.inj e
        have := h3.lt
        omega
      · have := kg h; cases this
      · rw [if_neg (Ne.symm n5), if_neg (Ne.symm n3)]; exact ⟨(k6 h).1, (k6 h).2.1, (k6 h).2.2.alloc _⟩
    · subst h1 h2
      have hf : f = false := by
        cases f
        · rfl
        · have := (kf rfl).1; cases this
      subst hf
      have hg : g = false := by
        cases g
        · rfl
        · have := kg rfl; cases this
      subst hg
      have hd : d = false := by
        cases d
        · rfl
        · have := (kd rfl).1; cases this
      subst hd
      have ho := k1 rfl rfl
      obtain ⟨v', w', hrun, ho', hgr, hat⟩ := append_T_run (.tmp s0) (.tmp x2) hoc w0.heap.size (F s0) av [] xs (ev s0 (by simp)) ho (hav F) (hsrc w1 k9) (by simp; omega) hs9
      rw [List.nil_append] at ho'
      have hb2 := k9.grown hgr hs9 (fun k e => ho.above e)
      refine wpOp_valueTo i3 g3 r1 d3 hrun ⟨hb2, ?_⟩
      rw [putF_put _ _ _ _ _ hnd (by simp), l3]
      refine ⟨true, true, e, false, false, a', false, rfl, _, gp, rfl, (fun _ h => by cases h), fun _ _ => by rw [if_pos rfl]; exact ho', fun h _ => ?_, (fun h => by cases h), (fun h => by cases h), fun h => ?_, fun _ => rfl, (fun h => by cases h), (fun h => by cases h), (fun h => by cases h), hb2⟩
      · obtain ⟨g5, h2, h3, h4, -⟩ := k3 h rfl
        refine ⟨g5, by rw [if_neg (Ne.symm n6)]; exact h2, grown_lies hgr h3 (h4 rfl rfl), (fun _ h => by cases h), fun _ => ?_⟩
        rw [if_pos rfl]
        rcases hat with e | e
        · rw [e]; exact h4 rfl rfl
        · rw [e]
          intro e3
          have e2 : g5 = w1.heap.size := Option.some.inj e3
          have := h3.lt
          omega
      · rw [if_neg (Ne.symm n9)]; exact ⟨(k6 h).1, (k6 h).2.1, grown_lies hgr (k6 h).2.2 (ho.far (k6 h).2.2)⟩
    · subst h1
      have hf : f = false := by
        cases f
        · rfl
        · have := (kf rfl).2; cases this
      subst hf
      have hb2 := k9.alloc hs9 (.cells nd.cells 72)
      refine wpOp_valueTo i5 g5 s5 d5 (re _ _) ⟨hb2, ?_⟩
      rw [putF_put _ _ _ _ _ hnd (by simp), l5]
      refine ⟨b, c, true, false, g, a', d, rfl, _, gp, rfl, fun h1 h2 => ?_, fun h _ => ?_, fun _ _ => ⟨w1.heap.size, by rw [if_pos rfl], Lies.new _ _ _, fun h1 h2 => ?_, fun h => ?_⟩, (fun h => by cases h), fun h => ?_, fun h => ?_, kc, (fun h => by cases h), kg, kd, hb2⟩
      · rw [if_neg n2]; exact (k1 h1 h2).alloc _
      · rw [if_neg n6]; exact (k2 h rfl).alloc _
      · rw [if_neg n2]; exact Ne.symm (k1 h1 h2).fresh
      · rw [if_neg n6]; exact Ne.symm (k2 h rfl).fresh
      · have := kg h; cases this
      · rw [if_neg (Ne.symm n12), if_neg (Ne.symm n10)]; exact ⟨(k6 h).1, (k6 h).2.1, (k6 h).2.2.alloc _⟩
    · subst h1 h2 h3
      have hg : g = false := by
        cases g
        · rfl
        · have := kg rfl; cases this
      subst hg
      have hd : d = false := by
        cases d
        · rfl
        · have := (kd rfl).1; cases this
      subst hd
      have ho := k2 rfl rfl
      obtain ⟨g5', h2, h3, -, h4⟩ := k3 rfl rfl
      obtain ⟨v', w', hrun, ho', hgr, hat⟩ := append_T_run (.tmp r1) (.tmp s5) hof w0.heap.size (F r1) _ xs [nd] (ev r1 (by simp)) ho ((ev s5 (by simp)).trans h2) (src_node h3) (by simp; omega) hs9
      have hb2 := k9.grown hgr hs9 (fun k e => ho.above e)
      refine wpOp_valueTo i6 g6 r2 d6 hrun ⟨hb2, ?_⟩
      rw [putF_put _ _ _ _ _ hnd (by simp), l6]
      refine ⟨b, true, true, true, false, a', false, rfl, _, gp, rfl, (fun _ h => by cases h), (fun _ h => by cases h), (fun _ h => by cases h), fun _ => by rw [if_pos rfl]; exact ho', (fun h => by cases h), fun h => ?_, kc, fun _ => ⟨rfl, rfl⟩, (fun h => by cases h), (fun h => by cases h), hb2⟩
      rw [if_neg (Ne.symm n14)]; exact ⟨(k6 h).1, (k6 h).2.1, grown_lies hgr (k6 h).2.2 (ho.far (k6 h).2.2)⟩
    · subst h1 h2
      have hd : d = false := by
        cases d
        · rfl
        · have := (kd rfl).1; cases this
      subst hd
      obtain ⟨ra, rn, rc, hre⟩ := (k4 rfl).isSlice
      refine wpOp_valueTo i7 g7 t7 d7 (rg F ra rn rc w1 hre) ⟨k9, ?_⟩
      rw [putF_put _ _ _ _ _ hnd (by simp), l7]
      refine ⟨b, c, e, true, true, a', false, rfl, _, gp, rfl, fun h1 h2 => ?_, (fun _ h => by cases h), (fun _ h => by cases h), fun _ => ?_, fun _ => ?_, fun h => ?_, kc, kf, fun _ => rfl, (fun h => by cases h), k9⟩
      · rw [if_neg n4]; exact k1 h1 h2
      · rw [if_neg n13]; exact k4 rfl
      · rw [if_pos rfl, if_neg n13, hre]
      · rw [if_neg (Ne.symm n15)]; exact k6 h
    · subst h1
      have hd : d = false := by
        cases d
        · rfl
        · have := (kd rfl).2; cases this
      subst hd
      have hb2 := k9.alloc hs9 (.cells #[.slice none 0 0] 24)
      refine wpOp_wp i8 g8 (wp_alloc24 hoa ⟨hb2, ?_⟩)
      rw [d8, putF_put _ _ _ _ _ hnd (by simp), l8]
      refine ⟨b, c, e, f, g, true, false, rfl, _, w1.heap.size, rfl, fun h1 h2 => ?_, fun h1 h2 => ?_, fun h1 h2 => ?_, fun h => ?_, fun h => ?_, fun _ => ⟨by rw [if_pos rfl], hs9, Lies.new _ _ _⟩, kc, kf, kg, (fun h => by cases h), hb2⟩
      · rw [if_neg n5]; exact (k1 h1 h2).alloc _
      · rw [if_neg n9]; exact (k2 h1 h2).alloc _
      · obtain ⟨g5', h3, h4, h5, h6⟩ := k3 h1 h2
        refine ⟨g5', by rw [if_neg n12]; exact h3, h4.alloc _, fun a1 a2 => ?_, fun a1 => ?_⟩
        · rw [if_neg n5]; exact h5 a1 a2
        · rw [if_neg n9]; exact h6 a1
      · rw [if_neg n14]; exact (k4 h).alloc _
      · rw [if_neg n15, if_neg n14]; exact k5 h
    · subst h1 h2 h3
      have hft := kg rfl
      subst hft
      obtain ⟨hce, hee⟩ := kf rfl
      subst hce hee
      obtain ⟨hp, hgp, y⟩ := k6 rfl
      have h7 := k5 rfl
      have ho := k4 rfl
      have hone : (F r2).oneCell' = true := by obtain ⟨a, n, c, e⟩ := ho.isSlice; rw [e]; rfl
      have hb2 := below_setRow k9 gp #[F r2] hgp
      refine wpOp_wp i9 g9 (wp_store_row 24 (.tmp p) (.tmp t7) hod gp #[F r2] ((ev p (by simp)).trans hp) ((ev t7 (by simp)).trans h7) 24 _ y info24 rfl (by simp [hone]) ⟨hb2, ?_⟩)
      rw [d9, put_none, l9]
      exact ⟨b, true, true, true, true, true, true, rfl, F, gp, rfl, (fun _ h => by cases h), (fun _ h => by cases h), (fun _ h => by cases h), fun _ => ho.setRow24 y _, k5, fun _ => ⟨hp, hgp, y.setRow _⟩, kc, kf, kg, fun _ => ⟨rfl, rfl⟩, hb2⟩
  · exact ⟨false, false, false, false, false, false, false, rfl, fun t => a0.tmps.getD t undef, 0, (putF_self a0 _).symm, (fun h => by cases h), (fun h => by cases h), (fun h => by cases h), (fun h => by cases h), (fun h => by cases h), (fun h => by cases h), (fun h => by cases h), (fun h => by cases h), (fun h => by cases h), (fun h => by cases h), hb⟩
end Go.Proofs.YtilbbemdinpjcaaGreat.T
