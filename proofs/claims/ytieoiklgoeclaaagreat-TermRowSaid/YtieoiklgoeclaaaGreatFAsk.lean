/-
  ask: what the numbers become; instead, where a NaN is thrown. For whole numbers of 64 bits, truths, ints.
-/
import Derived.Test.YtieoiklgoeclaaaGreatFWithin
namespace Go.Proofs.YtieoiklgoeclaaaGreat
open Go.RowKit

theorem Nums.alloc {w : World} {g : Nat} {xs : List Nat} (h : Nums w g xs) (hg : g < w.heap.size) (o : Obj) : Nums (w.alloc o) g xs :=
  fun j hj => (World.cell?_alloc_past _ _ _ hg).trans (h j hj)
theorem Nums.below {w w' : World} {g : Nat} {xs : List Nat} (h : Nums w g xs) (hg : g < w.heap.size) (hb : Below w.heap.size w w') : Nums w' g xs :=
  fun j hj => (hb.cell (p := ⟨g, j, none⟩) hg).trans (h j hj)
theorem bcell {B : Nat} {W w1 : World} (hb : Below B W w1) : (∀ b o, b < B → w1.cell? ⟨b, o, none⟩ = W.cell? ⟨b, o, none⟩) ∧ (∀ b o, b < B → w1.frozen? ⟨b, o, none⟩ = W.frozen? ⟨b, o, none⟩) :=
  ⟨fun b o h => hb.cell (p := ⟨b, o, none⟩) h, fun b o h => hb.frozen (p := ⟨b, o, none⟩) h⟩

theorem catch64_panicking (p q : Addr) (x : Int) (y : Value) (u : TypeId) (pv : Value) (older : List PanicEntry) (w : World) (hp : w.cell? p = some (Value.int .u64 x)) (hc : w.cell? q = some y) (hz : w.frozen? q = false) :
    CallsD Tryz.prog 104 #[.pointer (some p), .pointer (some q)] (.panicking ({ v := .iface u pv, recovered := false } :: older)) w fun e u' w' =>
      e = .returned (.tuple #[]) ∧ u' = .panicking ({ v := .iface u pv, recovered := true } :: older) ∧ w' = w.setCell q (Value.int .u64 x) := by
  refine callsD_of_wpS Tryz.func104 rfl fun c₀ cs hu => ?_
  apply wpS_seq
  apply wpS_region
  simp [wpOpsS, go_sem, recoverD, hu, Tryz.ntmps104, Exit.thenS]
  refine wpS_cond (t := true) (by simp [Act.eval, Array.replicate]) ?_
  simp only [if_true]
  apply wpS_region
  simp [wpOpsS, go_sem, hp, hc, hz, bodyPostS, results, Tryz.results104]
theorem catch64_idle (p q : Addr) (w : World) :
    CallsD Tryz.prog 104 #[.pointer (some p), .pointer (some q)] .returning w fun e u' w' => e = .returned (.tuple #[]) ∧ u' = .returning ∧ w' = w := by
  refine callsD_of_wpS Tryz.func104 rfl fun c₀ cs hu => ?_
  apply wpS_seq
  apply wpS_region
  simp [wpOpsS, go_sem, recoverD, hu, Tryz.ntmps104, Exit.thenS]
  refine wpS_cond (t := false) (by simp [Act.eval, Array.replicate]) ?_
  simp only [Bool.false_eq_true, if_false]
  refine wpS_of_wp (wp_skip ?_)
  cases c₀
  simp_all [bodyPostS, results, Tryz.results104]

set_option maxRecDepth 100000 in
theorem ask64_bad (w : World) (x : Int) (fv : Value) (xs : List Nat) (g c : Nat) (hn : Nums w g xs) (hg : g < w.heap.size) (hl : xs.length ≤ 100) (m : Nat) (hm : m < xs.length) (h : noneB (xs.getD m 0) = true) :
    Calls Tryz.prog 101 #[Value.int .u64 x, fv, .slice (some ⟨g, 0, none⟩) xs.length c] w fun e w' => e = .returned (Value.int .u64 x) ∧ Below w.heap.size w w' := by
  have hmf : ∀ (fn : Fn) (first cap : Array Value) (w : World), (Instr.makeFunc fn first cap).run Tryz.prog w = .ok (.func fn first cap) w := fun _ _ _ _ => rfl
  have hb : Below w.heap.size w ((w.alloc (.cells #[Value.int .u64 x] 34)).alloc (.cells #[(Value.int .u64 0)] 34)) := ((Below.refl _ _).alloc (Nat.le_refl _) _).alloc (by simp) _
  have hs := sound_bad xs g c _ (hn.below hg hb) hl m hm h
  have HS := Lib.hid hs
  have HB := Lib.hid hb
  clear hs hb hn h
  go_enter_defers Tryz.func101, Tryz.ntmps101
  go_wp2_with fail
  refine HS.out.mono ?_
  rintro e w' ⟨⟨v, rfl⟩, rfl⟩
  go_wp2_with fail
  refine leaves_cons (f := 104) (args := #[.pointer (some ⟨w.heap.size, 0, none⟩), .pointer (some ⟨w.heap.size + 1, 0, none⟩)]) (by simp) (by simp [go_sem]) ?_
  refine (catch64_panicking ⟨w.heap.size, 0, none⟩ ⟨w.heap.size + 1, 0, none⟩ x (Value.int .u64 0) 84 _ [] _ ?_ ?_ ?_).mono ?_
  · simp [go_sem]
  · simp [go_sem]
  · simp [go_sem]
  rintro e u' w'' ⟨rfl, rfl, hw⟩
  subst hw
  simp [Leaves, settle, results, Tryz.results101, go_sem]
  exact ((Below.refl _ _).alloc (Nat.le_refl _) _).alloc (by simp) _
set_option maxRecDepth 100000 in
theorem ask64_ok (w : World) (x r : Int) (K : Nat) (cap : Array Value) (xs : List Nat) (g c : Nat) (hn : Nums w g xs) (hg : g < w.heap.size) (hl : xs.length ≤ 100) (h : ∀ j, j < xs.length → noneB (xs.getD j 0) = false)
    (hK : ∀ w : World, (callFunc K cap).run Tryz.prog w = .ok (.enter K cap) w) (hbe : ∀ w1, Below w.heap.size w w1 → Calls Tryz.prog K cap w1 fun e w2 => e = .returned (Value.int .u64 r) ∧ Below w1.heap.size w1 w2) :
    Calls Tryz.prog 101 #[Value.int .u64 x, .func (Fn.func K) #[] cap, .slice (some ⟨g, 0, none⟩) xs.length c] w fun e w' => e = .returned (Value.int .u64 r) ∧ Below w.heap.size w w' := by
  have hmf : ∀ (fn : Fn) (first cap : Array Value) (w : World), (Instr.makeFunc fn first cap).run Tryz.prog w = .ok (.func fn first cap) w := fun _ _ _ _ => rfl
  have hb : Below w.heap.size w ((w.alloc (.cells #[Value.int .u64 x] 34)).alloc (.cells #[(Value.int .u64 0)] 34)) := ((Below.refl _ _).alloc (Nat.le_refl _) _).alloc (by simp) _
  have hs := sound_ok xs g c _ (hn.below hg hb) hl h
  have hc2 := hbe _ hb
  have HS := Lib.hid hs
  have HC := Lib.hid hc2
  have HB := Lib.hid hb
  clear hs hb hn h hc2 hbe
  go_enter_defers Tryz.func101, Tryz.ntmps101
  go_wp2_with fail
  refine HS.out.mono ?_
  rintro e w' ⟨rfl, rfl⟩
  go_wp2_with fail
  refine HC.out.mono ?_
  rintro e w2 ⟨rfl, hb2⟩
  have hz2 : w.heap.size + 1 < w2.heap.size := by have := hb2.size; simp at this; omega
  obtain ⟨hcc, hff⟩ := bcell hb2
  have k1 : w2.cell? ⟨w.heap.size + 1, 0, none⟩ = some (Value.int .u64 0) := by rw [hcc _ _ (by simp)]; simp [go_sem]
  have k2 : w2.frozen? ⟨w.heap.size + 1, 0, none⟩ = false := by rw [hff _ _ (by simp)]; simp [go_sem]
  have HB2 := Lib.hid hb2
  clear hcc hff hb2
  go_wp2_with fail
  refine leaves_cons (f := 104) (args := #[.pointer (some ⟨w.heap.size, 0, none⟩), .pointer (some ⟨w.heap.size + 1, 0, none⟩)]) (by simp) (by simp [go_sem]) ?_
  refine (catch64_idle ⟨w.heap.size, 0, none⟩ ⟨w.heap.size + 1, 0, none⟩ _).mono ?_
  rintro e u' w'' ⟨rfl, rfl, hw⟩
  subst hw
  simp [Leaves, settle, results, Tryz.results101, go_sem, k1]
  exact ((HB.out.trans (HB2.out.mono (by simp; omega))).setCell (by simp) _)
set_option maxRecDepth 100000 in
theorem ask64_thrown (w : World) (x : Int) (K : Nat) (cap : Array Value) (xs : List Nat) (g c : Nat) (hn : Nums w g xs) (hg : g < w.heap.size) (hl : xs.length ≤ 100) (h : ∀ j, j < xs.length → noneB (xs.getD j 0) = false)
    (hK : ∀ w : World, (callFunc K cap).run Tryz.prog w = .ok (.enter K cap) w) (hbe : ∀ w1, Below w.heap.size w w1 → Calls Tryz.prog K cap w1 fun e w2 => Thrown e ∧ Below w1.heap.size w1 w2) :
    Calls Tryz.prog 101 #[Value.int .u64 x, .func (Fn.func K) #[] cap, .slice (some ⟨g, 0, none⟩) xs.length c] w fun e w' => e = .returned (Value.int .u64 x) ∧ Below w.heap.size w w' := by
  have hmf : ∀ (fn : Fn) (first cap : Array Value) (w : World), (Instr.makeFunc fn first cap).run Tryz.prog w = .ok (.func fn first cap) w := fun _ _ _ _ => rfl
  have hb : Below w.heap.size w ((w.alloc (.cells #[Value.int .u64 x] 34)).alloc (.cells #[(Value.int .u64 0)] 34)) := ((Below.refl _ _).alloc (Nat.le_refl _) _).alloc (by simp) _
  have hs := sound_ok xs g c _ (hn.below hg hb) hl h
  have hc2 := hbe _ hb
  have HS := Lib.hid hs
  have HC := Lib.hid hc2
  have HB := Lib.hid hb
  clear hs hb hn h hc2 hbe
  go_enter_defers Tryz.func101, Tryz.ntmps101
  go_wp2_with fail
  refine HS.out.mono ?_
  rintro e w' ⟨rfl, rfl⟩
  go_wp2_with fail
  refine HC.out.mono ?_
  rintro e w2 ⟨⟨v, rfl⟩, hb2⟩
  have hz2 : w.heap.size + 1 < w2.heap.size := by have := hb2.size; simp at this; omega
  obtain ⟨hcc, hff⟩ := bcell hb2
  have k0 : w2.cell? ⟨w.heap.size, 0, none⟩ = some (Value.int .u64 x) := by rw [hcc _ _ (by simp; omega)]; simp [go_sem]
  have k1 : w2.cell? ⟨w.heap.size + 1, 0, none⟩ = some (Value.int .u64 0) := by rw [hcc _ _ (by simp)]; simp [go_sem]
  have k2 : w2.frozen? ⟨w.heap.size + 1, 0, none⟩ = false := by rw [hff _ _ (by simp)]; simp [go_sem]
  have HB2 := Lib.hid hb2
  clear hcc hff hb2
  go_wp2_with fail
  refine leaves_cons (f := 104) (args := #[.pointer (some ⟨w.heap.size, 0, none⟩), .pointer (some ⟨w.heap.size + 1, 0, none⟩)]) (by simp) (by simp [go_sem]) ?_
  refine (catch64_panicking ⟨w.heap.size, 0, none⟩ ⟨w.heap.size + 1, 0, none⟩ x (Value.int .u64 0) 84 _ [] _ k0 k1 k2).mono ?_
  rintro e u' w'' ⟨rfl, rfl, hw⟩
  subst hw
  simp [Leaves, settle, results, Tryz.results101, go_sem, k1]
  exact ((HB.out.trans (HB2.out.mono (by simp; omega))).setCell (by simp) _)

theorem catchI_panicking (p q : Addr) (x : Int) (y : Value) (u : TypeId) (pv : Value) (older : List PanicEntry) (w : World) (hp : w.cell? p = some (Value.int .i64 x)) (hc : w.cell? q = some y) (hz : w.frozen? q = false) :
    CallsD Tryz.prog 94 #[.pointer (some p), .pointer (some q)] (.panicking ({ v := .iface u pv, recovered := false } :: older)) w fun e u' w' =>
      e = .returned (.tuple #[]) ∧ u' = .panicking ({ v := .iface u pv, recovered := true } :: older) ∧ w' = w.setCell q (Value.int .i64 x) := by
  refine callsD_of_wpS Tryz.func94 rfl fun c₀ cs hu => ?_
  apply wpS_seq
  apply wpS_region
  simp [wpOpsS, go_sem, recoverD, hu, Tryz.ntmps94, Exit.thenS]
  refine wpS_cond (t := true) (by simp [Act.eval, Array.replicate]) ?_
  simp only [if_true]
  apply wpS_region
  simp [wpOpsS, go_sem, hp, hc, hz, bodyPostS, results, Tryz.results94]
theorem catchI_idle (p q : Addr) (w : World) :
    CallsD Tryz.prog 94 #[.pointer (some p), .pointer (some q)] .returning w fun e u' w' => e = .returned (.tuple #[]) ∧ u' = .returning ∧ w' = w := by
  refine callsD_of_wpS Tryz.func94 rfl fun c₀ cs hu => ?_
  apply wpS_seq
  apply wpS_region
  simp [wpOpsS, go_sem, recoverD, hu, Tryz.ntmps94, Exit.thenS]
  refine wpS_cond (t := false) (by simp [Act.eval, Array.replicate]) ?_
  simp only [Bool.false_eq_true, if_false]
  refine wpS_of_wp (wp_skip ?_)
  cases c₀
  simp_all [bodyPostS, results, Tryz.results94]

set_option maxRecDepth 100000 in
theorem askI_bad (w : World) (x : Int) (fv : Value) (xs : List Nat) (g c : Nat) (hn : Nums w g xs) (hg : g < w.heap.size) (hl : xs.length ≤ 100) (m : Nat) (hm : m < xs.length) (h : noneB (xs.getD m 0) = true) :
    Calls Tryz.prog 76 #[Value.int .i64 x, fv, .slice (some ⟨g, 0, none⟩) xs.length c] w fun e w' => e = .returned (Value.int .i64 x) ∧ Below w.heap.size w w' := by
  have hmf : ∀ (fn : Fn) (first cap : Array Value) (w : World), (Instr.makeFunc fn first cap).run Tryz.prog w = .ok (.func fn first cap) w := fun _ _ _ _ => rfl
  have hb : Below w.heap.size w ((w.alloc (.cells #[Value.int .i64 x] 3)).alloc (.cells #[(Value.int .i64 0)] 3)) := ((Below.refl _ _).alloc (Nat.le_refl _) _).alloc (by simp) _
  have hs := sound_bad xs g c _ (hn.below hg hb) hl m hm h
  have HS := Lib.hid hs
  have HB := Lib.hid hb
  clear hs hb hn h
  go_enter_defers Tryz.func76, Tryz.ntmps76
  go_wp2_with fail
  refine HS.out.mono ?_
  rintro e w' ⟨⟨v, rfl⟩, rfl⟩
  go_wp2_with fail
  refine leaves_cons (f := 94) (args := #[.pointer (some ⟨w.heap.size, 0, none⟩), .pointer (some ⟨w.heap.size + 1, 0, none⟩)]) (by simp) (by simp [go_sem]) ?_
  refine (catchI_panicking ⟨w.heap.size, 0, none⟩ ⟨w.heap.size + 1, 0, none⟩ x (Value.int .i64 0) 84 _ [] _ ?_ ?_ ?_).mono ?_
  · simp [go_sem]
  · simp [go_sem]
  · simp [go_sem]
  rintro e u' w'' ⟨rfl, rfl, hw⟩
  subst hw
  simp [Leaves, settle, results, Tryz.results76, go_sem]
  exact ((Below.refl _ _).alloc (Nat.le_refl _) _).alloc (by simp) _
set_option maxRecDepth 100000 in
theorem askI_ok (w : World) (x r : Int) (K : Nat) (cap : Array Value) (xs : List Nat) (g c : Nat) (hn : Nums w g xs) (hg : g < w.heap.size) (hl : xs.length ≤ 100) (h : ∀ j, j < xs.length → noneB (xs.getD j 0) = false)
    (hK : ∀ w : World, (callFunc K cap).run Tryz.prog w = .ok (.enter K cap) w) (hbe : ∀ w1, Below w.heap.size w w1 → Calls Tryz.prog K cap w1 fun e w2 => e = .returned (Value.int .i64 r) ∧ Below w1.heap.size w1 w2) :
    Calls Tryz.prog 76 #[Value.int .i64 x, .func (Fn.func K) #[] cap, .slice (some ⟨g, 0, none⟩) xs.length c] w fun e w' => e = .returned (Value.int .i64 r) ∧ Below w.heap.size w w' := by
  have hmf : ∀ (fn : Fn) (first cap : Array Value) (w : World), (Instr.makeFunc fn first cap).run Tryz.prog w = .ok (.func fn first cap) w := fun _ _ _ _ => rfl
  have hb : Below w.heap.size w ((w.alloc (.cells #[Value.int .i64 x] 3)).alloc (.cells #[(Value.int .i64 0)] 3)) := ((Below.refl _ _).alloc (Nat.le_refl _) _).alloc (by simp) _
  have hs := sound_ok xs g c _ (hn.below hg hb) hl h
  have hc2 := hbe _ hb
  have HS := Lib.hid hs
  have HC := Lib.hid hc2
  have HB := Lib.hid hb
  clear hs hb hn h hc2 hbe
  go_enter_defers Tryz.func76, Tryz.ntmps76
  go_wp2_with fail
  refine HS.out.mono ?_
  rintro e w' ⟨rfl, rfl⟩
  go_wp2_with fail
  refine HC.out.mono ?_
  rintro e w2 ⟨rfl, hb2⟩
  have hz2 : w.heap.size + 1 < w2.heap.size := by have := hb2.size; simp at this; omega
  obtain ⟨hcc, hff⟩ := bcell hb2
  have k1 : w2.cell? ⟨w.heap.size + 1, 0, none⟩ = some (Value.int .i64 0) := by rw [hcc _ _ (by simp)]; simp [go_sem]
  have k2 : w2.frozen? ⟨w.heap.size + 1, 0, none⟩ = false := by rw [hff _ _ (by simp)]; simp [go_sem]
  have HB2 := Lib.hid hb2
  clear hcc hff hb2
  go_wp2_with fail
  refine leaves_cons (f := 94) (args := #[.pointer (some ⟨w.heap.size, 0, none⟩), .pointer (some ⟨w.heap.size + 1, 0, none⟩)]) (by simp) (by simp [go_sem]) ?_
  refine (catchI_idle ⟨w.heap.size, 0, none⟩ ⟨w.heap.size + 1, 0, none⟩ _).mono ?_
  rintro e u' w'' ⟨rfl, rfl, hw⟩
  subst hw
  simp [Leaves, settle, results, Tryz.results76, go_sem, k1]
  exact ((HB.out.trans (HB2.out.mono (by simp; omega))).setCell (by simp) _)
set_option maxRecDepth 100000 in
theorem askI_thrown (w : World) (x : Int) (K : Nat) (cap : Array Value) (xs : List Nat) (g c : Nat) (hn : Nums w g xs) (hg : g < w.heap.size) (hl : xs.length ≤ 100) (h : ∀ j, j < xs.length → noneB (xs.getD j 0) = false)
    (hK : ∀ w : World, (callFunc K cap).run Tryz.prog w = .ok (.enter K cap) w) (hbe : ∀ w1, Below w.heap.size w w1 → Calls Tryz.prog K cap w1 fun e w2 => Thrown e ∧ Below w1.heap.size w1 w2) :
    Calls Tryz.prog 76 #[Value.int .i64 x, .func (Fn.func K) #[] cap, .slice (some ⟨g, 0, none⟩) xs.length c] w fun e w' => e = .returned (Value.int .i64 x) ∧ Below w.heap.size w w' := by
  have hmf : ∀ (fn : Fn) (first cap : Array Value) (w : World), (Instr.makeFunc fn first cap).run Tryz.prog w = .ok (.func fn first cap) w := fun _ _ _ _ => rfl
  have hb : Below w.heap.size w ((w.alloc (.cells #[Value.int .i64 x] 3)).alloc (.cells #[(Value.int .i64 0)] 3)) := ((Below.refl _ _).alloc (Nat.le_refl _) _).alloc (by simp) _
  have hs := sound_ok xs g c _ (hn.below hg hb) hl h
  have hc2 := hbe _ hb
  have HS := Lib.hid hs
  have HC := Lib.hid hc2
  have HB := Lib.hid hb
  clear hs hb hn h hc2 hbe
  go_enter_defers Tryz.func76, Tryz.ntmps76
  go_wp2_with fail
  refine HS.out.mono ?_
  rintro e w' ⟨rfl, rfl⟩
  go_wp2_with fail
  refine HC.out.mono ?_
  rintro e w2 ⟨⟨v, rfl⟩, hb2⟩
  have hz2 : w.heap.size + 1 < w2.heap.size := by have := hb2.size; simp at this; omega
  obtain ⟨hcc, hff⟩ := bcell hb2
  have k0 : w2.cell? ⟨w.heap.size, 0, none⟩ = some (Value.int .i64 x) := by rw [hcc _ _ (by simp; omega)]; simp [go_sem]
  have k1 : w2.cell? ⟨w.heap.size + 1, 0, none⟩ = some (Value.int .i64 0) := by rw [hcc _ _ (by simp)]; simp [go_sem]
  have k2 : w2.frozen? ⟨w.heap.size + 1, 0, none⟩ = false := by rw [hff _ _ (by simp)]; simp [go_sem]
  have HB2 := Lib.hid hb2
  clear hcc hff hb2
  go_wp2_with fail
  refine leaves_cons (f := 94) (args := #[.pointer (some ⟨w.heap.size, 0, none⟩), .pointer (some ⟨w.heap.size + 1, 0, none⟩)]) (by simp) (by simp [go_sem]) ?_
  refine (catchI_panicking ⟨w.heap.size, 0, none⟩ ⟨w.heap.size + 1, 0, none⟩ x (Value.int .i64 0) 84 _ [] _ k0 k1 k2).mono ?_
  rintro e u' w'' ⟨rfl, rfl, hw⟩
  subst hw
  simp [Leaves, settle, results, Tryz.results76, go_sem, k1]
  exact ((HB.out.trans (HB2.out.mono (by simp; omega))).setCell (by simp) _)
end Go.Proofs.YtieoiklgoeclaaaGreat
