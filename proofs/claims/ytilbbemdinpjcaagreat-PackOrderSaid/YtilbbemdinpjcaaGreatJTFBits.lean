/-
  bitsOf: the bits of what numbers become; the one NaN, if any of all these is one.
-/
import Derived.Test.YtilbbemdinpjcaaGreatProg
import Derived.Test.YtilbbemdinpjcaaGreatJTFOps
import Derived.WalkKit
import Derived.WalkSpells
import Derived.WalkLawsBesides
import Derived.Outline
import Derived.Below
import Derived.Defers
import Derived.Recover
import Derived.Lib.Hide
import Derived.WalkSmall
import Derived.Laws.Externs
namespace Go.Proofs.YtilbbemdinpjcaaGreat.T
open Go.RowKit

theorem frombits_run (n : Int) (w : World) : (callFunc 313 #[.int .u64 n]).run Tryz.prog w = .ok (.value (.float .f64 n.toNat)) w := by
  rw [run_callFunc_extern (e := Extern.MathFloatBits.float64frombits) Tryz.func313 (by kernel_rfl) (by kernel_rfl) (by kernel_rfl) (by kernel_rfl)]
  rfl
theorem bits_run (b : Nat) (w : World) : (callFunc 317 #[.float .f64 b]).run Tryz.prog w = .ok (.value (.int .u64 b)) w := by
  rw [run_callFunc_extern (e := Extern.MathFloatBits.float64bits) Tryz.func317 (by kernel_rfl) (by kernel_rfl) (by kernel_rfl) (by kernel_rfl)]
  rfl

theorem number_any (n : Int) (w : World) : Calls Tryz.prog 309 #[.int .u64 n] w fun e w' => e = .returned (.float .f64 n.toNat) ∧ w = w' := by
  have h := fun w => frombits_run n w
  go_enter Tryz.func309, Tryz.ntmps309
  go_wp2
  go_ret
  exact ⟨rfl, rfl⟩

def noneB (b : Nat) : Bool := decide (isNone b)
theorem order_self (b : Nat) : (FloatKind.f64.format.order b b != some .eq) = noneB b := by
  show (Ieee.double.order b b != some .eq) = noneB b
  unfold noneB
  by_cases h : isNone b
  · rw [order_none b b (.inl h), decide_eq_true h]; rfl
  · rw [order_some b b h h, cmp_eq rfl, decide_eq_false h]; rfl
theorem isnan_any (b : Nat) (w : World) : Calls Tryz.prog 322 #[.float .f64 b] w fun e w' => e = .returned (.bool (noneB b)) ∧ w = w' := by
  have h := order_self b
  go_enter Tryz.func322, Tryz.ntmps322
  go_wp2
  go_ret
  exact ⟨rfl, rfl⟩
theorem cmpnan_any (b : Nat) (w : World) : Calls Tryz.prog 329 #[.float .f64 b] w fun e w' => e = .returned (.bool (noneB b)) ∧ w = w' := by
  have h := order_self b
  go_enter Tryz.func329, Tryz.ntmps329
  go_wp2
  go_ret
  exact ⟨rfl, rfl⟩

/-- Numbers, one behind the other. -/
def Nums (w : World) (g : Nat) (xs : List Nat) : Prop := ∀ j, j < xs.length → w.cell? ⟨g, j, none⟩ = some (.float .f64 (xs.getD j 0))

set_option maxRecDepth 100000 in
theorem sound_ok (xs : List Nat) (g c : Nat) (w : World) (hn : Nums w g xs) (hl : xs.length ≤ 100) (h : ∀ j, j < xs.length → noneB (xs.getD j 0) = false) :
    Calls Tryz.prog 316 #[.slice (some ⟨g, 0, none⟩) xs.length c] w fun e w' => e = .returned (.tuple #[]) ∧ w = w' := by
  have HN := Lib.hid hn
  have HF := Lib.hid h
  clear hn h
  go_enter Tryz.func316, Tryz.ntmps316
  go_wp2
  go_loop [6] (fun i => ∃ k : Nat, k ≤ xs.length ∧ i = .int .i64 k) (fun i => xs.length - (intOf i).toNat)
  case atStart => exact ⟨0, Nat.zero_le _, rfl⟩
  case round =>
    obtain ⟨k, hk, rfl⟩ := hrel
    by_cases hlt : k < xs.length
    · have hc := HN.out k hlt
      have hb := HF.out k hlt
      generalize xs.getD k 0 = y at hc hb
      have hq := isnan_any y w
      rw [hb] at hq
      have HB := Lib.hid hb
      clear hb
      go_wp2_with fail
      refine hq.mono ?_
      rintro e w' ⟨rfl, rfl⟩
      clear hq
      go_wp2_with fail
      go_round
      case rel => exact ⟨k + 1, by omega, by go_num⟩
      case measure => simp [intOf]; omega
    · have he : decide (k < xs.length) = false := by simpa using hlt
      go_wp2
      go_end0
      exact ⟨rfl, rfl⟩
/-- A NaN is thrown. -/
def Thrown (e : Ending) : Prop := ∃ v, e = .panicked [{ v := .iface 299 v, recovered := false }]
set_option maxRecDepth 100000 in
theorem sound_bad (xs : List Nat) (g c : Nat) (w : World) (hn : Nums w g xs) (hl : xs.length ≤ 100) (m : Nat) (hm : m < xs.length) (h : noneB (xs.getD m 0) = true) :
    Calls Tryz.prog 316 #[.slice (some ⟨g, 0, none⟩) xs.length c] w fun e w' => Thrown e ∧ w = w' := by
  have HN := Lib.hid hn
  have HF := Lib.hid h
  clear hn h
  go_enter Tryz.func316, Tryz.ntmps316
  go_wp2
  go_loop [6] (fun i => ∃ k : Nat, k ≤ m ∧ i = .int .i64 k) (fun i => xs.length - (intOf i).toNat)
  case atStart => exact ⟨0, Nat.zero_le _, rfl⟩
  case round =>
    obtain ⟨k, hk, rfl⟩ := hrel
    have hlt : k < xs.length := by omega
    have hc := HN.out k hlt
    obtain ⟨y, hy⟩ : ∃ y, y = xs.getD k 0 := ⟨_, rfl⟩
    rw [← hy] at hc
    have HY := Lib.hid hy
    clear hy
    obtain ⟨b, hb⟩ : ∃ b, b = noneB y := ⟨_, rfl⟩
    have hq := isnan_any y w
    rw [← hb] at hq
    have HB := Lib.hid hb
    clear hb
    cases b
    · have hkm : k < m := by
        by_cases e : k = m
        · have h1 := HF.out
          rw [← e, ← HY.out, ← HB.out] at h1
          cases h1
        · omega
      go_wp2_with fail
      refine hq.mono ?_
      rintro e w' ⟨rfl, rfl⟩
      clear hq
      go_wp2_with fail
      go_round
      case rel => exact ⟨k + 1, by omega, by go_num⟩
      case measure => simp [intOf]; omega
    · go_wp2_with fail
      refine hq.mono ?_
      rintro e w' ⟨rfl, rfl⟩
      clear hq
      go_wp2_with fail
      exact ⟨rfl, ⟨_, rfl⟩, rfl⟩
end Go.Proofs.YtilbbemdinpjcaaGreat.T
namespace Go.Proofs.YtilbbemdinpjcaaGreat.T
open Go.RowKit

theorem Nums.alloc {w : World} {g : Nat} {xs : List Nat} (h : Nums w g xs) (hg : g < w.heap.size) (o : Obj) : Nums (w.alloc o) g xs :=
  fun j hj => (World.cell?_alloc_past _ _ _ hg).trans (h j hj)
theorem Nums.below {w w' : World} {g : Nat} {xs : List Nat} (h : Nums w g xs) (hg : g < w.heap.size) (hb : Below w.heap.size w w') : Nums w' g xs :=
  fun j hj => (hb.cell (p := ⟨g, j, none⟩) hg).trans (h j hj)
theorem bcell {B : Nat} {W w1 : World} (hb : Below B W w1) : (∀ b o, b < B → w1.cell? ⟨b, o, none⟩ = W.cell? ⟨b, o, none⟩) ∧ (∀ b o, b < B → w1.frozen? ⟨b, o, none⟩ = W.frozen? ⟨b, o, none⟩) :=
  ⟨fun b o h => hb.cell (p := ⟨b, o, none⟩) h, fun b o h => hb.frozen (p := ⟨b, o, none⟩) h⟩

theorem catch64_panicking (p q : Addr) (x : Int) (y : Value) (u : TypeId) (pv : Value) (older : List PanicEntry) (w : World) (hp : w.cell? p = some (Value.int .u64 x)) (hc : w.cell? q = some y) (hz : w.frozen? q = false) :
    CallsD Tryz.prog 321 #[.pointer (some p), .pointer (some q)] (.panicking ({ v := .iface u pv, recovered := false } :: older)) w fun e u' w' =>
      e = .returned (.tuple #[]) ∧ u' = .panicking ({ v := .iface u pv, recovered := true } :: older) ∧ w' = w.setCell q (Value.int .u64 x) := by
  refine callsD_of_wpS Tryz.func321 rfl fun c₀ cs hu => ?_
  apply wpS_seq
  apply wpS_region
  simp [wpOpsS, go_sem, recoverD, hu, Tryz.ntmps321, Exit.thenS]
  refine wpS_cond (t := true) (by simp [Act.eval, Array.replicate]) ?_
  simp only [if_true]
  apply wpS_region
  simp [wpOpsS, go_sem, hp, hc, hz, bodyPostS, results, Tryz.results321]
theorem catch64_idle (p q : Addr) (w : World) :
    CallsD Tryz.prog 321 #[.pointer (some p), .pointer (some q)] .returning w fun e u' w' => e = .returned (.tuple #[]) ∧ u' = .returning ∧ w' = w := by
  refine callsD_of_wpS Tryz.func321 rfl fun c₀ cs hu => ?_
  apply wpS_seq
  apply wpS_region
  simp [wpOpsS, go_sem, recoverD, hu, Tryz.ntmps321, Exit.thenS]
  refine wpS_cond (t := false) (by simp [Act.eval, Array.replicate]) ?_
  simp only [Bool.false_eq_true, if_false]
  refine wpS_of_wp (wp_skip ?_)
  cases c₀
  simp_all [bodyPostS, results, Tryz.results321]

set_option maxRecDepth 100000 in
theorem ask64_bad (w : World) (x : Int) (fv : Value) (xs : List Nat) (g c : Nat) (hn : Nums w g xs) (hg : g < w.heap.size) (hl : xs.length ≤ 100) (m : Nat) (hm : m < xs.length) (h : noneB (xs.getD m 0) = true) :
    Calls Tryz.prog 314 #[Value.int .u64 x, fv, .slice (some ⟨g, 0, none⟩) xs.length c] w fun e w' => e = .returned (Value.int .u64 x) ∧ Below w.heap.size w w' := by
  have hmf : ∀ (fn : Fn) (first cap : Array Value) (w : World), (Instr.makeFunc fn first cap).run Tryz.prog w = .ok (.func fn first cap) w := fun _ _ _ _ => rfl
  have hb : Below w.heap.size w ((w.alloc (.cells #[Value.int .u64 x] 69)).alloc (.cells #[(Value.int .u64 0)] 69)) := ((Below.refl _ _).alloc (Nat.le_refl _) _).alloc (by simp) _
  have hs := sound_bad xs g c _ (hn.below hg hb) hl m hm h
  have HS := Lib.hid hs
  have HB := Lib.hid hb
  clear hs hb hn h
  go_enter_defers Tryz.func314, Tryz.ntmps314
  go_wp2_with fail
  refine HS.out.mono ?_
  rintro e w' ⟨⟨v, rfl⟩, rfl⟩
  go_wp2_with fail
  refine leaves_cons (f := 321) (args := #[.pointer (some ⟨w.heap.size, 0, none⟩), .pointer (some ⟨w.heap.size + 1, 0, none⟩)]) (by simp) (by simp [go_sem]) ?_
  refine (catch64_panicking ⟨w.heap.size, 0, none⟩ ⟨w.heap.size + 1, 0, none⟩ x (Value.int .u64 0) 299 _ [] _ ?_ ?_ ?_).mono ?_
  · simp [go_sem]
  · simp [go_sem]
  · simp [go_sem]
  rintro e u' w'' ⟨rfl, rfl, hw⟩
  subst hw
  simp [Leaves, settle, results, Tryz.results314, go_sem]
  exact ((Below.refl _ _).alloc (Nat.le_refl _) _).alloc (by simp) _
set_option maxRecDepth 100000 in
theorem ask64_ok (w : World) (x r : Int) (K : Nat) (cap : Array Value) (xs : List Nat) (g c : Nat) (hn : Nums w g xs) (hg : g < w.heap.size) (hl : xs.length ≤ 100) (h : ∀ j, j < xs.length → noneB (xs.getD j 0) = false)
    (hK : ∀ w : World, (callFunc K cap).run Tryz.prog w = .ok (.enter K cap) w) (hbe : ∀ w1, Below w.heap.size w w1 → Calls Tryz.prog K cap w1 fun e w2 => e = .returned (Value.int .u64 r) ∧ Below w1.heap.size w1 w2) :
    Calls Tryz.prog 314 #[Value.int .u64 x, .func (Fn.func K) #[] cap, .slice (some ⟨g, 0, none⟩) xs.length c] w fun e w' => e = .returned (Value.int .u64 r) ∧ Below w.heap.size w w' := by
  have hmf : ∀ (fn : Fn) (first cap : Array Value) (w : World), (Instr.makeFunc fn first cap).run Tryz.prog w = .ok (.func fn first cap) w := fun _ _ _ _ => rfl
  have hb : Below w.heap.size w ((w.alloc (.cells #[Value.int .u64 x] 69)).alloc (.cells #[(Value.int .u64 0)] 69)) := ((Below.refl _ _).alloc (Nat.le_refl _) _).alloc (by simp) _
  have hs := sound_ok xs g c _ (hn.below hg hb) hl h
  have hc2 := hbe _ hb
  have HS := Lib.hid hs
  have HC := Lib.hid hc2
  have HB := Lib.hid hb
  clear hs hb hn h hc2 hbe
  go_enter_defers Tryz.func314, Tryz.ntmps314
  go_wp2_with fail
  refine HS.out.mono ?_
  rintro e w' ⟨rfl, rfl⟩
  go_wp2_with fail
  refine HC.out.mono ?_
  rintro e w2 ⟨rfl, hb2⟩
  have hz2 : w.heap.size + 1 < w2.heap.size := by have := hb2.size; simp at this; omega
  obtain ⟨hcc, hff⟩ := bcell hb2
  have k1 : w2.cell? ⟨w.heap.size + 1, 0, none⟩ = some (Value.int .u64 0) := by rw [hcc _ _ (by simp)]; simp [go_sem]
  have k2 : w2.frozen? ⟨w.heap.size + 1, 0, none⟩ = false := by rw [hff _ _ (by simp)]; simp [go_sem]
  have HB2 := Lib.hid hb2
  clear hcc hff hb2
  go_wp2_with fail
  refine leaves_cons (f := 321) (args := #[.pointer (some ⟨w.heap.size, 0, none⟩), .pointer (some ⟨w.heap.size + 1, 0, none⟩)]) (by simp) (by simp [go_sem]) ?_
  refine (catch64_idle ⟨w.heap.size, 0, none⟩ ⟨w.heap.size + 1, 0, none⟩ _).mono ?_
  rintro e u' w'' ⟨rfl, rfl, hw⟩
  subst hw
  simp [Leaves, settle, results, Tryz.results314, go_sem, k1]
  exact ((HB.out.trans (HB2.out.mono (by simp; omega))).setCell (by simp) _)
set_option maxRecDepth 100000 in
theorem ask64_thrown (w : World) (x : Int) (K : Nat) (cap : Array Value) (xs : List Nat) (g c : Nat) (hn : Nums w g xs) (hg : g < w.heap.size) (hl : xs.length ≤ 100) (h : ∀ j, j < xs.length → noneB (xs.getD j 0) = false)
    (hK : ∀ w : World, (callFunc K cap).run Tryz.prog w = .ok (.enter K cap) w) (hbe : ∀ w1, Below w.heap.size w w1 → Calls Tryz.prog K cap w1 fun e w2 => Thrown e ∧ Below w1.heap.size w1 w2) :
    Calls Tryz.prog 314 #[Value.int .u64 x, .func (Fn.func K) #[] cap, .slice (some ⟨g, 0, none⟩) xs.length c] w fun e w' => e = .returned (Value.int .u64 x) ∧ Below w.heap.size w w' := by
  have hmf : ∀ (fn : Fn) (first cap : Array Value) (w : World), (Instr.makeFunc fn first cap).run Tryz.prog w = .ok (.func fn first cap) w := fun _ _ _ _ => rfl
  have hb : Below w.heap.size w ((w.alloc (.cells #[Value.int .u64 x] 69)).alloc (.cells #[(Value.int .u64 0)] 69)) := ((Below.refl _ _).alloc (Nat.le_refl _) _).alloc (by simp) _
  have hs := sound_ok xs g c _ (hn.below hg hb) hl h
  have hc2 := hbe _ hb
  have HS := Lib.hid hs
  have HC := Lib.hid hc2
  have HB := Lib.hid hb
  clear hs hb hn h hc2 hbe
  go_enter_defers Tryz.func314, Tryz.ntmps314
  go_wp2_with fail
  refine HS.out.mono ?_
  rintro e w' ⟨rfl, rfl⟩
  go_wp2_with fail
  refine HC.out.mono ?_
  rintro e w2 ⟨⟨v, rfl⟩, hb2⟩
  have hz2 : w.heap.size + 1 < w2.heap.size := by have := hb2.size; simp at this; omega
  obtain ⟨hcc, hff⟩ := bcell hb2
  have k0 : w2.cell? ⟨w.heap.size, 0, none⟩ = some (Value.int .u64 x) := by rw [hcc _ _ (by simp; omega)]; simp [go_sem]
  have k1 : w2.cell? ⟨w.heap.size + 1, 0, none⟩ = some (Value.int .u64 0) := by rw [hcc _ _ (by simp)]; simp [go_sem]
  have k2 : w2.frozen? ⟨w.heap.size + 1, 0, none⟩ = false := by rw [hff _ _ (by simp)]; simp [go_sem]
  have HB2 := Lib.hid hb2
  clear hcc hff hb2
  go_wp2_with fail
  refine leaves_cons (f := 321) (args := #[.pointer (some ⟨w.heap.size, 0, none⟩), .pointer (some ⟨w.heap.size + 1, 0, none⟩)]) (by simp) (by simp [go_sem]) ?_
  refine (catch64_panicking ⟨w.heap.size, 0, none⟩ ⟨w.heap.size + 1, 0, none⟩ x (Value.int .u64 0) 299 _ [] _ k0 k1 k2).mono ?_
  rintro e u' w'' ⟨rfl, rfl, hw⟩
  subst hw
  simp [Leaves, settle, results, Tryz.results314, go_sem, k1]
  exact ((HB.out.trans (HB2.out.mono (by simp; omega))).setCell (by simp) _)

theorem catchI_panicking (p q : Addr) (x : Int) (y : Value) (u : TypeId) (pv : Value) (older : List PanicEntry) (w : World) (hp : w.cell? p = some (Value.int .i64 x)) (hc : w.cell? q = some y) (hz : w.frozen? q = false) :
    CallsD Tryz.prog 328 #[.pointer (some p), .pointer (some q)] (.panicking ({ v := .iface u pv, recovered := false } :: older)) w fun e u' w' =>
      e = .returned (.tuple #[]) ∧ u' = .panicking ({ v := .iface u pv, recovered := true } :: older) ∧ w' = w.setCell q (Value.int .i64 x) := by
  refine callsD_of_wpS Tryz.func328 rfl fun c₀ cs hu => ?_
  apply wpS_seq
  apply wpS_region
  simp [wpOpsS, go_sem, recoverD, hu, Tryz.ntmps328, Exit.thenS]
  refine wpS_cond (t := true) (by simp [Act.eval, Array.replicate]) ?_
  simp only [if_true]
  apply wpS_region
  simp [wpOpsS, go_sem, hp, hc, hz, bodyPostS, results, Tryz.results328]
theorem catchI_idle (p q : Addr) (w : World) :
    CallsD Tryz.prog 328 #[.pointer (some p), .pointer (some q)] .returning w fun e u' w' => e = .returned (.tuple #[]) ∧ u' = .returning ∧ w' = w := by
  refine callsD_of_wpS Tryz.func328 rfl fun c₀ cs hu => ?_
  apply wpS_seq
  apply wpS_region
  simp [wpOpsS, go_sem, recoverD, hu, Tryz.ntmps328, Exit.thenS]
  refine wpS_cond (t := false) (by simp [Act.eval, Array.replicate]) ?_
  simp only [Bool.false_eq_true, if_false]
  refine wpS_of_wp (wp_skip ?_)
  cases c₀
  simp_all [bodyPostS, results, Tryz.results328]

set_option maxRecDepth 100000 in
theorem askI_bad (w : World) (x : Int) (fv : Value) (xs : List Nat) (g c : Nat) (hn : Nums w g xs) (hg : g < w.heap.size) (hl : xs.length ≤ 100) (m : Nat) (hm : m < xs.length) (h : noneB (xs.getD m 0) = true) :
    Calls Tryz.prog 325 #[Value.int .i64 x, fv, .slice (some ⟨g, 0, none⟩) xs.length c] w fun e w' => e = .returned (Value.int .i64 x) ∧ Below w.heap.size w w' := by
  have hmf : ∀ (fn : Fn) (first cap : Array Value) (w : World), (Instr.makeFunc fn first cap).run Tryz.prog w = .ok (.func fn first cap) w := fun _ _ _ _ => rfl
  have hb : Below w.heap.size w ((w.alloc (.cells #[Value.int .i64 x] 3)).alloc (.cells #[(Value.int .i64 0)] 3)) := ((Below.refl _ _).alloc (Nat.le_refl _) _).alloc (by simp) _
  have hs := sound_bad xs g c _ (hn.below hg hb) hl m hm h
  have HS := Lib.hid hs
  have HB := Lib.hid hb
  clear hs hb hn h
  go_enter_defers Tryz.func325, Tryz.ntmps325
  go_wp2_with fail
  refine HS.out.mono ?_
  rintro e w' ⟨⟨v, rfl⟩, rfl⟩
  go_wp2_with fail
  refine leaves_cons (f := 328) (args := #[.pointer (some ⟨w.heap.size, 0, none⟩), .pointer (some ⟨w.heap.size + 1, 0, none⟩)]) (by simp) (by simp [go_sem]) ?_
  refine (catchI_panicking ⟨w.heap.size, 0, none⟩ ⟨w.heap.size + 1, 0, none⟩ x (Value.int .i64 0) 299 _ [] _ ?_ ?_ ?_).mono ?_
  · simp [go_sem]
  · simp [go_sem]
  · simp [go_sem]
  rintro e u' w'' ⟨rfl, rfl, hw⟩
  subst hw
  simp [Leaves, settle, results, Tryz.results325, go_sem]
  exact ((Below.refl _ _).alloc (Nat.le_refl _) _).alloc (by simp) _
set_option maxRecDepth 100000 in
theorem askI_ok (w : World) (x r : Int) (K : Nat) (cap : Array Value) (xs : List Nat) (g c : Nat) (hn : Nums w g xs) (hg : g < w.heap.size) (hl : xs.length ≤ 100) (h : ∀ j, j < xs.length → noneB (xs.getD j 0) = false)
    (hK : ∀ w : World, (callFunc K cap).run Tryz.prog w = .ok (.enter K cap) w) (hbe : ∀ w1, Below w.heap.size w w1 → Calls Tryz.prog K cap w1 fun e w2 => e = .returned (Value.int .i64 r) ∧ Below w1.heap.size w1 w2) :
    Calls Tryz.prog 325 #[Value.int .i64 x, .func (Fn.func K) #[] cap, .slice (some ⟨g, 0, none⟩) xs.length c] w fun e w' => e = .returned (Value.int .i64 r) ∧ Below w.heap.size w w' := by
  have hmf : ∀ (fn : Fn) (first cap : Array Value) (w : World), (Instr.makeFunc fn first cap).run Tryz.prog w = .ok (.func fn first cap) w := fun _ _ _ _ => rfl
  have hb : Below w.heap.size w ((w.alloc (.cells #[Value.int .i64 x] 3)).alloc (.cells #[(Value.int .i64 0)] 3)) := ((Below.refl _ _).alloc (Nat.le_refl _) _).alloc (by simp) _
  have hs := sound_ok xs g c _ (hn.below hg hb) hl h
  have hc2 := hbe _ hb
  have HS := Lib.hid hs
  have HC := Lib.hid hc2
  have HB := Lib.hid hb
  clear hs hb hn h hc2 hbe
  go_enter_defers Tryz.func325, Tryz.ntmps325
  go_wp2_with fail
  refine HS.out.mono ?_
  rintro e w' ⟨rfl, rfl⟩
  go_wp2_with fail
  refine HC.out.mono ?_
  rintro e w2 ⟨rfl, hb2⟩
  have hz2 : w.heap.size + 1 < w2.heap.size := by have := hb2.size; simp at this; omega
  obtain ⟨hcc, hff⟩ := bcell hb2
  have k1 : w2.cell? ⟨w.heap.size + 1, 0, none⟩ = some (Value.int .i64 0) := by rw [hcc _ _ (by simp)]; simp [go_sem]
  have k2 : w2.frozen? ⟨w.heap.size + 1, 0, none⟩ = false := by rw [hff _ _ (by simp)]; simp [go_sem]
  have HB2 := Lib.hid hb2
  clear hcc hff hb2
  go_wp2_with fail
  refine leaves_cons (f := 328) (args := #[.pointer (some ⟨w.heap.size, 0, none⟩), .pointer (some ⟨w.heap.size + 1, 0, none⟩)]) (by simp) (by simp [go_sem]) ?_
  refine (catchI_idle ⟨w.heap.size, 0, none⟩ ⟨w.heap.size + 1, 0, none⟩ _).mono ?_
  rintro e u' w'' ⟨rfl, rfl, hw⟩
  subst hw
  simp [Leaves, settle, results, Tryz.results325, go_sem, k1]
  exact ((HB.out.trans (HB2.out.mono (by simp; omega))).setCell (by simp) _)
set_option maxRecDepth 100000 in
theorem askI_thrown (w : World) (x : Int) (K : Nat) (cap : Array Value) (xs : List Nat) (g c : Nat) (hn : Nums w g xs) (hg : g < w.heap.size) (hl : xs.length ≤ 100) (h : ∀ j, j < xs.length → noneB (xs.getD j 0) = false)
    (hK : ∀ w : World, (callFunc K cap).run Tryz.prog w = .ok (.enter K cap) w) (hbe : ∀ w1, Below w.heap.size w w1 → Calls Tryz.prog K cap w1 fun e w2 => Thrown e ∧ Below w1.heap.size w1 w2) :
    Calls Tryz.prog 325 #[Value.int .i64 x, .func (Fn.func K) #[] cap, .slice (some ⟨g, 0, none⟩) xs.length c] w fun e w' => e = .returned (Value.int .i64 x) ∧ Below w.heap.size w w' := by
  have hmf : ∀ (fn : Fn) (first cap : Array Value) (w : World), (Instr.makeFunc fn first cap).run Tryz.prog w = .ok (.func fn first cap) w := fun _ _ _ _ => rfl
  have hb : Below w.heap.size w ((w.alloc (.cells #[Value.int .i64 x] 3)).alloc (.cells #[(Value.int .i64 0)] 3)) := ((Below.refl _ _).alloc (Nat.le_refl _) _).alloc (by simp) _
  have hs := sound_ok xs g c _ (hn.below hg hb) hl h
  have hc2 := hbe _ hb
  have HS := Lib.hid hs
  have HC := Lib.hid hc2
  have HB := Lib.hid hb
  clear hs hb hn h hc2 hbe
  go_enter_defers Tryz.func325, Tryz.ntmps325
  go_wp2_with fail
  refine HS.out.mono ?_
  rintro e w' ⟨rfl, rfl⟩
  go_wp2_with fail
  refine HC.out.mono ?_
  rintro e w2 ⟨⟨v, rfl⟩, hb2⟩
  have hz2 : w.heap.size + 1 < w2.heap.size := by have := hb2.size; simp at this; omega
  obtain ⟨hcc, hff⟩ := bcell hb2
  have k0 : w2.cell? ⟨w.heap.size, 0, none⟩ = some (Value.int .i64 x) := by rw [hcc _ _ (by simp; omega)]; simp [go_sem]
  have k1 : w2.cell? ⟨w.heap.size + 1, 0, none⟩ = some (Value.int .i64 0) := by rw [hcc _ _ (by simp)]; simp [go_sem]
  have k2 : w2.frozen? ⟨w.heap.size + 1, 0, none⟩ = false := by rw [hff _ _ (by simp)]; simp [go_sem]
  have HB2 := Lib.hid hb2
  clear hcc hff hb2
  go_wp2_with fail
  refine leaves_cons (f := 328) (args := #[.pointer (some ⟨w.heap.size, 0, none⟩), .pointer (some ⟨w.heap.size + 1, 0, none⟩)]) (by simp) (by simp [go_sem]) ?_
  refine (catchI_panicking ⟨w.heap.size, 0, none⟩ ⟨w.heap.size + 1, 0, none⟩ x (Value.int .i64 0) 299 _ [] _ k0 k1 k2).mono ?_
  rintro e u' w'' ⟨rfl, rfl, hw⟩
  subst hw
  simp [Leaves, settle, results, Tryz.results325, go_sem, k1]
  exact ((HB.out.trans (HB2.out.mono (by simp; omega))).setCell (by simp) _)
end Go.Proofs.YtilbbemdinpjcaaGreat.T
namespace Go.Proofs.YtilbbemdinpjcaaGreat.T
open Go.RowKit

theorem nums_one (w : World) (r : Nat) : Nums (w.alloc (.cells #[.float .f64 r] 299)) w.heap.size [r] := by
  intro j hj
  obtain rfl : j = 0 := by simp at hj; omega
  simp [go_sem]
theorem nums_two (w : World) (r s : Nat) : Nums (w.alloc (.cells #[.float .f64 r, .float .f64 s] 299)) w.heap.size [r, s] := by
  intro j hj
  have : j = 0 ∨ j = 1 := by simp at hj; omega
  rcases this with rfl | rfl <;> simp [go_sem]
theorem one_ok {r : Nat} (h : noneB r = false) : ∀ j, j < [r].length → noneB ([r].getD j 0) = false := by
  intro j hj
  obtain rfl : j = 0 := by simp at hj; omega
  exact h
theorem two_ok {r s : Nat} (h : noneB r = false) (h' : noneB s = false) : ∀ j, j < [r, s].length → noneB ([r, s].getD j 0) = false := by
  intro j hj
  have : j = 0 ∨ j = 1 := by simp at hj; omega
  rcases this with rfl | rfl
  · exact h
  · exact h'
/-- A closure's call that tells a number, and makes but new memory. -/
def Tells (k : Nat) (cap : Array Value) (w : World) (r : Nat) : Prop :=
  ∀ w1, Below w.heap.size w w1 → Calls Tryz.prog k cap w1 fun e w2 => e = .returned (.float .f64 r) ∧ Below w1.heap.size w1 w2
/-- .. that tells a NaN. -/
def TellsNan (k : Nat) (cap : Array Value) (w : World) : Prop :=
  ∀ w1, Below w.heap.size w w1 → Calls Tryz.prog k cap w1 fun e w2 => ∃ r, noneB r = true ∧ e = .returned (.float .f64 r) ∧ Below w1.heap.size w1 w2

set_option maxRecDepth 100000 in
theorem inner_some (w : World) (p k : Nat) (cap : Array Value) (r : Nat) (hp : w.cell? ⟨p, 0, none⟩ = some (.func (Fn.func k) #[] cap)) (hK : ∀ w : World, (callFunc k cap).run Tryz.prog w = .ok (.enter k cap) w)
    (ht : Tells k cap w r) (hr : noneB r = false) :
    Calls Tryz.prog 315 #[.pointer (some ⟨p, 0, none⟩)] w fun e w' => e = .returned (.int .u64 r) ∧ Below w.heap.size w w' := by
  have hc := ht w (Below.refl _ _)
  have HC := Lib.hid hc
  have HR := Lib.hid hr
  have hbits := fun w => bits_run r w
  clear hc hr ht
  go_enter Tryz.func315, Tryz.ntmps315
  go_wp2_with fail
  refine HC.out.mono ?_
  rintro e w2 ⟨rfl, hb⟩
  have HB := Lib.hid hb
  clear hb
  go_wp2_with fail
  refine (sound_ok [r] w2.heap.size 1 _ (nums_one w2 r) (by simp) (one_ok HR.out)).mono ?_
  rintro e w3 ⟨rfl, rfl⟩
  go_wp2_with fail
  go_ret
  exact ⟨rfl, HB.out.alloc HB.out.size _⟩
set_option maxRecDepth 100000 in
theorem inner_none (w : World) (p k : Nat) (cap : Array Value) (hp : w.cell? ⟨p, 0, none⟩ = some (.func (Fn.func k) #[] cap)) (hK : ∀ w : World, (callFunc k cap).run Tryz.prog w = .ok (.enter k cap) w)
    (ht : TellsNan k cap w) :
    Calls Tryz.prog 315 #[.pointer (some ⟨p, 0, none⟩)] w fun e w' => Thrown e ∧ Below w.heap.size w w' := by
  have hc := ht w (Below.refl _ _)
  have HC := Lib.hid hc
  clear hc ht
  go_enter Tryz.func315, Tryz.ntmps315
  go_wp2_with fail
  refine HC.out.mono ?_
  rintro e w2 ⟨r, hr, rfl, hb⟩
  have HB := Lib.hid hb
  have HR := Lib.hid hr
  clear hb hr
  go_wp2_with fail
  refine (sound_bad [r] w2.heap.size 1 _ (nums_one w2 r) (by simp) 0 (by simp) HR.out).mono ?_
  rintro e w3 ⟨⟨v, rfl⟩, rfl⟩
  go_wp2_with fail
  exact ⟨rfl, ⟨_, rfl⟩, HB.out.alloc HB.out.size _⟩

theorem callK (K : Nat) (fn : Func) (hf : Tryz.prog.funcs[K]? = some fn) (hb : fn.body.isSome = true) (hn : (fn.name == "runtime.NumGoroutine") = false) (cap : Array Value) (w : World) : (callFunc K cap).run Tryz.prog w = .ok (.enter K cap) w := by
  have h1 : fn.name ≠ "runtime.NumGoroutine" := by simpa using hn
  have h2 : fn.body ≠ none := by
    intro e
    rw [e] at hb
    cases hb
  have h3 : fn.body.isNone = false := by
    cases h : fn.body with
    | none => exact absurd h h2
    | some c => rfl
  simp [callFunc, hf, h1, h2]

theorem Tells.below {k : Nat} {cap : Array Value} {w w' : World} {r : Nat} (h : Tells k cap w r) (hb : Below w.heap.size w w') : Tells k cap w' r :=
  fun w1 h1 => h w1 (hb.trans (h1.mono hb.size))
theorem TellsNan.below {k : Nat} {cap : Array Value} {w w' : World} (h : TellsNan k cap w) (hb : Below w.heap.size w w') : TellsNan k cap w' :=
  fun w1 h1 => h w1 (hb.trans (h1.mono hb.size))
theorem call78 (cap : Array Value) (w : World) : (callFunc 315 cap).run Tryz.prog w = .ok (.enter 315 cap) w :=
  callK 315 Tryz.f315 Tryz.func315 (by kernel_rfl) (by kernel_rfl) cap w
theorem boxed {w w1 : World} {v : Value} {t : TypeId} (_h1 : v.oneCell' = true) (hb : Below (w.heap.size + 1) (w.alloc (.cells #[v] t)) w1) : w1.cell? ⟨w.heap.size, 0, none⟩ = some v := by
  rw [hb.cell (p := ⟨w.heap.size, 0, none⟩) (by simp)]
  simp [go_sem]

set_option maxRecDepth 100000 in
theorem bits_some (w : World) (k : Nat) (cap : Array Value) (r : Nat) (xs : List Nat) (g c : Nat) (hn : Nums w g xs) (hg : g < w.heap.size) (hl : xs.length ≤ 100) (h : ∀ j, j < xs.length → noneB (xs.getD j 0) = false)
    (hK : ∀ w : World, (callFunc k cap).run Tryz.prog w = .ok (.enter k cap) w) (ht : Tells k cap w r) (hr : noneB r = false) :
    Calls Tryz.prog 310 #[.func (Fn.func k) #[] cap, .slice (some ⟨g, 0, none⟩) xs.length c] w fun e w' => e = .returned (.int .u64 r) ∧ Below w.heap.size w w' := by
  have hmf : ∀ (fn : Fn) (first cap : Array Value) (w : World), (Instr.makeFunc fn first cap).run Tryz.prog w = .ok (.func fn first cap) w := fun _ _ _ _ => rfl
  have hb : Below w.heap.size w (w.alloc (.cells #[.func (Fn.func k) #[] cap] 302)) := (Below.refl _ _).alloc (Nat.le_refl _) _
  have hs := ask64_ok (w.alloc (.cells #[.func (Fn.func k) #[] cap] 302)) 9221120237041090560 r 315 #[.pointer (some ⟨w.heap.size, 0, none⟩)] xs g c (hn.below hg hb) (by simp; omega) hl h (call78 _)
    (fun w1 hb1 => inner_some w1 w.heap.size k cap r (boxed rfl (by simpa using hb1)) hK ((ht.below hb).below hb1) hr)
  have HS := Lib.hid hs
  have HB := Lib.hid hb
  clear hs hb hn h hK ht hr
  go_enter Tryz.func310, Tryz.ntmps310
  go_wp2_with fail
  refine HS.out.mono ?_
  rintro e w2 ⟨rfl, hb2⟩
  have HB2 := Lib.hid hb2
  clear hb2
  go_wp2_with fail
  go_ret
  exact ⟨rfl, HB.out.trans (HB2.out.mono (by simp))⟩
set_option maxRecDepth 100000 in
theorem bits_none (w : World) (k : Nat) (cap : Array Value) (xs : List Nat) (g c : Nat) (hn : Nums w g xs) (hg : g < w.heap.size) (hl : xs.length ≤ 100) (h : ∀ j, j < xs.length → noneB (xs.getD j 0) = false)
    (hK : ∀ w : World, (callFunc k cap).run Tryz.prog w = .ok (.enter k cap) w) (ht : TellsNan k cap w) :
    Calls Tryz.prog 310 #[.func (Fn.func k) #[] cap, .slice (some ⟨g, 0, none⟩) xs.length c] w fun e w' => e = .returned (.int .u64 NAN) ∧ Below w.heap.size w w' := by
  have hmf : ∀ (fn : Fn) (first cap : Array Value) (w : World), (Instr.makeFunc fn first cap).run Tryz.prog w = .ok (.func fn first cap) w := fun _ _ _ _ => rfl
  have hb : Below w.heap.size w (w.alloc (.cells #[.func (Fn.func k) #[] cap] 302)) := (Below.refl _ _).alloc (Nat.le_refl _) _
  have hs := ask64_thrown (w.alloc (.cells #[.func (Fn.func k) #[] cap] 302)) 9221120237041090560 315 #[.pointer (some ⟨w.heap.size, 0, none⟩)] xs g c (hn.below hg hb) (by simp; omega) hl h (call78 _)
    (fun w1 hb1 => inner_none w1 w.heap.size k cap (boxed rfl (by simpa using hb1)) hK ((ht.below hb).below hb1))
  have HS := Lib.hid hs
  have HB := Lib.hid hb
  clear hs hb hn h hK ht
  go_enter Tryz.func310, Tryz.ntmps310
  go_wp2_with fail
  refine HS.out.mono ?_
  rintro e w2 ⟨rfl, hb2⟩
  have HB2 := Lib.hid hb2
  clear hb2
  go_wp2_with fail
  go_ret
  exact ⟨rfl, HB.out.trans (HB2.out.mono (by simp))⟩
set_option maxRecDepth 100000 in
theorem bits_bad (w : World) (k : Nat) (cap : Array Value) (xs : List Nat) (g c : Nat) (hn : Nums w g xs) (hg : g < w.heap.size) (hl : xs.length ≤ 100) (m : Nat) (hm : m < xs.length) (h : noneB (xs.getD m 0) = true) :
    Calls Tryz.prog 310 #[.func (Fn.func k) #[] cap, .slice (some ⟨g, 0, none⟩) xs.length c] w fun e w' => e = .returned (.int .u64 NAN) ∧ Below w.heap.size w w' := by
  have hmf : ∀ (fn : Fn) (first cap : Array Value) (w : World), (Instr.makeFunc fn first cap).run Tryz.prog w = .ok (.func fn first cap) w := fun _ _ _ _ => rfl
  have hb : Below w.heap.size w (w.alloc (.cells #[.func (Fn.func k) #[] cap] 302)) := (Below.refl _ _).alloc (Nat.le_refl _) _
  have hs := ask64_bad (w.alloc (.cells #[.func (Fn.func k) #[] cap] 302)) 9221120237041090560 (.func (Fn.func 315) #[] #[.pointer (some ⟨w.heap.size, 0, none⟩)]) xs g c (hn.below hg hb) (by simp; omega) hl m hm h
  have HS := Lib.hid hs
  have HB := Lib.hid hb
  clear hs hb hn h
  go_enter Tryz.func310, Tryz.ntmps310
  go_wp2_with fail
  refine HS.out.mono ?_
  rintro e w2 ⟨rfl, hb2⟩
  have HB2 := Lib.hid hb2
  clear hb2
  go_wp2_with fail
  go_ret
  exact ⟨rfl, HB.out.trans (HB2.out.mono (by simp))⟩
end Go.Proofs.YtilbbemdinpjcaaGreat.T
