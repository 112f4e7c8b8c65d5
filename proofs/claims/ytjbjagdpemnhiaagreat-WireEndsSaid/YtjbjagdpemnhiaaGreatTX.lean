/-
  The world while what is told is filled: in block B + 2; what is handed back lies in block B + 1. What any ask tells.
-/
import Derived.Test.YtjbjagdpemnhiaaGreatRRf4
import Derived.Test.YtjbjagdpemnhiaaGreatTellHash
namespace Go.Proofs.YtjbjagdpemnhiaaGreat
open Go.RowKit

/-- Values laid one behind the other. -/
def sets (T : Array Value) (o : Nat) : List Value → Array Value
  | [] => T
  | v :: vs => sets (T.setIfInBounds o v) (o + 1) vs
theorem sets_size (vs : List Value) : ∀ (T : Array Value) (o : Nat), (sets T o vs).size = T.size := by
  induction vs with
  | nil => intro T o; rfl
  | cons v vs ih => intro T o; rw [sets, ih]; simp
theorem Lies.sets {w : World} {g : Nat} {cs : Array Value} {t : TypeId} (h : Lies w g cs t) (vs : List Value) : ∀ (o : Nat), Lies (w.setCells g o vs) g (sets cs o vs) t := by
  induction vs generalizing w cs with
  | nil => intro o; exact h
  | cons v vs ih =>
    intro o
    rw [World.setCells]
    exact ih (h.set o v) (o + 1)
def OneAll (T : Array Value) : Prop := ∀ (j : Nat) (v : Value), T[j]? = some v → v.oneCell' = true
theorem OneAll.set {T : Array Value} (h : OneAll T) (o : Nat) (v : Value) (hv : v.oneCell' = true) : OneAll (T.setIfInBounds o v) := by
  intro j u hu
  rw [Array.getElem?_setIfInBounds] at hu
  split at hu
  · split at hu
    · cases hu; exact hv
    · cases hu
  · exact h j u hu
theorem OneAll.sets {vs : List Value} (hv : ∀ v ∈ vs, v.oneCell' = true) : ∀ {T : Array Value} (_ : OneAll T) (o : Nat), OneAll (Go.Proofs.YtjbjagdpemnhiaaGreat.sets T o vs) := by
  induction vs with
  | nil => intro T h o; exact h
  | cons v vs ih =>
    intro T h o
    exact ih (fun u hu => hv u (by simp [hu])) (h.set o v (hv v (by simp))) (o + 1)
theorem setCells_size (w : World) (b : Nat) (vs : List Value) : ∀ o, (w.setCells b o vs).heap.size = w.heap.size := by
  induction vs generalizing w with
  | nil => intro o; rfl
  | cons v vs ih => intro o; rw [World.setCells, ih, size_set]
theorem only_cells {g b : Nat} {w0 w : World} (h : Only g w0 w none) (hb : w0.heap.size ≤ b) (vs : List Value) : ∀ o, Only g w0 (w.setCells b o vs) none := by
  induction vs generalizing w with
  | nil => intro o; exact h
  | cons v vs ih =>
    intro o
    rw [World.setCells]
    exact ih (w := w.setCell ⟨b, o, none⟩ v) ⟨h.os, h.tape, h.output, by rw [size_set]; exact h.size, fun k hk h1 h2 => (heap_setCell_other w ⟨b, o, none⟩ k v (by show k ≠ b; omega)).trans (h.block k hk h1 h2)⟩ (o + 1)
structure TX (w W : World) (g : Nat) (T : Array Value) : Prop where
  told : Lies W (w.heap.size + 2) T 49
  back : Lies W (w.heap.size + 1) (toldE 0) 49
  only : Only g w W none
  glt : g < w.heap.size
  sz : T.size = 39
  one : OneAll T
theorem TX.call {w W W' : World} {g : Nat} {T : Array Value} (h : TX w W g T) (ho : Only g W W' none) : TX w W' g T :=
  ⟨ho.lies h.told (by have := h.glt; omega), ho.lies h.back (by have := h.glt; omega), h.only.trans0 ho, h.glt, h.sz, h.one⟩
theorem TX.put {w W : World} {g : Nat} {T : Array Value} (h : TX w W g T) (j : Nat) (v : Value) (hv : v.oneCell' = true) : TX w (W.setCell ⟨w.heap.size + 2, j, none⟩ v) g (T.setIfInBounds j v) :=
  ⟨h.told.set j v, h.back.other _ v (by show w.heap.size + 1 ≠ w.heap.size + 2; omega), only_cells (b := w.heap.size + 2) h.only (by omega) [v] j, h.glt, by simpa using h.sz, h.one.set j v hv⟩
theorem TX.puts {w W : World} {g : Nat} {T : Array Value} (h : TX w W g T) (j : Nat) (vs : List Value) (hv : ∀ v ∈ vs, v.oneCell' = true) : TX w (W.setCells (w.heap.size + 2) j vs) g (sets T j vs) :=
  ⟨h.told.sets vs j, h.back.outs (by omega) vs j, only_cells h.only (by omega) vs j, h.glt, by rw [sets_size]; exact h.sz, h.one.sets hv j⟩
theorem TX.old {w W : World} {g : Nat} {T : Array Value} (h : TX w W g T) (j : Nat) (hj : j < 39) : ∃ v, W.cell? ⟨w.heap.size + 2, j, none⟩ = some v ∧ v.oneCell' = true := by
  have e : T[j]? = some (T[j]'(by rw [h.sz]; exact hj)) := Array.getElem?_eq_getElem _
  exact ⟨_, h.told.cell j e, h.one j _ e⟩
theorem TX.start (w : World) (cs : Array Value) (g : Nat) (hg : g < w.heap.size) : TX w (((w.alloc (.cells cs 28)).alloc (.cells (toldE 0) 49)).alloc (.cells (toldE 0) 49)) g (toldE 0) := by
  have t := TW.start w cs
  exact ⟨t.told, t.back, only_below t.below, hg, rfl, fun j v hv => (Array.all_eq_true_iff_forall_mem.1 (told_one 0)) v (Array.mem_of_getElem? hv)⟩
theorem TX.below (w : World) (cs : Array Value) : Below w.heap.size w (((w.alloc (.cells cs 28)).alloc (.cells (toldE 0) 49)).alloc (.cells (toldE 0) 49)) := (TW.start w cs).below
theorem only_self (b j : Nat) (w : World) (v : Value) : Only b w (w.setCell ⟨b, j, none⟩ v) none := only_set b j w v
theorem only_selfs (b : Nat) (w : World) (vs : List Value) : ∀ j, Only b w (w.setCells b j vs) none := by
  induction vs generalizing w with
  | nil => intro j; exact Only.refl b w none
  | cons v vs ih =>
    intro j
    rw [World.setCells]
    exact (only_set b j w v).trans0 (ih _ (j + 1))
theorem RfR.newer {w w' : World} {g B : Nat} {xs : List UInt8} {st : Option Nat} {k : Nat} (h : RfR w g B xs st) (ho : Only k w w' none) (hk : g < k) : RfR w' g B xs st :=
  h.grown ⟨ho.os, ho.tape, ho.output, ho.size, fun i hi hne => ho.block i hi (fun e => hne (by rw [e])) (by simp)⟩ hk
theorem size_47 {T : Array Value} (h : T.size = 39) : (Tryz.prog.info? 49).map (·.size) = some T.size := by rw [h]; exact size47
theorem all_one {T : Array Value} (h : OneAll T) : T.all (·.oneCell') = true := by
  rw [Array.all_eq_true_iff_forall_mem]
  intro v hv
  obtain ⟨j, hj, e⟩ := Array.getElem_of_mem hv
  exact h j v (by rw [← e]; exact Array.getElem?_eq_getElem hj)
theorem hashV_len (xs : List UInt8) (st : Option Nat) : (hashV xs st).length = 32 := by
  cases st with
  | none => simp [hashV]
  | some a =>
    simp only [hashV]
    split
    · rw [List.length_take, List.length_drop]; omega
    · simp
theorem only_rows (b : Nat) (w : World) (cs : Array Value) : Only b w (w.setRow b cs) none :=
  ⟨rfl, rfl, rfl, by simp, fun i _ h1 _ => setRow_other w b i cs h1⟩
def fin (T : Array Value) (xs : List UInt8) (st : Option Nat) : Array Value :=
  ((T.setIfInBounds 36 (.int .i64 (leftV xs st))).setIfInBounds 37 (.int .i64 (errV st))).setIfInBounds 38 (.bool (endV xs st))
def askT (xs : List UInt8) (st : Option Nat) (n0 n1 : Int) : Array Value :=
  if n0 % 10 = 0 then (toldE 0).setIfInBounds 0 (.int .i64 (numV xs st 1)) else
  if n0 % 10 = 1 then (toldE 0).setIfInBounds 0 (.int .i64 (numV xs st 2)) else
  if n0 % 10 = 2 then (toldE 0).setIfInBounds 0 (.int .i64 (numV xs st 4)) else
  if n0 % 10 = 3 then (toldE 0).setIfInBounds 1 (.int .u64 (numV xs st 8)) else
  if n0 % 10 = 4 then (toldE 0).setIfInBounds 1 (.int .u64 (IntKind.u64.wrap (IntKind.i64.wrap (numV xs st 8)))) else
  if n0 % 10 = 5 then sets (toldE 0) 2 (B8 (hashV xs st)).toList else
  if n0 % 10 = 6 then (toldE 0).setIfInBounds 34 (.string ⟨(rawV xs st n1).toArray⟩) else
  if n0 % 10 = 7 then (toldE 0).setIfInBounds 34 (.string ⟨(textV xs st n1).toArray⟩) else
  if n0 % 10 = 8 then (toldE 0).setIfInBounds 35 (.bool (flagV xs st)) else
  (toldE 0).setIfInBounds 0 (.int .i64 (countV xs st n1))
def askS (xs : List UInt8) (st : Option Nat) (n0 n1 : Int) : Option Nat :=
  if n0 % 10 = 0 then numS xs st 1 else if n0 % 10 = 1 then numS xs st 2 else if n0 % 10 = 2 then numS xs st 4 else if n0 % 10 = 3 then numS xs st 8 else if n0 % 10 = 4 then numS xs st 8 else
  if n0 % 10 = 5 then numS xs st 32 else if n0 % 10 = 6 then rawS xs st n1 else if n0 % 10 = 7 then textS xs st n1 else if n0 % 10 = 8 then flagS xs st else countS xs st n1
end Go.Proofs.YtjbjagdpemnhiaaGreat
