/-
  Raw: bytes go behind a writer's own.
-/
import Derived.Test.YtilbbemdinpjcaaGreatProg
import Derived.WalkKit
import Derived.WalkSpells
import Derived.WalkLawsBesides
import Derived.Outline
import Derived.Maps.AppendAt
import Derived.OwnWalk
import Derived.Below
import Derived.Laws.Rows
import Derived.Lib.Hide
import Derived.WalkSmall
import Derived.LaidEqlPtr
import Derived.Deep.DeepMust
import Derived.Deep.AppendLies
import Derived.Deep.MidRow
namespace Go.Proofs.YtilbbemdinpjcaaGreat.W
open Go.RowKit

def B8 (l : List UInt8) : Array Value := (l.map fun b => Value.int .u8 b.toNat).toArray

theorem B8_size (l : List UInt8) : (B8 l).size = l.length := by simp [B8]
theorem B8_get (l : List UInt8) (i : Nat) (h : i < l.length) : (B8 l)[i]? = some (.int .u8 (l.getD i 0).toNat) := by
  simp [B8, h]
theorem B8_set (l : List UInt8) (i : Nat) (b : UInt8) : (B8 l).setIfInBounds i (.int .u8 b.toNat) = B8 (l.set i b) := by
  simp [B8, List.map_set]

/-- A block of cells that stands whole in a world. -/
def Lies (w : World) (g : Nat) (cs : Array Value) (t : TypeId) : Prop := w.heap[g]? = some (.cells cs t (0, 0))

theorem Lies.cell {w : World} {g : Nat} {cs : Array Value} {t : TypeId} (h : Lies w g cs t) (j : Nat) {v : Value} (hv : cs[j]? = some v) : w.cell? ⟨g, j, none⟩ = some v :=
  (cell_of_row w g j cs t (0, 0) h).trans hv
theorem Lies.free {w : World} {g : Nat} {cs : Array Value} {t : TypeId} (h : Lies w g cs t) (j : Nat) : w.frozen? ⟨g, j, none⟩ = false :=
  frozen_of_row w g j cs t h
theorem Lies.drew {w : World} {g : Nat} {cs : Array Value} {t : TypeId} (h : Lies w g cs t) : Lies w.drew g cs t := h
theorem Lies.alloc {w : World} {g : Nat} {cs : Array Value} {t : TypeId} (h : Lies w g cs t) (o : Obj) : Lies (w.alloc o) g cs t :=
  (Below.heap_alloc w o g (Array.getElem?_eq_some_iff.1 h).1).trans h
theorem Lies.lt {w : World} {g : Nat} {cs : Array Value} {t : TypeId} (h : Lies w g cs t) : g < w.heap.size := (Array.getElem?_eq_some_iff.1 h).1
theorem Lies.set {w : World} {g : Nat} {cs : Array Value} {t : TypeId} (h : Lies w g cs t) (j : Nat) (v : Value) : Lies (w.setCell ⟨g, j, none⟩ v) g (cs.setIfInBounds j v) t :=
  heap_setCell_same w g j cs t v h
theorem Lies.other {w : World} {g : Nat} {cs : Array Value} {t : TypeId} (h : Lies w g cs t) (a : Addr) (v : Value) (hne : g ≠ a.block) : Lies (w.setCell a v) g cs t :=
  (heap_setCell_other w a g v hne).trans h
theorem Lies.below {B : Nat} {w w' : World} {g : Nat} {cs : Array Value} {t : TypeId} (h : Lies w g cs t) (hb : Below B w w') (hg : g < B) : Lies w' g cs t :=
  (hb.block g hg).trans h
theorem Lies.new (w : World) (cs : Array Value) (t : TypeId) : Lies (w.alloc (.cells cs t)) w.heap.size cs t := heap_alloc_new w _

theorem size_set (w : World) (a : Addr) (v : Value) : (w.setCell a v).heap.size = w.heap.size := by simp [World.setCell]

theorem B8_one (l : List UInt8) : (B8 l).all (·.oneCell') = true := by
  rw [Array.all_eq_true_iff_forall_mem]; intro v hv; simp [B8] at hv; obtain ⟨_, _, rfl⟩ := hv; rfl
theorem Lies.setRow {w : World} {g : Nat} {cs : Array Value} {t : TypeId} (h : Lies w g cs t) (cs' : Array Value) : Lies (w.setRow g cs') g cs' t := setRow_heap w g cs cs' t _ h
theorem Lies.setRowOther {w : World} {g : Nat} {cs : Array Value} {t : TypeId} (h : Lies w g cs t) (k : Nat) (cs' : Array Value) (hne : g ≠ k) : Lies (w.setRow k cs') g cs t := (setRow_other w k g cs' hne).trans h
theorem below_setRow {B : Nat} {a w : World} (h : Below B a w) (g : Nat) (cs : Array Value) (hg : B ≤ g) : Below B a (w.setRow g cs) :=
  h.trans ⟨rfl, rfl, rfl, by simp, fun k hk => setRow_other w g k cs (by omega)⟩

theorem grown_set {w wr : World} {b : Nat} (h : w.grownBy wr (some b)) (j : Nat) (v : Value) : w.grownBy (wr.setCell ⟨b, j, none⟩ v) (some b) :=
  ⟨h.os, h.tape, h.output, by rw [size_set]; exact h.size, fun k hk hne => (heap_setCell_other wr _ k v (fun e => hne (by rw [e]))).trans (h.block k hk hne)⟩
theorem grown_drewN {w wr : World} {o : Option Nat} (h : w.grownBy wr o) (q : Nat) : w.grownBy (wr.drewN q) o := ⟨h.os, h.tape, h.output, h.size, h.block⟩
theorem grown_drew {w wr : World} {o : Option Nat} (h : w.grownBy wr o) : w.grownBy wr.drew o := ⟨h.os, h.tape, h.output, h.size, h.block⟩
theorem grown_trans {w w1 w2 : World} {b : Nat} (h : w.grownBy w1 (some b)) (k : w1.grownBy w2 (some b)) : w.grownBy w2 (some b) :=
  ⟨k.os.trans h.os, k.tape.trans h.tape, k.output.trans h.output, Nat.le_trans h.size k.size, fun i hi hne => (k.block i (Nat.lt_of_lt_of_le hi h.size) hne).trans (h.block i hi hne)⟩
theorem grown_below {w w' : World} (h : Below w.heap.size w w') (o : Option Nat) : w.grownBy w' o := ⟨h.os, h.tape, h.output, h.size, fun k hk _ => h.block k hk⟩
theorem grown_refl (w : World) (o : Option Nat) : w.grownBy w o := ⟨rfl, rfl, rfl, Nat.le_refl _, fun _ _ _ => rfl⟩
theorem Lies.grown {w w' : World} {g b : Nat} {cs : Array Value} {t : TypeId} (h : Lies w g cs t) (hb : w.grownBy w' (some b)) (hne : g ≠ b) : Lies w' g cs t :=
  (hb.block g h.lt (fun e => hne (Option.some.inj e))).trans h
theorem own_kept {w w' : World} {base : Nat} {e : TypeId} {size n : Nat} {u : Value} {xs : List Value} {o : Option Nat} (h : w.ownsRow base e size u n xs) (hg : w.grownBy w' o) (hne : ∀ g, u.ownBlock = some g → o ≠ some g) :
    w'.ownsRow base e size u n xs := by
  refine ⟨h.1, ?_⟩
  rcases h.2 with hn | ⟨g, cap, cur, h1, h2, h3, h4⟩
  · exact .inl hn
  · exact .inr ⟨g, cap, cur, h1, h2, (hg.block g (Array.getElem?_eq_some_iff.1 h3).1 (fun e => hne g (by rw [h1]; rfl) e.symm)).trans h3, h4⟩
theorem own_lt {w : World} {base : Nat} {e : TypeId} {size n : Nat} {u : Value} {xs : List Value} (h : w.ownsRow base e size u n xs) {g : Nat} (hu : u.ownBlock = some g) : g < w.heap.size := by
  rcases h.2 with ⟨rfl, _⟩ | ⟨g2, cap, cur, rfl, h2, h3, h4⟩
  · simp [Value.ownBlock] at hu
  · obtain rfl : g2 = g := by simpa [Value.ownBlock] using hu
    exact (Array.getElem?_eq_some_iff.1 h3).1
/-- The two lie in two blocks, or in none. -/
def Apart (v u : Value) : Prop := ∀ g, v.ownBlock = some g → u.ownBlock ≠ some g
theorem Apart.symm {v u : Value} (h : Apart v u) : Apart u v := fun g h1 h2 => h g h2 h1
theorem Apart.grown {v v' u : Value} {B : Nat} (h : Apart v u) (hat : v'.ownBlock = v.ownBlock ∨ v'.ownBlock = some B) (hlt : ∀ g, u.ownBlock = some g → g < B) : Apart v' u := by
  intro g h1 h2
  rcases hat with e | e
  · exact h g (e ▸ h1) h2
  · have := hlt g h2
    rw [e] at h1
    have := Option.some.inj h1
    omega
end Go.Proofs.YtilbbemdinpjcaaGreat.W
namespace Go.Proofs.YtilbbemdinpjcaaGreat.W
open Go.RowKit

theorem info53 : (Tryz.prog.info? 127).isSome = true := by kernel_rfl
theorem eql_self (w : World) (a : Addr) : (binOp .eql 125 (.pointer (some a)) (.pointer (some a))).run Tryz.prog w = .ok (.bool true) w := by
  obtain ⟨i, hi⟩ := Option.isSome_iff_exists.1 info53
  exact run_eql_ptr_same (tp := 125) (te := 127) w a Tryz.underlying125 hi
theorem eql_none (w : World) (a : Addr) : (binOp .eql 125 (.pointer none) (.pointer (some a))).run Tryz.prog w = .ok (.bool false) w := by
  have h : ∀ d : Nat, (Op.equalIn (d + 1) 125 (.pointer none) (.pointer (some a))).run Tryz.prog w = .ok false w := fun d => by
    simp [Op.equalIn, run_underlying (P := Tryz.prog) Tryz.underlying125]
  simp only [binOp]
  simp [Op.equal, Op.maxDepth, h 9999]

set_option maxRecDepth 100000 in
theorem begin_any (w : World) (g : Nat) (v : Value) (h : w.cell? ⟨g, 0, none⟩ = some v) (hf : w.frozen? ⟨g, 0, none⟩ = false) (h1 : v.oneCell' = true) :
    Calls Tryz.prog 86 #[.pointer (some ⟨g, 0, none⟩)] w fun e w' => e = .returned (.tuple #[]) ∧ w' = w.setCell ⟨g, 0, none⟩ (.pointer (some ⟨g, 0, none⟩)) := by
  go_enter Tryz.func86, Tryz.ntmps86
  go_wp2
  go_end0
  exact ⟨rfl, rfl⟩
set_option maxRecDepth 100000 in
theorem answered_self (w : World) (g : Nat) (h : w.cell? ⟨g, 0, none⟩ = some (.pointer (some ⟨g, 0, none⟩))) :
    Calls Tryz.prog 103 #[.pointer (some ⟨g, 0, none⟩)] w fun e w' => e = .returned (.bool true) ∧ w = w' := by
  have he := eql_self w ⟨g, 0, none⟩
  go_enter Tryz.func103, Tryz.ntmps103
  go_wp2
  go_ret
  exact ⟨rfl, rfl⟩
set_option maxRecDepth 100000 in
theorem answered_none (w : World) (g : Nat) (h : w.cell? ⟨g, 0, none⟩ = some (.pointer none)) :
    Calls Tryz.prog 103 #[.pointer (some ⟨g, 0, none⟩)] w fun e w' => e = .returned (.bool false) ∧ w = w' := by
  have he := eql_none w ⟨g, 0, none⟩
  go_enter Tryz.func103, Tryz.ntmps103
  go_wp2
  go_ret
  exact ⟨rfl, rfl⟩
set_option maxRecDepth 100000 in
theorem sound_self (w : World) (g : Nat) (sp : Bool) (h : w.cell? ⟨g, 0, none⟩ = some (.pointer (some ⟨g, 0, none⟩))) (hs : w.cell? ⟨g, 1, none⟩ = some (.bool sp)) :
    Calls Tryz.prog 174 #[.pointer (some ⟨g, 0, none⟩)] w fun e w' => e = .returned (.bool (!sp)) ∧ w = w' := by
  have he := answered_self w g h
  go_enter Tryz.func174, Tryz.ntmps174
  go_wp2_with fail
  refine he.mono ?_
  rintro e w' ⟨rfl, rfl⟩
  clear he
  go_wp2_with fail
  go_ret
  exact ⟨rfl, rfl⟩
set_option maxRecDepth 100000 in
theorem sound_none (w : World) (g : Nat) (h : w.cell? ⟨g, 0, none⟩ = some (.pointer none)) :
    Calls Tryz.prog 174 #[.pointer (some ⟨g, 0, none⟩)] w fun e w' => e = .returned (.bool false) ∧ w = w' := by
  have he := answered_none w g h
  go_enter Tryz.func174, Tryz.ntmps174
  go_wp2_with fail
  refine he.mono ?_
  rintro e w' ⟨rfl, rfl⟩
  clear he
  go_wp2_with fail
  go_ret
  exact ⟨rfl, rfl⟩
set_option maxRecDepth 100000 in
theorem spoil_any (w : World) (g : Nat) (v : Value) (h : w.cell? ⟨g, 1, none⟩ = some v) (hf : w.frozen? ⟨g, 1, none⟩ = false) (h1 : v.oneCell' = true) :
    Calls Tryz.prog 202 #[.pointer (some ⟨g, 0, none⟩)] w fun e w' => e = .returned (.tuple #[]) ∧ w' = w.setCell ⟨g, 1, none⟩ (.bool true) := by
  go_enter Tryz.func202, Tryz.ntmps202
  go_wp2
  go_end0
  exact ⟨rfl, rfl⟩

/-! ## A writer: its own place, whether it is spoilt, its bytes -/
/-- 'takes': no writer takes nothing. -/
theorem takes_nil (w : World) : Calls Tryz.prog 201 #[.pointer none] w fun e w' => e = .returned (.bool false) ∧ w = w' := by
  go_enter Tryz.func201, Tryz.ntmps201
  go_wp2
  go_ret
  exact ⟨rfl, rfl⟩
set_option maxRecDepth 100000 in
theorem takes_self (w : World) (g : Nat) (sp : Bool) (h : w.cell? ⟨g, 0, none⟩ = some (.pointer (some ⟨g, 0, none⟩))) (hs : w.cell? ⟨g, 1, none⟩ = some (.bool sp)) :
    Calls Tryz.prog 201 #[.pointer (some ⟨g, 0, none⟩)] w fun e w' => e = .returned (.bool (!sp)) ∧ w = w' := by
  have he := sound_self w g sp h hs
  go_enter Tryz.func201, Tryz.ntmps201
  go_wp2_with fail
  refine he.mono ?_
  rintro e w' ⟨rfl, rfl⟩
  clear he
  go_wp2_with fail
  go_ret
  exact ⟨rfl, rfl⟩
set_option maxRecDepth 100000 in
theorem takes_none (w : World) (g : Nat) (h : w.cell? ⟨g, 0, none⟩ = some (.pointer none)) :
    Calls Tryz.prog 201 #[.pointer (some ⟨g, 0, none⟩)] w fun e w' => e = .returned (.bool false) ∧ w = w' := by
  have he := sound_none w g h
  go_enter Tryz.func201, Tryz.ntmps201
  go_wp2_with fail
  refine he.mono ?_
  rintro e w' ⟨rfl, rfl⟩
  clear he
  go_wp2_with fail
  go_ret
  exact ⟨rfl, rfl⟩
end Go.Proofs.YtilbbemdinpjcaaGreat.W
namespace Go.Proofs.YtilbbemdinpjcaaGreat.W
open Go.RowKit

def Idle (w : World) (p : Option Addr) : Prop :=
  p = none ∨ ∃ g, p = some ⟨g, 0, none⟩ ∧ g < w.heap.size ∧ (w.cell? ⟨g, 0, none⟩ = some (.pointer none) ∨ w.cell? ⟨g, 0, none⟩ = some (.pointer (some ⟨g, 0, none⟩)) ∧ w.cell? ⟨g, 1, none⟩ = some (.bool true))
theorem Idle.below {w w' : World} {p : Option Addr} (h : Idle w p) (hb : Below w.heap.size w w') : Idle w' p := by
  rcases h with h | ⟨g, h1, h2, h3⟩
  · exact .inl h
  · refine .inr ⟨g, h1, Nat.lt_of_lt_of_le h2 hb.size, ?_⟩
    rcases h3 with h | ⟨h, h'⟩
    · exact .inl ((hb.cell (p := ⟨g, 0, none⟩) h2).trans h)
    · exact .inr ⟨(hb.cell (p := ⟨g, 0, none⟩) h2).trans h, (hb.cell (p := ⟨g, 1, none⟩) h2).trans h'⟩
theorem takes_idle (w : World) (p : Option Addr) (h : Idle w p) : Calls Tryz.prog 201 #[.pointer p] w fun e w' => e = .returned (.bool false) ∧ w = w' := by
  rcases h with rfl | ⟨g, rfl, _, h | ⟨h, h'⟩⟩
  · exact takes_nil w
  · exact takes_none w g h
  · exact takes_self w g true h h'
/-- What a call does that turns nothing that is there, and tells nothing. -/
def Nothing (w : World) (e : Ending) (w' : World) : Prop := e = .returned (.tuple #[]) ∧ Below w.heap.size w w'

set_option maxRecDepth 100000 in
theorem number_idle (w : World) (p : Option Addr) (n s : Int) (h : Idle w p) : Calls Tryz.prog 125 #[.pointer p, .int .u64 n, .int .i64 s] w fun e w' => e = .returned (.tuple #[]) ∧ w = w' := by
  have he := takes_idle w p h
  go_enter Tryz.func125, Tryz.ntmps125
  go_wp2_with fail
  refine he.mono ?_
  rintro e w' ⟨rfl, rfl⟩
  clear he
  go_wp2_with fail
  refine bodyPost_ret (results_none rfl _ _ _) rfl ?_
  exact ⟨rfl, rfl⟩
set_option maxRecDepth 100000 in
theorem u8_idle (w : World) (p : Option Addr) (n : Int) (h : Idle w p) : Calls Tryz.prog 58 #[.pointer p, .int .i64 n] w fun e w' => e = .returned (.tuple #[]) ∧ w = w' := by
  have he := fun n => number_idle w p n 1 h
  go_enter Tryz.func58, Tryz.ntmps58
  go_wp2_with fail
  refine (he _).mono ?_
  rintro e w' ⟨rfl, rfl⟩
  clear he
  go_wp2_with fail
  go_end0
  exact ⟨rfl, rfl⟩
set_option maxRecDepth 100000 in
theorem u16_idle (w : World) (p : Option Addr) (n : Int) (h : Idle w p) : Calls Tryz.prog 236 #[.pointer p, .int .i64 n] w fun e w' => e = .returned (.tuple #[]) ∧ w = w' := by
  have he := fun n => number_idle w p n 2 h
  go_enter Tryz.func236, Tryz.ntmps236
  go_wp2_with fail
  refine (he _).mono ?_
  rintro e w' ⟨rfl, rfl⟩
  clear he
  go_wp2_with fail
  go_end0
  exact ⟨rfl, rfl⟩
set_option maxRecDepth 100000 in
theorem u32_idle (w : World) (p : Option Addr) (n : Int) (h : Idle w p) : Calls Tryz.prog 239 #[.pointer p, .int .i64 n] w fun e w' => e = .returned (.tuple #[]) ∧ w = w' := by
  have he := fun n => number_idle w p n 4 h
  go_enter Tryz.func239, Tryz.ntmps239
  go_wp2_with fail
  refine (he _).mono ?_
  rintro e w' ⟨rfl, rfl⟩
  clear he
  go_wp2_with fail
  go_end0
  exact ⟨rfl, rfl⟩
set_option maxRecDepth 100000 in
theorem u64_idle (w : World) (p : Option Addr) (n : Int) (h : Idle w p) : Calls Tryz.prog 240 #[.pointer p, .int .u64 n] w fun e w' => e = .returned (.tuple #[]) ∧ w = w' := by
  have he := fun n => number_idle w p n 8 h
  go_enter Tryz.func240, Tryz.ntmps240
  go_wp2_with fail
  refine (he _).mono ?_
  rintro e w' ⟨rfl, rfl⟩
  clear he
  go_wp2_with fail
  go_end0
  exact ⟨rfl, rfl⟩
set_option maxRecDepth 100000 in
theorem i64_idle (w : World) (p : Option Addr) (n : Int) (h : Idle w p) : Calls Tryz.prog 238 #[.pointer p, .int .i64 n] w fun e w' => e = .returned (.tuple #[]) ∧ w = w' := by
  have he := fun n => number_idle w p n 8 h
  go_enter Tryz.func238, Tryz.ntmps238
  go_wp2_with fail
  refine (he _).mono ?_
  rintro e w' ⟨rfl, rfl⟩
  clear he
  go_wp2_with fail
  go_end0
  exact ⟨rfl, rfl⟩
set_option maxRecDepth 100000 in
theorem raw_idle (w : World) (p : Option Addr) (v : Value) (h : Idle w p) : Calls Tryz.prog 267 #[.pointer p, v] w fun e w' => e = .returned (.tuple #[]) ∧ w = w' := by
  have he := takes_idle w p h
  go_enter Tryz.func267, Tryz.ntmps267
  go_wp2_with fail
  refine he.mono ?_
  rintro e w' ⟨rfl, rfl⟩
  clear he
  go_wp2_with fail
  go_end0
  exact ⟨rfl, rfl⟩
set_option maxRecDepth 100000 in
theorem text_idle (w : World) (p : Option Addr) (s : ByteArray) (h : Idle w p) : Calls Tryz.prog 237 #[.pointer p, .string s] w fun e w' => e = .returned (.tuple #[]) ∧ w = w' := by
  have he := takes_idle w p h
  have hu := fun n => u16_idle w p n h
  go_enter Tryz.func237, Tryz.ntmps237
  go_wp2_with fail
  refine (hu _).mono ?_
  rintro e w' ⟨rfl, rfl⟩
  clear hu
  go_wp2_with fail
  refine he.mono ?_
  rintro e w' ⟨rfl, rfl⟩
  clear he
  go_wp2_with fail
  go_end0
  exact ⟨rfl, rfl⟩
set_option maxRecDepth 100000 in
theorem flag_idle (w : World) (p : Option Addr) (b : Bool) (h : Idle w p) : Calls Tryz.prog 266 #[.pointer p, .bool b] w fun e w' => e = .returned (.tuple #[]) ∧ w = w' := by
  have he := fun n => u8_idle w p n h
  cases b
  all_goals
    go_enter Tryz.func266, Tryz.ntmps266
    go_wp2_with fail
    refine (he _).mono ?_
    rintro e w' ⟨rfl, rfl⟩
    clear he
    go_wp2_with fail
    go_end0
    exact ⟨rfl, rfl⟩
set_option maxRecDepth 100000 in
theorem spoil_idle (w : World) (p : Option Addr) (h : Idle w p) : Calls Tryz.prog 193 #[.pointer p] w fun e w' => e = .returned (.tuple #[]) ∧ w = w' := by
  have he := takes_idle w p h
  go_enter Tryz.func193, Tryz.ntmps193
  go_wp2_with fail
  refine he.mono ?_
  rintro e w' ⟨rfl, rfl⟩
  clear he
  go_wp2_with fail
  go_end0
  exact ⟨rfl, rfl⟩
end Go.Proofs.YtilbbemdinpjcaaGreat.W
namespace Go.Proofs.YtilbbemdinpjcaaGreat.W
open Go.RowKit

/-- A writer in block g whose bytes are l, in a row of its own above B. -/
def Wr (w : World) (B g : Nat) (l : List UInt8) : Prop :=
  ∃ v, Lies w g #[.pointer (some ⟨g, 0, none⟩), .bool false, v] 159 ∧ w.ownsRow B 5 1 v l.length (B8 l).toList ∧ v.ownBlock ≠ some g ∧ B ≤ g

set_option maxRecDepth 100000 in
theorem newwriter_any (w : World) : Calls Tryz.prog 36 #[] w fun e w' => e = .returned (.pointer (some ⟨w.heap.size, 0, none⟩)) ∧ Wr w' w.heap.size w.heap.size [] ∧ Below w.heap.size w w' := by
  go_enter Tryz.func36, Tryz.ntmps36
  go_wp2_with fail
  have hl := Lies.new w #[.pointer none, .bool false, .slice none 0 0] 159
  have hb : Below w.heap.size w (w.alloc (.cells #[.pointer none, .bool false, .slice none 0 0] 159)) := (Below.refl _ _).alloc (Nat.le_refl _) _
  generalize w.alloc (.cells #[.pointer none, .bool false, .slice none 0 0] 159) = w1 at hl hb ⊢
  refine (begin_any w1 w.heap.size (.pointer none) (hl.cell 0 rfl) (hl.free 0) rfl).mono ?_
  rintro e w2 ⟨rfl, hw2⟩
  have hl2 : Lies w2 w.heap.size #[.pointer (some ⟨w.heap.size, 0, none⟩), .bool false, .slice none 0 0] 159 := by rw [hw2]; exact hl.set 0 _
  have hb2 : Below w.heap.size w w2 := by rw [hw2]; exact hb.setCell (Nat.le_refl _) _
  have HX := Lib.hid (And.intro hl2 hb2)
  clear hl hb hl2 hb2 hw2
  go_wp2_with fail
  go_ret
  exact ⟨rfl, ⟨_, HX.out.1, World.ownsRow_nil _ _ _ _, by simp [Value.ownBlock], Nat.le_refl _⟩, HX.out.2⟩

/-- Only the writer, its own row and new memory may have turned. -/
structure Only (g : Nat) (w w' : World) (o : Option Nat) : Prop where
  os : w'.os = w.os
  tape : w'.tape = w.tape
  output : w'.output = w.output
  size : w.heap.size ≤ w'.heap.size
  block : ∀ k, k < w.heap.size → k ≠ g → some k ≠ o → w'.heap[k]? = w.heap[k]?
theorem Only.refl (g : Nat) (w : World) (o : Option Nat) : Only g w w o := ⟨rfl, rfl, rfl, Nat.le_refl _, fun _ _ _ _ => rfl⟩
end Go.Proofs.YtilbbemdinpjcaaGreat.W
namespace Go.Proofs.YtilbbemdinpjcaaGreat.W
open Go.RowKit

theorem info5 : (Tryz.prog.info? 5).map (fun i => (i.zero, i.size, i.bytes)) = some (some (.int .u8 0), 1, 1) := by kernel_rfl
def Src (w : World) (g off : Nat) (xs : List UInt8) : Prop := ∀ j, j < xs.length → w.cell? ⟨g, off + j, none⟩ = some (.int .u8 (xs.getD j 0).toNat)
theorem src_news {w : World} {g off : Nat} {l : List UInt8} (h : Src w g off l) : ∀ j u, (B8 l).toList[j]? = some u → w.cell? ((⟨g, off, none⟩ : Addr).add j) = some u := by
  intro j u hu
  rw [Addr.add_mid]
  have hj : j < l.length := by
    have := (List.getElem?_eq_some_iff.1 hu).1
    rwa [Array.length_toList, B8_size] at this
  rw [Array.getElem?_toList, B8_get l j hj] at hu
  rw [h j hj, ← hu]
theorem byts_one (l : List UInt8) : ∀ u, u ∈ (B8 l).toList → u.oneCell' = true := by
  intro u hu
  exact (Array.all_eq_true_iff_forall_mem.1 (B8_one l)) u (by simpa using hu)
/-- A writer in block g whose bytes are l, in the row v of its own above B. -/
def WrV (w : World) (B g : Nat) (v : Value) (l : List UInt8) : Prop :=
  Lies w g #[.pointer (some ⟨g, 0, none⟩), .bool false, v] 159 ∧ w.ownsRow B 5 1 v l.length (B8 l).toList ∧ v.ownBlock ≠ some g ∧ B ≤ g
/-- Behind a call that put more: the row is the old one or a new one. -/
def More (w : World) (B g : Nat) (v : Value) (l : List UInt8) (w' : World) : Prop :=
  ∃ v', WrV w' B g v' l ∧ Only g w w' v.ownBlock ∧ (v'.ownBlock = v.ownBlock ∨ ∃ k, v'.ownBlock = some k ∧ w.heap.size ≤ k ∧ k < w'.heap.size)
theorem own_set {w : World} {base : Nat} {e : TypeId} {size n : Nat} {u : Value} {xs : List Value} {g j : Nat} {x : Value} (h : w.ownsRow base e size u n xs) (hne : u.ownBlock ≠ some g) : (w.setCell ⟨g, j, none⟩ x).ownsRow base e size u n xs := by
  refine ⟨h.1, ?_⟩
  rcases h.2 with hn | ⟨k, cap, cur, h1, h2, h3, h4⟩
  · exact .inl hn
  · exact .inr ⟨k, cap, cur, h1, h2, (heap_setCell_other w _ k x (fun e => hne (by rw [h1]; show some k = some g; rw [e]))).trans h3, h4⟩
theorem own_slice {w : World} {base : Nat} {e : TypeId} {size n : Nat} {u : Value} {xs : List Value} (h : w.ownsRow base e size u n xs) : ∃ A c, u = .slice A n c := by
  rcases h.2 with ⟨hv, h0⟩ | ⟨g, cap, cur, rfl, _⟩
  · exact ⟨none, 0, by rw [hv, h0]⟩
  · exact ⟨_, cap, rfl⟩
/-- Bytes went behind the row: the writer holds the new row. -/
theorem more_of {w w1 : World} {B g : Nat} {v v' : Value} {l l2 : List UInt8} (h : WrV w B g v l) (hown : w1.ownsRow B 5 1 v' l2.length (B8 l2).toList) (hg : w.grownBy w1 v.ownBlock) (hat : v'.ownBlock = v.ownBlock ∨ v'.ownBlock = some w.heap.size) :
    More w B g v l2 (w1.setCell ⟨g, 2, none⟩ v') := by
  obtain ⟨h1, h2, h3, h4⟩ := h
  have hgl : g < w.heap.size := h1.lt
  have hne : v'.ownBlock ≠ some g := by
    rcases hat with e | e
    · rw [e]; exact h3
    · rw [e]; intro e2; have := Option.some.inj e2; omega
  have hl1 : Lies w1 g #[.pointer (some ⟨g, 0, none⟩), .bool false, v] 159 := (hg.block g hgl (fun e => h3 e.symm)).trans h1
  refine ⟨v', ⟨hl1.set 2 v', own_set hown hne, hne, h4⟩, ⟨hg.os, hg.tape, hg.output, by rw [size_set]; exact hg.size, fun k hk h5 h6 => (heap_setCell_other w1 _ k v' h5).trans (hg.block k hk h6)⟩, ?_⟩
  rcases hat with e | e
  · exact .inl e
  · exact .inr ⟨_, e, Nat.le_refl _, by rw [size_set]; exact own_lt hown e⟩

/-- Bytes that stand from a place on, wherever that is. -/
def SrcA (w : World) (ad : Addr) (xs : List UInt8) : Prop := ∀ j u, (B8 xs).toList[j]? = some u → w.cell? (ad.add j) = some u
theorem block_lt {w : World} {a : Addr} {v : Value} (h : w.cell? a = some v) : a.block < w.heap.size := by
  apply Decidable.byContradiction
  intro hn
  have e : w.heap[a.block]? = none := by simp; omega
  unfold World.cell? at h
  simp [e] at h
theorem adds_block (a : Addr) (j : Nat) : (a.add j).block = a.block := by unfold Addr.add; split <;> rfl
theorem SrcA.below {B : Nat} {w w' : World} {ad : Addr} {xs : List UInt8} (h : SrcA w ad xs) (hb : Below B w w') (hB : 0 < xs.length → ad.block < B) : SrcA w' ad xs := by
  intro j u hu
  have hj := (List.getElem?_eq_some_iff.1 hu).1
  rw [Array.length_toList, B8_size] at hj
  exact (hb.cell (p := ad.add j) (by rw [adds_block]; exact hB (by omega))).trans (h j u hu)
theorem SrcA.lt {w : World} {ad : Addr} {xs : List UInt8} (h : SrcA w ad xs) (hp : 0 < xs.length) : ad.block < w.heap.size :=
  by
    have := block_lt (h 0 _ (List.getElem?_eq_getElem (by rw [Array.length_toList, B8_size]; exact hp)))
    rwa [adds_block] at this
set_option maxRecDepth 100000 in
set_option maxHeartbeats 1000000 in
theorem raw_anyA (w : World) (B g : Nat) (v : Value) (l xs : List UInt8) (ad : Addr) (c : Nat) (h : WrV w B g v l) (hs : SrcA w ad xs) (hB : B ≤ w.heap.size) (hx : l.length + xs.length ≤ 2000000) :
    Calls Tryz.prog 267 #[.pointer (some ⟨g, 0, none⟩), .slice (some ad) xs.length c] w fun e w' => e = .returned (.tuple #[]) ∧ More w B g v (l ++ xs) w' := by
  obtain ⟨i0, hi0, hz0, hz1, hz2⟩ := info_parts info5
  have ht := takes_self w g false (h.1.cell 0 rfl) (h.1.cell 1 rfl)
  have c2 : w.cell? ⟨g, 2, none⟩ = some v := h.1.cell 2 rfl
  have HW := Lib.hid h
  have HS := Lib.hid hs
  clear h hs
  go_enter Tryz.func267, Tryz.ntmps267
  go_wp2_with fail
  refine ht.mono ?_
  rintro e w1 ⟨rfl, rfl⟩
  clear ht
  go_wp2_with (at_builtin; go_must (refine wpList_append_own_at _ rfl _ _ 54 rfl B 5 i0 (.int .u8 0) 1 1 Tryz.underlying54 hi0 hz0 hz1 hz2 rfl (by decide) v l.length (B8 l).toList rfl HW.out.2.1 ad xs.length c (B8 xs).toList rfl (by rw [Array.length_toList, B8_size, Nat.mul_one]) HS.out (byts_one _) (by unfold maxLen; omega) (by omega) hB ?_; intro v' w1 hown hgrow _ hat; obtain ⟨A', cc, rfl⟩ := own_slice hown; have c3 : w1.cell? ⟨g, 2, none⟩ = some v := (Lies.cell ((hgrow.block g HW.out.1.lt (fun e => HW.out.2.2.1 e.symm)).trans HW.out.1) 2 rfl); have f3 : w1.frozen? ⟨g, 2, none⟩ = false := (Lies.free (show Lies w1 g _ 159 from (hgrow.block g HW.out.1.lt (fun e => HW.out.2.2.1 e.symm)).trans HW.out.1) 2)))
  go_end0
  refine ⟨rfl, more_of HW.out ?_ hgrow hat⟩
  have e : (B8 (l ++ xs)).toList = (B8 l).toList ++ (B8 xs).toList := by simp [B8]
  rw [e, List.length_append]
  exact hown
theorem raw_any (w : World) (B g : Nat) (v : Value) (l xs : List UInt8) (gx off c : Nat) (h : WrV w B g v l) (hs : Src w gx off xs) (hB : B ≤ w.heap.size) (hx : l.length + xs.length ≤ 2000000) :
    Calls Tryz.prog 267 #[.pointer (some ⟨g, 0, none⟩), .slice (some ⟨gx, off, none⟩) xs.length c] w fun e w' => e = .returned (.tuple #[]) ∧ More w B g v (l ++ xs) w' :=
  raw_anyA w B g v l xs _ c h (src_news hs) hB hx
end Go.Proofs.YtilbbemdinpjcaaGreat.W
