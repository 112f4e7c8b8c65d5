/-
  The arguments as plain data: bytes, a hash by value; the two listed tables; a world for a witness.
-/
import Derived.Test.YtgempifedhiknaaGreatDoorSameW
import Derived.Test.YtgempifedhiknaaGreatDoorRefOf
import Derived.Test.YtgempifedhiknaaGreatDoorWawk
import Derived.Test.YtgempifedhiknaaGreatDoorCards
import Derived.Test.YtgempifedhiknaaGreatDoorTie
import Derived.WalkKit
import Derived.ProofKit
import Derived.OpenShut
import Derived.Deep.Slices
import Derived.Deep.DeepHandedRow
import Derived.Lib.LaidTab
namespace Go.Proofs.YtgempifedhiknaaGreatDoor
set_option maxRecDepth 100000
open Go.ChangeShapes Go.WideShapes Go.ChangeAt Go.RowKit Go.Deep Sha

/-- A list out of what stands at each place. -/
theorem list_of {α : Type} (z : α) (P : Nat → α → Prop) : ∀ n, (∀ j, j < n → ∃ b, P j b) → ∃ l : List α, l.length = n ∧ ∀ j, j < n → P j (l.getD j z)
  | 0, _ => ⟨[], rfl, fun j hj => absurd hj (by omega)⟩
  | n + 1, h => by
    obtain ⟨l, hl, hp⟩ := list_of z P n (fun j hj => h j (by omega))
    obtain ⟨b, hb⟩ := h n (by omega)
    refine ⟨l ++ [b], by simp [hl], fun j hj => ?_⟩
    by_cases hjn : j < n
    · have := hp j hjn
      rw [List.getD_eq_getElem?_getD, List.getElem?_append_left (by omega), ← List.getD_eq_getElem?_getD]
      exact this
    · obtain rfl : j = n := by omega
      rw [List.getD_eq_getElem?_getD, List.getElem?_append_right (by omega)]
      simpa [hl] using hb
theorem good_none (w : World) (z : Option Addr) (c : Nat) (h : c ≤ maxLen) : Good w ⟨z, [], c⟩ := ⟨Nat.zero_le _, h, fun h => absurd h (by simp)⟩
theorem byte_of {z : Int} (h : (Lit.int .u8 z).wf = true) : ∃ b : UInt8, z = (b.toNat : Int) := by
  have hb : 0 ≤ z ∧ z ≤ 255 := by
    have := bounds_u8 h
    omega
  refine ⟨UInt8.ofNat z.toNat, ?_⟩
  rw [UInt8.toNat_ofNat_of_lt' (by show z.toNat < 256; omega)]
  omega
theorem addr_add (b off : Nat) (i : Nat) : (⟨b, off, none⟩ : Addr).add i = ⟨b, off + i, none⟩ := Addr.add_mid ..

section
variable {H : Type} {enc : TypeId × Value → H} {W : World}
theorem open_bytes {b0 : Nat} {v : Value} {d : DataW H} {p : List MemPlace} (hv : Value.okWide Tryz.prog W .any b0 22 v) (h : DataW.Trod enc Tryz.prog W 0 (fun _ => true) true 22 v d p) :
    ∃ (pa : Option Addr) (xs : List UInt8) (pc : Nat), v = .slice pa xs.length pc ∧ Good W ⟨pa, xs, pc⟩ ∧ (xs.length = 0 ∨ ∃ elems spare : List (DataW H), d = .slice elems spare ∧ elems.length = xs.length) := by
  obtain ⟨a0, len, cap, rfl⟩ := okWide_slice Tryz.underlying22 hv
  obtain ⟨fuel, hf⟩ := h
  rcases open_ints Tryz.underlying22 Tryz.underlying5 cells5 hf with ⟨hcs, hx⟩ | ⟨a, len', cap', zs, hcs, _, hl, hm, hz, hx, hcell, hwz⟩
  · simp only [Value.cells, List.cons.injEq, Value.slice.injEq, and_true] at hcs
    obtain ⟨rfl, rfl, rfl⟩ := hcs
    exact ⟨none, [], 0, rfl, good_none _ _ _ (Nat.zero_le _), .inl rfl⟩
  · simp only [Value.cells, List.cons.injEq, Value.slice.injEq, and_true] at hcs
    obtain ⟨rfl, rfl, rfl⟩ := hcs
    simp only [if_true] at hz
    have hbyte : ∀ j, j < len → ∃ b : UInt8, zs.getD j 0 = (b.toNat : Int) := fun j hj => byte_of (hwz _ (by
      rw [List.getD_eq_getElem?_getD, List.getElem?_eq_getElem (by omega)]
      exact List.getElem_mem _))
    obtain ⟨xs, hxl, hxs⟩ := list_of (0 : UInt8) (fun j b => zs.getD j 0 = (b.toNat : Int)) len hbyte
    subst hxl
    refine ⟨some a, xs, cap, rfl, ⟨hl, hm, fun hp => ?_⟩, .inr ⟨_, _, (Prod.mk.inj hx).1, by simp [lits]; omega⟩⟩
    obtain ⟨b, off, rfl, hc⟩ := ints_at hcell (by have : 0 < xs.length := hp; omega)
    refine ⟨b, off, rfl, ?_, fun j hj => ?_⟩
    · exact World.block_lt_of_cell? W ⟨b, off + 0, none⟩ (hc 0 (by have : 0 < xs.length := hp; omega))
    · have hj' : j < xs.length := hj
      rw [hc j (by omega), hxs j hj']
theorem cells26 : Tryz.prog.cellsOf 24 = 32 := by kernel_rfl
/-- A hash by value is 32 bytes. -/
theorem open_hash {b0 : Nat} {v : Value} {d : DataW H} {p : List MemPlace} (hv : Value.okWide Tryz.prog W .any b0 24 v) (h : DataW.Trod enc Tryz.prog W 0 (fun _ => true) true 24 v d p) :
    ∃ m : List UInt8, v = .agg (B8 m) ∧ m.length = 32 := by
  simp only [Value.okWide, Tryz.underlying24] at hv
  obtain ⟨cs, rfl, hsz, _⟩ := hv
  rw [cells26] at hsz
  obtain ⟨fuel, hf⟩ := h
  obtain ⟨ys, k, _, _, hlen, hyl, hy⟩ := DataW.trod_array Tryz.underlying24 hf
  have hcells : (Value.agg cs).cells = cs := rfl
  rw [hcells] at hy
  have hcell : ∀ j, j < 32 → ∃ b : UInt8, cs[j]? = some (.int .u8 b.toNat) := by
    intro j hj
    have h1 := hy j hj
    rw [cells5, Nat.mul_one] at h1
    have hl : cs.toList.length = 32 := by simpa using hsz
    have hone : (cs.toList.drop j).take 1 = [cs.toList[j]'(by omega)] := by
      rw [List.drop_eq_getElem_cons (by omega)]; rfl
    rw [hone, List.getElem?_eq_getElem (by omega)] at h1
    obtain ⟨z, hz, _, hwf⟩ := DataW.trod_int Tryz.underlying5 h1
    obtain ⟨b, hb⟩ := byte_of hwf
    refine ⟨b, ?_⟩
    rw [← hb, ← Array.getElem?_toList, List.getElem?_eq_getElem (by omega), (List.cons.inj hz).1]
  obtain ⟨m, hm, hms⟩ := list_of (0 : UInt8) (fun j x => cs[j]? = some (.int .u8 x.toNat)) 32 hcell
  refine ⟨m, congrArg Value.agg (Array.ext_getElem? fun j => ?_), hm⟩
  by_cases hj : j < 32
  · rw [hms j hj, B8_get m j (by omega)]
  · rw [Array.getElem?_eq_none (by omega), Array.getElem?_eq_none (by rw [B8_size]; omega)]
end

/-! ### The two tables -/
def startInts : List Int := [1779033703, 3144134277, 1013904242, 2773480762, 1359893119, 2600822924, 528734635, 1541459225]
theorem own : ownKnob Tryz.prog.godebug = none := by kernel_rfl
theorem gStart : Tryz.prog.globalNamed "moidore/sum.start" = some 0 := by kernel_rfl
theorem gCubes : Tryz.prog.globalNamed "moidore/sum.cubes" = some 1 := by kernel_rfl
theorem gStartType : (Tryz.prog.globals[0]?).map (·.type) = some 90 := by kernel_rfl
theorem gCubesType : (Tryz.prog.globals[1]?).map (·.type) = some 280 := by kernel_rfl
theorem cells47 : Tryz.prog.cellsOf 90 = 8 := by kernel_rfl
theorem cells75 : Tryz.prog.cellsOf 280 = 64 := by kernel_rfl
theorem row0 : (((begin Tryz.prog (fun _ _ => 0) default).world.heap[0]?).bind Obj.row?).map (·.2) = some 90 := by kernel_rfl
theorem row1 : (((begin Tryz.prog (fun _ _ => 0) default).world.heap[1]?).bind Obj.row?).map (·.2) = some 280 := by kernel_rfl
def cubeInts : List Int := Sha.cubes.map fun b => (b.toNat : Int)
theorem laid_start : (Rows.laid_moidore_sum_start : DataW Unit) = Lib.tabData .u32 startInts := by kernel_rfl
theorem laid_cubes : (Rows.laid_moidore_sum_cubes : DataW Unit) = Lib.tabData .u32 cubeInts := by kernel_rfl
theorem start_cells : (startInts.map fun z => Value.int .u32 z).toArray = B32 Sha.start.list := by kernel_rfl
theorem cube_cells : (cubeInts.map fun z => Value.int .u32 z).toArray = B32 Sha.cubes := by kernel_rfl

theorem laid_tail {P : Program} {W : World} {x : String × DataW Unit} {rest : List (String × DataW Unit)} (h : laidMet P (x :: rest) W) : laidMet P rest W := by
  obtain ⟨ps, ⟨g, t, cs, fuel, p, q, h1, h2, h3, h4, h5, rfl⟩, hn, hc⟩ := h
  exact ⟨q, h5, (List.nodup_append.1 hn).2.1, fun b off hb => hc b off (by simp [hb])⟩
theorem block_of {W : World} {g : Nat} {t : TypeId} {name : String} {cs : Array Value} (hg : Tryz.prog.globalNamed name = some g) (hlt : g < Tryz.prog.globals.size)
    (hrow : (((begin Tryz.prog (fun _ _ => 0) default).world.heap[g]?).bind Obj.row?).map (·.2) = some t) (hsh : W.ShapedOpen Tryz.prog) (hv : W.var? Tryz.prog name = some cs) : Lies W g cs t := by
  cases hr : ((begin Tryz.prog (fun _ _ => 0) default).world.heap[g]?).bind Obj.row? with
  | none => rw [hr] at hrow; cases hrow
  | some x =>
    obtain ⟨zero, t'⟩ := x
    rw [hr] at hrow
    simp only [Option.map_some, Option.some.injEq] at hrow
    subst hrow
    obtain ⟨cs', hc, _, _⟩ := hsh.1 g zero t' hlt hr
    unfold World.var? at hv
    rw [hg] at hv
    simp only [Option.bind_some, hc, Option.some.injEq] at hv
    subst hv
    exact hc
theorem two_globals : Tryz.prog.globals.size = 2 := by kernel_rfl
theorem tables {W : World} (h : laidMetH Tryz.prog [("moidore/sum.start", Rows.laid_moidore_sum_start), ("moidore/sum.cubes", Rows.laid_moidore_sum_cubes)] W) (hsh : W.ShapedOpen Tryz.prog) : Starts W ∧ Cubes W := by
  have h1 : laidMet Tryz.prog [("moidore/sum.start", Lib.tabData .u32 startInts), ("moidore/sum.cubes", Lib.tabData .u32 cubeInts)] W := by
    rw [← laid_start, ← laid_cubes]; exact h
  have t0 := Lib.tabIs_of_head gStart gStartType Tryz.underlying90 Tryz.underlying88 (by kernel_rfl) cells47 h1
  have t1 := Lib.tabIs_of_head gCubes gCubesType Tryz.underlying280 Tryz.underlying88 (by kernel_rfl) cells75 (laid_tail h1)
  unfold Lib.TabIs at t0 t1
  rw [start_cells] at t0
  rw [cube_cells] at t1
  exact ⟨block_of gStart (by rw [two_globals]; decide) row0 hsh t0, block_of gCubes (by rw [two_globals]; decide) row1 hsh t1⟩

/-! ### A world for a witness: the settled one, both tables holding what their initialisers lay -/
noncomputable def laidCells (cs : Array Value) : Obj → Obj
  | .cells _ t frozen => .cells cs t frozen
  | o => o
noncomputable def laidWorld (os : Os) : World :=
  { World.holding Tryz.prog os ⟨#[], #[], []⟩ with heap := ((World.holding Tryz.prog os ⟨#[], #[], []⟩).heap.modify 0 (laidCells (startInts.map fun z => Value.int .u32 z).toArray)).modify 1 (laidCells (cubeInts.map fun z => Value.int .u32 z).toArray) }
theorem args_stay {H : Type} {enc : TypeId × Value → H} {W W' : World} {t : TypeId} {v : Value} {d : DataW H} {ps : List MemPlace} (hr : Tryz.prog.readableRec t = true) (hrow : t < Tryz.prog.types.size)
    (h : DataW.Trod enc Tryz.prog W 0 (fun _ => true) true t v d ps) (hb : Below W.heap.size W W') (hlt : ∀ x ∈ ps, x.block < W.heap.size) : DataW.Trod enc Tryz.prog W' 0 (fun b => decide (b < W.heap.size)) true t v d ps :=
  Below.trod (by kernel_rfl) hr hrow h hb hlt
end Go.Proofs.YtgempifedhiknaaGreatDoor
