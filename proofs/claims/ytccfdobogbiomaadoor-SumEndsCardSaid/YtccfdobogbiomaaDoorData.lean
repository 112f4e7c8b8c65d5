/-
  The arguments as plain data: bytes, whole numbers, hashes; the two listed tables; a world for a witness.
-/
import Derived.Test.YtccfdobogbiomaaDoorTrio
import Derived.Test.YtccfdobogbiomaaDoorSame
import Derived.Test.YtccfdobogbiomaaDoorCards
import Derived.Test.YtccfdobogbiomaaDoorTie
import Derived.WalkKit
import Derived.ProofKit
import Derived.OpenShut
import Derived.Deep.Slices
import Derived.Deep.DeepHandedRow
import Derived.Lib.LaidTab
namespace Go.Proofs.YtccfdobogbiomaaDoor
open Go.ChangeShapes Go.WideShapes Go.ChangeAt Go.RowKit Go.Deep Sha

/-- A list out of what stands at each place. -/
theorem list_of {α : Type} (z : α) (P : Nat → α → Prop) : ∀ n, (∀ j, j < n → ∃ b, P j b) → ∃ l : List α, l.length = n ∧ ∀ j, j < n → P j (l.getD j z)
  | 0, _ => ⟨[], rfl, fun j hj => absurd hj (by omega)⟩
  | n + 1, h => by
    obtain ⟨l, hl, hp⟩ := list_of z P n (fun j hj => h j (by omega))
    obtain ⟨b, hb⟩ := h n (by omega)
    refine ⟨l ++ [b], by simp [hl], fun j hj => ?_⟩
    by_cases hjn : j < n
    · have := hp j hjn
      rw [List.getD_eq_getElem?_getD, List.getElem?_append_left (by omega), ← List.getD_eq_getElem?_getD]
      exact this
    · obtain rfl : j = n := by omega
      rw [List.getD_eq_getElem?_getD, List.getElem?_append_right (by omega)]
      simpa [hl] using hb
theorem byte_of {z : Int} (h : (Lit.int .u8 z).wf = true) : ∃ b : UInt8, z = (b.toNat : Int) := by
  have hb : 0 ≤ z ∧ z ≤ 255 := by
    have := bounds_u8 h
    omega
  refine ⟨UInt8.ofNat z.toNat, ?_⟩
  rw [UInt8.toNat_ofNat_of_lt' (by show z.toNat < 256; omega)]
  omega
theorem addr_add (b off : Nat) (i : Nat) : (⟨b, off, none⟩ : Addr).add i = ⟨b, off + i, none⟩ := Addr.add_mid ..

section
variable {H : Type} {enc : TypeId × Value → H} {W : World}
theorem open_bytes {b0 : Nat} {v : Value} {d : DataW H} {p : List MemPlace} (hv : Value.okWide Tryd.prog W .any b0 38 v) (h : DataW.Trod enc Tryd.prog W 0 (fun _ => true) true 38 v d p) :
    ∃ (pa : Option Addr) (xs : List UInt8) (pc : Nat), v = .slice pa xs.length pc ∧ Good W ⟨pa, xs, pc⟩ ∧ (xs.length = 0 ∨ ∃ elems spare : List (DataW H), d = .slice elems spare ∧ elems.length = xs.length) := by
  obtain ⟨a0, len, cap, rfl⟩ := okWide_slice Tryd.underlying38 hv
  obtain ⟨fuel, hf⟩ := h
  rcases open_ints Tryd.underlying38 Tryd.underlying5 cells5 hf with ⟨hcs, hx⟩ | ⟨a, len', cap', zs, hcs, _, hl, hm, hz, hx, hcell, hwz⟩
  · simp only [Value.cells, List.cons.injEq, Value.slice.injEq, and_true] at hcs
    obtain ⟨rfl, rfl, rfl⟩ := hcs
    exact ⟨none, [], 0, rfl, good_none _ _ _ (Nat.zero_le _), .inl rfl⟩
  · simp only [Value.cells, List.cons.injEq, Value.slice.injEq, and_true] at hcs
    obtain ⟨rfl, rfl, rfl⟩ := hcs
    simp only [if_true] at hz
    have hbyte : ∀ j, j < len → ∃ b : UInt8, zs.getD j 0 = (b.toNat : Int) := fun j hj => byte_of (hwz _ (by
      rw [List.getD_eq_getElem?_getD, List.getElem?_eq_getElem (by omega)]
      exact List.getElem_mem _))
    obtain ⟨xs, hxl, hxs⟩ := list_of (0 : UInt8) (fun j b => zs.getD j 0 = (b.toNat : Int)) len hbyte
    subst hxl
    refine ⟨some a, xs, cap, rfl, ⟨hl, hm, fun hp => ?_⟩, .inr ⟨_, _, (Prod.mk.inj hx).1, by simp [lits]; omega⟩⟩
    obtain ⟨b, off, rfl, hc⟩ := ints_at hcell (by have : 0 < xs.length := hp; omega)
    refine ⟨b, off, rfl, ?_, fun j hj => ?_⟩
    · exact World.block_lt_of_cell? W ⟨b, off + 0, none⟩ (hc 0 (by have : 0 < xs.length := hp; omega))
    · have hj' : j < xs.length := hj
      rw [hc j (by omega), hxs j hj']
theorem cells3 : Tryd.prog.cellsOf 3 = 1 := by kernel_rfl
theorem cells27 : Tryd.prog.cellsOf 27 = 32 := by kernel_rfl
theorem open_ints42 {b0 : Nat} {v : Value} {d : DataW H} {p : List MemPlace} (hv : Value.okWide Tryd.prog W .any b0 42 v) (h : DataW.Trod enc Tryd.prog W 0 (fun _ => true) true 42 v d p) :
    ∃ (cv : Option Addr) (cs : List Int) (cc : Nat), v = .slice cv cs.length cc ∧ (0 < cs.length → ∃ g off, cv = some ⟨g, off, none⟩ ∧ g < W.heap.size ∧ ∀ j, j < cs.length → W.cell? ⟨g, off + j, none⟩ = some (.int .i64 (cs.getD j 0))) := by
  obtain ⟨a0, len, cap, rfl⟩ := okWide_slice Tryd.underlying42 hv
  obtain ⟨fuel, hf⟩ := h
  rcases open_ints Tryd.underlying42 Tryd.underlying3 cells3 hf with ⟨hcs, hx⟩ | ⟨a, len', cap', zs, hcs, _, hl, hm, hz, hx, hcell, hwz⟩
  · simp only [Value.cells, List.cons.injEq, Value.slice.injEq, and_true] at hcs
    obtain ⟨rfl, rfl, rfl⟩ := hcs
    exact ⟨none, [], 0, rfl, fun h => absurd h (by simp)⟩
  · simp only [Value.cells, List.cons.injEq, Value.slice.injEq, and_true] at hcs
    obtain ⟨rfl, rfl, rfl⟩ := hcs
    simp only [if_true] at hz
    refine ⟨some a, zs.take len, cap, by rw [List.length_take]; simp; omega, fun hp => ?_⟩
    have hp2 : 0 < zs.length := by rw [List.length_take] at hp; omega
    obtain ⟨b, off, rfl, hc⟩ := ints_at hcell hp2
    refine ⟨b, off, rfl, World.block_lt_of_cell? W ⟨b, off + 0, none⟩ (hc 0 hp2), fun j hj => ?_⟩
    rw [List.length_take] at hj
    rw [hc j (by omega), List.getD_eq_getElem?_getD, List.getD_eq_getElem?_getD, List.getElem?_take_of_lt (by omega)]
theorem open_hashes {b0 : Nat} {v : Value} {d : DataW H} {p : List MemPlace} (hv : Value.okWide Tryd.prog W .any b0 32 v) (h : DataW.Trod enc Tryd.prog W 0 (fun _ => true) true 32 v d p) :
    ∃ (lv : Option Addr) (m lc : Nat) (F : List UInt8), v = .slice lv m lc ∧ F.length = 32 * m ∧ m ≤ lc ∧ lc ≤ maxLen ∧ (0 < m → ∃ g off, lv = some ⟨g, off, none⟩ ∧ g < W.heap.size ∧ Src W g off F) := by
  obtain ⟨a0, len, cap, rfl⟩ := okWide_slice Tryd.underlying32 hv
  obtain ⟨fuel, hf⟩ := h
  rcases open_slice Tryd.underlying32 hf with ⟨hcs, hx⟩ | ⟨a, len', cap', m, n, D, Pl, hcs, _, hl, hm, hmm, hx, hi⟩
  · simp only [Value.cells, List.cons.injEq, Value.slice.injEq, and_true] at hcs
    obtain ⟨rfl, rfl, rfl⟩ := hcs
    exact ⟨none, 0, 0, [], rfl, rfl, Nat.le_refl _, Nat.zero_le _, fun h => absurd h (by simp)⟩
  · simp only [Value.cells, List.cons.injEq, Value.slice.injEq, and_true] at hcs
    obtain ⟨rfl, rfl, rfl⟩ := hcs
    simp only [if_true] at hmm
    subst hmm
    -- each byte of each hash
    have hcell : ∀ i, i < m → ∀ j, j < 32 → ∃ b : UInt8, W.cell? ((a.add (i * 32)).add j) = some (.int .u8 b.toNat) := by
      intro i him j hj
      obtain ⟨cs', hc, ht⟩ := hi i him
      rw [cells27] at hc
      obtain ⟨_, hcl, hat⟩ := World.cells?_some hc
      obtain ⟨ys, k, _, _, hlen, hyl, hy⟩ := DataW.trod_array Tryd.underlying27 ht
      have h1 := hy j hj
      rw [cells5, Nat.mul_one] at h1
      have hone : (cs'.drop j).take 1 = [cs'[j]'(by omega)] := by
        rw [List.drop_eq_getElem_cons (by omega)]; rfl
      rw [hone, List.getElem?_eq_getElem (by omega)] at h1
      obtain ⟨z, hz, _, hwf⟩ := DataW.trod_int Tryd.underlying5 h1
      obtain ⟨b, hb⟩ := byte_of hwf
      refine ⟨b, ?_⟩
      rw [hat j hj, List.getElem?_eq_getElem (by omega), (List.cons.inj hz).1, hb]
    by_cases hp : 0 < len
    · have h0 := hcell 0 (by omega) 0 (by omega)
      obtain ⟨b, off, spot⟩ := a
      have hspot : spot = none := by
        obtain ⟨_, h0⟩ := h0
        simpa [Addr.add] using World.cell?_spot h0
      subst hspot
      have hall : ∀ j, j < 32 * len → ∃ x : UInt8, W.cell? ⟨b, off + j, none⟩ = some (.int .u8 x.toNat) := by
        intro j hj
        obtain ⟨x, hx⟩ := hcell (j / 32) (by omega) (j % 32) (by omega)
        refine ⟨x, ?_⟩
        rw [addr_add, addr_add] at hx
        have e : off + j / 32 * 32 + j % 32 = off + j := by omega
        rw [e] at hx
        exact hx
      obtain ⟨F, hF, hFs⟩ := list_of (0 : UInt8) (fun j x => W.cell? ⟨b, off + j, none⟩ = some (.int .u8 x.toNat)) (32 * len) hall
      refine ⟨some ⟨b, off, none⟩, len, _, F, rfl, hF, hl, hm, fun _ => ⟨b, off, rfl, ?_, fun j hj => hFs j (by omega)⟩⟩
      obtain ⟨x, hx⟩ := hall 0 (by omega)
      exact World.block_lt_of_cell? W ⟨b, off + 0, none⟩ hx
    · obtain rfl : len = 0 := by omega
      exact ⟨some a, 0, _, [], rfl, rfl, Nat.zero_le _, hm, fun h => absurd h (by simp)⟩
end

/-! ### The two tables -/
def startInts : List Int := [1779033703, 3144134277, 1013904242, 2773480762, 1359893119, 2600822924, 528734635, 1541459225]
theorem own : ownKnob Tryd.prog.godebug = none := by kernel_rfl
theorem gStart : Tryd.prog.globalNamed "moidore/sum.start" = some 0 := by kernel_rfl
theorem gCubes : Tryd.prog.globalNamed "moidore/sum.cubes" = some 1 := by kernel_rfl
theorem gStartType : (Tryd.prog.globals[0]?).map (·.type) = some 47 := by kernel_rfl
theorem gCubesType : (Tryd.prog.globals[1]?).map (·.type) = some 75 := by kernel_rfl
theorem cells47 : Tryd.prog.cellsOf 47 = 8 := by kernel_rfl
theorem cells75 : Tryd.prog.cellsOf 75 = 64 := by kernel_rfl
theorem row0 : (((begin Tryd.prog (fun _ _ => 0) default).world.heap[0]?).bind Obj.row?).map (·.2) = some 47 := by kernel_rfl
theorem row1 : (((begin Tryd.prog (fun _ _ => 0) default).world.heap[1]?).bind Obj.row?).map (·.2) = some 75 := by kernel_rfl
def cubeInts : List Int := Sha.cubes.map fun b => (b.toNat : Int)
theorem laid_start : (Rows.laid_moidore_sum_start : DataW Unit) = Lib.tabData .u32 startInts := by kernel_rfl
theorem laid_cubes : (Rows.laid_moidore_sum_cubes : DataW Unit) = Lib.tabData .u32 cubeInts := by kernel_rfl
theorem start_cells : (startInts.map fun z => Value.int .u32 z).toArray = B32 Sha.start.list := by kernel_rfl
theorem cube_cells : (cubeInts.map fun z => Value.int .u32 z).toArray = B32 Sha.cubes := by kernel_rfl

theorem laid_tail {P : Program} {W : World} {x : String × DataW Unit} {rest : List (String × DataW Unit)} (h : laidMet P (x :: rest) W) : laidMet P rest W := by
  obtain ⟨ps, ⟨g, t, cs, fuel, p, q, h1, h2, h3, h4, h5, rfl⟩, hn, hc⟩ := h
  exact ⟨q, h5, (List.nodup_append.1 hn).2.1, fun b off hb => hc b off (by simp [hb])⟩
theorem block_of {W : World} {g : Nat} {t : TypeId} {name : String} {cs : Array Value} (hg : Tryd.prog.globalNamed name = some g) (hlt : g < Tryd.prog.globals.size)
    (hrow : (((begin Tryd.prog (fun _ _ => 0) default).world.heap[g]?).bind Obj.row?).map (·.2) = some t) (hsh : W.ShapedOpen Tryd.prog) (hv : W.var? Tryd.prog name = some cs) : Lies W g cs t := by
  cases hr : ((begin Tryd.prog (fun _ _ => 0) default).world.heap[g]?).bind Obj.row? with
  | none => rw [hr] at hrow; cases hrow
  | some x =>
    obtain ⟨zero, t'⟩ := x
    rw [hr] at hrow
    simp only [Option.map_some, Option.some.injEq] at hrow
    subst hrow
    obtain ⟨cs', hc, _, _⟩ := hsh.1 g zero t' hlt hr
    unfold World.var? at hv
    rw [hg] at hv
    simp only [Option.bind_some, hc, Option.some.injEq] at hv
    subst hv
    exact hc
theorem two_globals : Tryd.prog.globals.size = 2 := by kernel_rfl
theorem tables {W : World} (h : laidMetH Tryd.prog [("moidore/sum.start", Rows.laid_moidore_sum_start), ("moidore/sum.cubes", Rows.laid_moidore_sum_cubes)] W) (hsh : W.ShapedOpen Tryd.prog) : Starts W ∧ Cubes W := by
  have h1 : laidMet Tryd.prog [("moidore/sum.start", Lib.tabData .u32 startInts), ("moidore/sum.cubes", Lib.tabData .u32 cubeInts)] W := by
    rw [← laid_start, ← laid_cubes]; exact h
  have t0 := Lib.tabIs_of_head gStart gStartType Tryd.underlying47 Tryd.underlying45 (by kernel_rfl) cells47 h1
  have t1 := Lib.tabIs_of_head gCubes gCubesType Tryd.underlying75 Tryd.underlying45 (by kernel_rfl) cells75 (laid_tail h1)
  unfold Lib.TabIs at t0 t1
  rw [start_cells] at t0
  rw [cube_cells] at t1
  exact ⟨block_of gStart (by rw [two_globals]; decide) row0 hsh t0, block_of gCubes (by rw [two_globals]; decide) row1 hsh t1⟩

/-! ### A world for a witness: the settled one, both tables holding what their initialisers lay -/
noncomputable def laidCells (cs : Array Value) : Obj → Obj
  | .cells _ t frozen => .cells cs t frozen
  | o => o
noncomputable def laidWorld (os : Os) : World :=
  { World.holding Tryd.prog os ⟨#[], #[], []⟩ with heap := ((World.holding Tryd.prog os ⟨#[], #[], []⟩).heap.modify 0 (laidCells (startInts.map fun z => Value.int .u32 z).toArray)).modify 1 (laidCells (cubeInts.map fun z => Value.int .u32 z).toArray) }
theorem args_stay {H : Type} {enc : TypeId × Value → H} {W W' : World} {t : TypeId} {v : Value} {d : DataW H} {ps : List MemPlace} (hr : Tryd.prog.readableRec t = true) (hrow : t < Tryd.prog.types.size)
    (h : DataW.Trod enc Tryd.prog W 0 (fun _ => true) true t v d ps) (hb : Below W.heap.size W W') (hlt : ∀ x ∈ ps, x.block < W.heap.size) : DataW.Trod enc Tryd.prog W' 0 (fun b => decide (b < W.heap.size)) true t v d ps :=
  Below.trod (by kernel_rfl) hr hrow h hb hlt
end Go.Proofs.YtccfdobogbiomaaDoor
