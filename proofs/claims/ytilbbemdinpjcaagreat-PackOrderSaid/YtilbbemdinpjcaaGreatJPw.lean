/-
  pack: a new writer, its bytes; Long.
-/
import Derived.Test.YtilbbemdinpjcaaGreatJWRef2
import Derived.Test.YtilbbemdinpjcaaGreatJWWantSt
import Derived.Laws.Tables
import Derived.Deep.CutRange
import Derived.WalkKit
import Derived.ProofKit
import Derived.OpenShut
import Derived.Carry
import Derived.Deep.Slices
import Derived.ChangeSlices
namespace Go.Proofs.YtilbbemdinpjcaaGreat.W
open Go.RowKit

theorem clone_own (w : World) (B : Nat) (v : Value) (l : List UInt8) (h : w.ownsRow B 5 1 v l.length (B8 l).toList) (hx : l.length ≤ 2000000) :
    Calls Tryz.prog 85 #[v] w fun e w' => ∃ u, e = .returned u ∧ w'.ownsRow w.heap.size 5 1 u l.length (B8 l).toList ∧ Below w.heap.size w w' := by
  rcases h.2 with ⟨rfl, hn⟩ | ⟨k, cap, cur, rfl, _, hk, _⟩
  · refine (clone_nil w).mono ?_
    rintro e w' ⟨rfl, rfl⟩
    obtain rfl : l = [] := List.eq_nil_of_length_eq_zero hn
    exact ⟨_, rfl, World.ownsRow_nil _ _ _ _, Below.refl _ _⟩
  · exact clone_any w l k 0 cap (own_src h) (Array.getElem?_eq_some_iff.1 hk).1 hx
set_option maxRecDepth 100000 in
theorem wbytes_good (w : World) (B g : Nat) (v : Value) (l : List UInt8) (h : WrV w B g v l) (hx : l.length ≤ 2000000) :
    Calls Tryz.prog 38 #[.pointer (some ⟨g, 0, none⟩)] w fun e w' => ∃ u, e = .returned (.tuple #[u, .int .i64 0]) ∧ w'.ownsRow w.heap.size 5 1 u l.length (B8 l).toList ∧ Below w.heap.size w w' := by
  have hcl := clone_own w B v l h.2.1 hx
  have ha := answered_self w g (h.1.cell 0 rfl)
  have c1 : w.cell? ⟨g, 1, none⟩ = some (.bool false) := h.1.cell 1 rfl
  have c2 : w.cell? ⟨g, 2, none⟩ = some v := h.1.cell 2 rfl
  have HC := Lib.hid hcl
  clear hcl h
  go_enter Tryz.func38, Tryz.ntmps38
  go_wp2_with fail
  refine ha.mono ?_
  rintro e w1 ⟨rfl, rfl⟩
  clear ha
  go_wp2_with fail
  refine HC.out.mono ?_
  rintro e w1 ⟨u, rfl, hown, hb⟩
  have HH := Lib.hid (And.intro hown hb)
  clear hown hb
  go_wp2_with fail
  go_ret2
  exact ⟨u, rfl, HH.out.1, HH.out.2⟩
set_option maxRecDepth 100000 in
theorem wbytes_spoilt (w : World) (B g : Nat) (v : Value) (h : WSt w B g v none) :
    Calls Tryz.prog 38 #[.pointer (some ⟨g, 0, none⟩)] w fun e w' => e = .returned (.tuple #[.slice none 0 0, .int .i64 2]) ∧ w = w' := by
  have ha := answered_self w g (h.1.cell 0 rfl)
  have c1 : w.cell? ⟨g, 1, none⟩ = some (.bool true) := h.1.cell 1 rfl
  clear h
  go_enter Tryz.func38, Tryz.ntmps38
  go_wp2_with fail
  refine ha.mono ?_
  rintro e w1 ⟨rfl, rfl⟩
  clear ha
  go_wp2_with fail
  go_ret2
  exact ⟨rfl, rfl⟩
set_option maxRecDepth 100000 in
theorem rbytes_spoilt (w : World) (B g : Nat) (v : Value) (h : RfS w B g v none) :
    Calls Tryz.prog 35 #[.pointer (some ⟨g, 0, none⟩)] w fun e w' => e = .returned (.tuple #[.slice none 0 0, .int .i64 2]) ∧ w = w' := by
  have c1 : w.cell? ⟨g, 1, none⟩ = some (.bool true) := h.1.cell 1 rfl
  clear h
  go_enter Tryz.func35, Tryz.ntmps35
  go_wp2
  go_ret2
  exact ⟨rfl, rfl⟩
set_option maxRecDepth 100000 in
theorem rbytes_good (w : World) (B g : Nat) (v : Value) (l : List UInt8) (h : RfV w B g v l) (hx : l.length ≤ 2000000) :
    Calls Tryz.prog 35 #[.pointer (some ⟨g, 0, none⟩)] w fun e w' => ∃ u, e = .returned (.tuple #[u, .int .i64 0]) ∧ w'.ownsRow w.heap.size 5 1 u l.length (B8 l).toList ∧ Below w.heap.size w w' := by
  have c1 : w.cell? ⟨g, 1, none⟩ = some (.bool false) := h.1.cell 1 rfl
  have c2 : w.cell? ⟨g, 0, none⟩ = some v := h.1.cell 0 rfl
  have hb : Below w.heap.size w (w.alloc (.cells #[] 5)) := (Below.refl _ _).alloc (Nat.le_refl _) _
  have he : (w.alloc (.cells #[] 5)).ownsRow w.heap.size 5 1 (.slice (some ⟨w.heap.size, 0, none⟩) 0 0) 0 [] := World.ownsRow_made w #[] 0 (Nat.le_refl _) (Nat.zero_le _) rfl
  have c3 : (w.alloc (.cells #[] 5)).cell? ⟨g, 0, none⟩ = some v := (hb.cell (p := ⟨g, 0, none⟩) h.1.lt).trans c2
  have HB := Lib.hid hb
  have HE := Lib.hid he
  rcases h.2.1.2 with ⟨rfl, hn⟩ | ⟨k, cap, cur, rfl, _, hk, _⟩
  · obtain rfl : l = [] := List.eq_nil_of_length_eq_zero hn
    clear h hb he
    go_enter Tryz.func35, Tryz.ntmps35
    go_wp2_with fail
    go_ret2
    exact ⟨_, rfl, HE.out, HB.out⟩
  · have hs := own_src h.2.1
    have hg := (Array.getElem?_eq_some_iff.1 hk).1
    have hs2 : Src (w.alloc (.cells #[] 5)) k 0 l := fun j hj => (hb.cell (p := ⟨k, 0 + j, none⟩) hg).trans (hs j hj)
    obtain ⟨i0, hi0, hz0, hz1, hz2⟩ := info_parts info5
    have HS := Lib.hid hs2
    clear h hb he hs hs2 hk
    go_enter Tryz.func35, Tryz.ntmps35
    go_wp2_with (at_builtin; go_must (refine wpList_append_own_at _ rfl _ _ 54 rfl w.heap.size 5 i0 (.int .u8 0) 1 1 Tryz.underlying54 hi0 hz0 hz1 hz2 rfl (by decide) _ 0 [] rfl HE.out ⟨k, 0, none⟩ l.length cap (B8 l).toList rfl (by rw [Array.length_toList, B8_size, Nat.mul_one]) (src_news HS.out) (byts_one _) (by unfold maxLen; omega) (by omega) (by simp) ?_; intro v' w1 hown hgrow _ hat))
    go_ret2
    refine ⟨_, rfl, by simpa using hown, HB.out.grown hgrow (by simp) (fun k e => ?_)⟩
    have : w.heap.size = k := Option.some.inj e
    omega
end Go.Proofs.YtilbbemdinpjcaaGreat.W
namespace Go.Proofs.YtilbbemdinpjcaaGreat.W
open Go.RowKit

def z32 : Array Value := B8 (List.replicate 32 0)
theorem info33 : (Tryz.prog.info? 30).map (·.size) = some z32.size := by kernel_rfl
set_option maxRecDepth 100000 in
theorem tell95_idle (w : World) (p : Option Addr) (fv : Value) (h : Idle w p) : Calls Tryz.prog 274 #[.pointer p, fv] w fun e w' => e = .returned (.agg z32) ∧ Below w.heap.size w w' := by
  have hb1 : Below w.heap.size w (w.alloc (.cells #[.pointer p] 56)) := (Below.refl _ _).alloc (Nat.le_refl _) _
  have hb2 : Below w.heap.size w ((w.alloc (.cells #[.pointer p] 56)).alloc (.cells z32 30)) := hb1.alloc hb1.size _
  have hz : Lies ((w.alloc (.cells #[.pointer p] 56)).alloc (.cells z32 30)) (w.heap.size + 1) z32 30 := by
    have := Lies.new (w.alloc (.cells #[.pointer p] 56)) z32 30
    simpa using this
  have ht := tells_idle _ p (h.below hb2)
  have HT := Lib.hid ht
  have HZ := Lib.hid hz
  have HB := Lib.hid hb2
  clear ht hz hb1 hb2 h
  go_enter_defers Tryz.func274, Tryz.ntmps274
  go_wp2_with fail
  refine HT.out.mono ?_
  rintro e w1 ⟨rfl, rfl⟩
  generalize (w.alloc (.cells #[.pointer p] 56)).alloc (.cells z32 30) = W0 at HZ HB HT ⊢
  go_wp2_with (first
    | (refine wpList_load_row rfl 30 _ rfl (w.heap.size + 1) rfl 30 z32 (0, 0) _ HZ.out Tryz.underlying30 rfl info33 ?_)
    | (refine wpList_store_row rfl 30 _ _ rfl (w.heap.size + 1) z32 rfl rfl 30 z32 HZ.out info33 rfl (B8_one _) ?_))
  refine ⟨_, results_cell_row (p := 4) (ty := 30) (by kernel_rfl) _ _ (w.heap.size + 1) 30 z32 (0, 0) _ rfl (HZ.out.setRow _) Tryz.underlying30 rfl info33, rfl, below_setRow HB.out _ _ (by omega)⟩
set_option maxRecDepth 100000 in
theorem ask57_idle (w : World) (p : Option Addr) (h : Idle w p) : Calls Tryz.prog 228 #[.pointer p] w fun e w' => e = .returned (.agg z32) ∧ Below w.heap.size w w' := by
  have hmf : ∀ (fn : Fn) (first cap : Array Value) (w : World), (Instr.makeFunc fn first cap).run Tryz.prog w = .ok (.func fn first cap) w := fun _ _ _ _ => rfl
  have hb1 : Below w.heap.size w (w.alloc (.cells #[.pointer p] 56)) := (Below.refl _ _).alloc (Nat.le_refl _) _
  have hb2 : Below w.heap.size w ((w.alloc (.cells #[.pointer p] 56)).alloc (.cells z32 30)) := hb1.alloc hb1.size _
  have hz : Lies ((w.alloc (.cells #[.pointer p] 56)).alloc (.cells z32 30)) (w.heap.size + 1) z32 30 := by
    have := Lies.new (w.alloc (.cells #[.pointer p] 56)) z32 30
    simpa using this
  have ht := tell95_idle _ p (.func (Fn.func 275) #[] #[.pointer (some ⟨w.heap.size, 0, none⟩)]) (h.below hb2)
  have HT := Lib.hid ht
  have HZ := Lib.hid hz
  have HB := Lib.hid hb2
  clear ht hz hb1 hb2 h
  go_enter Tryz.func228, Tryz.ntmps228
  go_wp2_with fail
  refine HT.out.mono ?_
  rintro e w1 ⟨rfl, hb⟩
  have hz1 := HZ.out.below hb HZ.out.lt
  have HZ1 := Lib.hid hz1
  have HB1 := Lib.hid (HB.out.trans (hb.mono HB.out.size))
  clear hz1 hb
  go_wp2_with (refine wpList_store_row rfl 30 _ _ rfl (w.heap.size + 1) z32 rfl rfl 30 z32 HZ1.out info33 rfl (B8_one _) ?_)
  refine bodyPost_ret (v := .agg z32) (results_cell_row (p := 2) (ty := 30) (by kernel_rfl) _ _ (w.heap.size + 1) 30 z32 (0, 0) _ rfl (HZ1.out.setRow _) Tryz.underlying30 rfl info33) rfl ⟨rfl, below_setRow HB1.out _ _ (by omega)⟩
end Go.Proofs.YtilbbemdinpjcaaGreat.W
namespace Go.Proofs.YtilbbemdinpjcaaGreat.W
open Go.RowKit

def toldE (n : Int) : Array Value := #[.int .i64 0, .int .u64 0, .int .u8 0, .int .u8 0, .int .u8 0, .int .u8 0, .int .u8 0, .int .u8 0, .int .u8 0, .int .u8 0, .int .u8 0, .int .u8 0, .int .u8 0, .int .u8 0, .int .u8 0, .int .u8 0, .int .u8 0, .int .u8 0, .int .u8 0, .int .u8 0, .int .u8 0, .int .u8 0, .int .u8 0, .int .u8 0, .int .u8 0, .int .u8 0, .int .u8 0, .int .u8 0, .int .u8 0, .int .u8 0, .int .u8 0, .int .u8 0, .int .u8 0, .int .u8 0, .string ⟨#[]⟩, .bool false, .int .i64 0, .int .i64 n, .bool false]
theorem told_one (n : Int) : (toldE n).all (·.oneCell') = true := by simp [toldE]; exact ⟨rfl, rfl, rfl, rfl, rfl, rfl, rfl, rfl⟩
theorem set_same {cs : Array Value} {j : Nat} {v : Value} (h : cs[j]? = some v) : cs.setIfInBounds j v = cs := by
  apply Array.ext_getElem?
  intro i
  rw [Array.getElem?_setIfInBounds]
  by_cases e : j = i
  · subst e
    have hl := (Array.getElem?_eq_some_iff.1 h).1
    rw [if_pos rfl, if_pos hl, h]
  · rw [if_neg e]
theorem Lies.same {w : World} {g : Nat} {cs : Array Value} {t : TypeId} (h : Lies w g cs t) (j : Nat) (v : Value) (hv : cs[j]? = some v) : Lies (w.setCell ⟨g, j, none⟩ v) g cs t := by
  have := h.set j v
  rwa [set_same hv] at this
theorem Lies.sames {w : World} {g : Nat} {cs : Array Value} {t : TypeId} (h : Lies w g cs t) : ∀ (vs : List Value) (o : Nat), (∀ j v, vs[j]? = some v → cs[o + j]? = some v) → Lies (w.setCells g o vs) g cs t := by
  intro vs
  induction vs generalizing w with
  | nil => intro o _; exact h
  | cons v vs ih =>
    intro o hv
    rw [World.setCells]
    refine ih (h.same o v (hv 0 v rfl)) (o + 1) (fun j u hu => ?_)
    have := hv (j + 1) u hu
    rwa [show o + 1 + j = o + (j + 1) by omega]
theorem Lies.outs {w : World} {g b : Nat} {cs : Array Value} {t : TypeId} (h : Lies w g cs t) (hne : g ≠ b) : ∀ (vs : List Value) (o : Nat), Lies (w.setCells b o vs) g cs t := by
  intro vs
  induction vs generalizing w with
  | nil => intro o; exact h
  | cons v vs ih =>
    intro o
    rw [World.setCells]
    exact ih (h.other _ v hne) (o + 1)
theorem below_cells {B : Nat} {a w : World} (h : Below B a w) {b : Nat} (hb : B ≤ b) : ∀ (vs : List Value) (o : Nat), Below B a (w.setCells b o vs) := by
  intro vs
  induction vs generalizing w with
  | nil => intro o; exact h
  | cons v vs ih =>
    intro o
    rw [World.setCells]
    exact ih (h.setCell hb v) (o + 1)
theorem z32_get (j : Nat) (hj : j < z32.size) : z32.toList[j]? = some (.int .u8 0) := by
  have h32 : z32.size = 32 := rfl
  rw [Array.getElem?_toList]
  have := B8_get (List.replicate 32 0) j (by simp; omega)
  unfold z32
  rw [this]
  congr 2
  have : (List.replicate 32 (0 : UInt8)).getD j 0 = 0 := by
    rw [List.getD_eq_getElem?_getD]
    simp only [List.getElem?_replicate]
    split <;> rfl
  rw [this]; rfl
theorem told_mid : ∀ j v, z32.toList[j]? = some v → (toldE 0)[2 + j]? = some v := by
  intro j v hv
  have hj : j < z32.size := by have := (List.getElem?_eq_some_iff.1 hv).1; rwa [Array.length_toList] at this
  have h32 : z32.size = 32 := rfl
  rw [z32_get j hj] at hv
  cases hv
  have hj2 : j = 0 ∨ j = 1 ∨ j = 2 ∨ j = 3 ∨ j = 4 ∨ j = 5 ∨ j = 6 ∨ j = 7 ∨ j = 8 ∨ j = 9 ∨ j = 10 ∨ j = 11 ∨ j = 12 ∨ j = 13 ∨ j = 14 ∨ j = 15 ∨ j = 16 ∨ j = 17 ∨ j = 18 ∨ j = 19 ∨ j = 20 ∨ j = 21 ∨ j = 22 ∨ j = 23 ∨ j = 24 ∨ j = 25 ∨ j = 26 ∨ j = 27 ∨ j = 28 ∨ j = 29 ∨ j = 30 ∨ j = 31 := by omega
  rcases hj2 with rfl | rfl | rfl | rfl | rfl | rfl | rfl | rfl | rfl | rfl | rfl | rfl | rfl | rfl | rfl | rfl | rfl | rfl | rfl | rfl | rfl | rfl | rfl | rfl | rfl | rfl | rfl | rfl | rfl | rfl | rfl | rfl
  all_goals rfl
end Go.Proofs.YtilbbemdinpjcaaGreat.W
namespace Go.Proofs.YtilbbemdinpjcaaGreat.W
open Go.RowKit
theorem z32_one : z32.all (·.oneCell') = true := B8_one _
attribute [local irreducible] z32
end Go.Proofs.YtilbbemdinpjcaaGreat.W
namespace Go.Proofs.YtilbbemdinpjcaaGreat.W
open Go.RowKit

theorem same32 (W : World) : (Op.equalIn 9999 30 (.agg #[.int .u8 0, .int .u8 0, .int .u8 0, .int .u8 0, .int .u8 0, .int .u8 0, .int .u8 0, .int .u8 0, .int .u8 0, .int .u8 0, .int .u8 0, .int .u8 0, .int .u8 0, .int .u8 0, .int .u8 0, .int .u8 0, .int .u8 0, .int .u8 0, .int .u8 0, .int .u8 0, .int .u8 0, .int .u8 0, .int .u8 0, .int .u8 0, .int .u8 0, .int .u8 0, .int .u8 0, .int .u8 0, .int .u8 0, .int .u8 0, .int .u8 0, .int .u8 0]) (.agg #[.int .u8 0, .int .u8 0, .int .u8 0, .int .u8 0, .int .u8 0, .int .u8 0, .int .u8 0, .int .u8 0, .int .u8 0, .int .u8 0, .int .u8 0, .int .u8 0, .int .u8 0, .int .u8 0, .int .u8 0, .int .u8 0, .int .u8 0, .int .u8 0, .int .u8 0, .int .u8 0, .int .u8 0, .int .u8 0, .int .u8 0, .int .u8 0, .int .u8 0, .int .u8 0, .int .u8 0, .int .u8 0, .int .u8 0, .int .u8 0, .int .u8 0, .int .u8 0])).run Tryz.prog W = .ok true W := by kernel_rfl
theorem setRow_cell (V : World) (g : Nat) (cs' : Array Value) (a : Addr) (h : a.block ≠ g) : (V.setRow g cs').cell? a = V.cell? a := by
  unfold World.cell?
  rw [setRow_other V g a.block cs' h]
attribute [-go_sem] loadCellsFrom storeCells
end Go.Proofs.YtilbbemdinpjcaaGreat.W
set_option maxRecDepth 1000000
set_option linter.constructorNameAsVariable false
namespace Go.Proofs.YtilbbemdinpjcaaGreat.W
open Go.ChangeShapes Go.WideShapes Go.ChangeAt Go.RowKit

theorem cell_int {W : World} {base : Nat} {t : TypeId} {k : IntKind} {v : Value} (ht : Tryz.prog.underlying t = some (.int k)) (h : Cell.okWide Tryz.prog W .any base t v) : ∃ n, v = .int k n := by
  simp only [Cell.okWide, ht] at h
  cases v <;> simp_all [Cell.ok]
theorem cell_slice {W : World} {base : Nat} {t e : TypeId} {v : Value} (ht : Tryz.prog.underlying t = some (.slice e)) (h : Cell.okWide Tryz.prog W .any base t v) : ∃ a l c, v = .slice a l c := by
  simp only [Cell.okWide, ht] at h
  cases v <;> simp_all [Cell.ok]
theorem cell_text {W : World} {base : Nat} {t : TypeId} {v : Value} (ht : Tryz.prog.underlying t = some .string) (h : Cell.okWide Tryz.prog W .any base t v) : ∃ s, v = .string s := by
  simp only [Cell.okWide, ht] at h
  cases v <;> simp_all [Cell.ok]
theorem args_stay {H : Type} {enc : TypeId × Value → H} {W W' : World} {t : TypeId} {v : Value} {d : DataW H} {ps : List MemPlace} (hr : Tryz.prog.readableRec t = true) (hrow : t < Tryz.prog.types.size)
    (h : DataW.Trod enc Tryz.prog W 0 (fun _ => true) true t v d ps) (hb : Below W.heap.size W W') (hlt : ∀ x ∈ ps, x.block < W.heap.size) : DataW.Trod enc Tryz.prog W' 0 (fun b => decide (b < W.heap.size)) true t v d ps :=
  Below.trod (by kernel_rfl) hr hrow h hb hlt
end Go.Proofs.YtilbbemdinpjcaaGreat.W
namespace Go.Proofs.YtilbbemdinpjcaaGreat.W
open Go.ChangeShapes Go.WideShapes Go.ChangeAt Go.RowKit Go.Deep

structure PutD where
  n0 : Int
  n1 : Int
  n2 : Nat
  hs : List UInt8
  bv : Value
  xs : List UInt8
  s : ByteArray
def PutD.cells (p : PutD) : Array Value := #[.int .i64 p.n0, .int .i64 p.n1, .int .u64 p.n2] ++ B8 p.hs ++ #[p.bv, .string p.s]
structure PutD.Ok (p : PutD) (W : World) : Prop where
  hlen : p.hs.length = 32
  wlt : p.n2 < 18446744073709551616
  lo : -9223372036854775808 ≤ p.n1
  hi : p.n1 < 9223372036854775808
  slen : p.s.size ≤ maxLen
  raw : RawIn W p.bv p.xs
  xlen : p.xs.length ≤ 140737488355328
theorem PutD.size {p : PutD} {W : World} (h : p.Ok W) : p.cells.size = 37 := by
  simp [PutD.cells, B8_size, h.hlen]
theorem PutD.v {p : PutD} {W : World} (h : p.Ok W) : PutV p.cells p.n0 p.n1 p.n2 p.hs p.bv p.s := by
  have h32 := h.hlen
  refine ⟨PutD.size h, ?_, ?_, ?_, h.wlt, ?_, h.hlen, ?_, ?_, ?_⟩
  · simp [PutD.cells, Array.getElem?_append]
  · simp [PutD.cells, Array.getElem?_append]
  · simp [PutD.cells, Array.getElem?_append]
  · simp [PutD.cells, B8, h32]
  · simp [PutD.cells, B8, h32]
  · simp [PutD.cells, B8, h32]
  · have := h.slen; unfold maxLen at this; omega
/-- The row of Puts lies there. -/
def PRow (W : World) (g off : Nat) (ps : List PutD) : Prop := ∀ i p, ps[i]? = some p → p.Ok W ∧ ∀ j v, p.cells[j]? = some v → W.cell? ⟨g, off + (i * 37 + j), none⟩ = some v

theorem cut37 (l : List Value) (h : l.length = 37) :
    l = (l.drop 0).take 1 ++ ((l.drop 1).take 1 ++ ((l.drop 2).take 1 ++ ((l.drop 3).take 32 ++ ((l.drop 35).take 1 ++ (l.drop 36).take 1)))) := by
  have st : ∀ a k, l.drop a = (l.drop a).take k ++ l.drop (a + k) := fun a k => by rw [← List.drop_drop, List.take_append_drop]
  have e36 : l.drop 36 = (l.drop 36).take 1 := by rw [List.take_of_length_le]; simp; omega
  exact (st 0 1).trans (congrArg ((l.drop 0).take 1 ++ ·) ((st 1 1).trans (congrArg ((l.drop 1).take 1 ++ ·) ((st 2 1).trans (congrArg ((l.drop 2).take 1 ++ ·) ((st 3 32).trans (congrArg ((l.drop 3).take 32 ++ ·) ((st 35 1).trans (congrArg ((l.drop 35).take 1 ++ ·) e36)))))))))
theorem list_of {α : Type} (z : α) (P : Nat → α → Prop) : ∀ n, (∀ j, j < n → ∃ b, P j b) → ∃ l : List α, l.length = n ∧ ∀ j, j < n → P j (l.getD j z)
  | 0, _ => ⟨[], rfl, fun j hj => absurd hj (by omega)⟩
  | n + 1, h => by
    obtain ⟨l, hl, hp⟩ := list_of z P n (fun j hj => h j (by omega))
    obtain ⟨b, hb⟩ := h n (by omega)
    refine ⟨l ++ [b], by simp [hl], fun j hj => ?_⟩
    by_cases hjn : j < n
    · have := hp j hjn
      rw [List.getD_eq_getElem?_getD, List.getElem?_append_left (by omega), ← List.getD_eq_getElem?_getD]
      exact this
    · obtain rfl : j = n := by omega
      rw [List.getD_eq_getElem?_getD, List.getElem?_append_right (by omega)]
      simpa [hl] using hb
theorem bounds_byte {z : Int} (h : (Lit.int .u8 z).wf = true) : 0 ≤ z ∧ z < 256 := by
  have hmin : IntKind.u8.min = 0 := rfl
  have hmax : IntKind.u8.max = 255 := rfl
  simp only [Lit.wf, Bool.and_eq_true, decide_eq_true_eq] at h
  omega
theorem byte_of {z : Int} (h : (Lit.int .u8 z).wf = true) : ∃ b : UInt8, z = (b.toNat : Int) := by
  have hb := bounds_byte h
  refine ⟨UInt8.ofNat z.toNat, ?_⟩
  rw [UInt8.toNat_ofNat_of_lt' (by show z.toNat < 256; omega)]
  omega
theorem word_of {a : Int} (h : (Lit.int .u64 a).wf = true) : ∃ n : Nat, a = (n : Int) ∧ n < 18446744073709551616 := by
  have hmin : IntKind.u64.min = 0 := rfl
  have hmax : IntKind.u64.max = 18446744073709551615 := rfl
  simp only [Lit.wf, Bool.and_eq_true, decide_eq_true_eq] at h
  exact ⟨a.toNat, by omega, by omega⟩
theorem int_of {a : Int} (h : (Lit.int .i64 a).wf = true) : -9223372036854775808 ≤ a ∧ a < 9223372036854775808 := by
  have hmin : IntKind.i64.min = -9223372036854775808 := rfl
  have hmax : IntKind.i64.max = 9223372036854775807 := rfl
  simp only [Lit.wf, Bool.and_eq_true, decide_eq_true_eq] at h
  omega
theorem cells5 : Tryz.prog.cellsOf 5 = 1 := by kernel_rfl
theorem cells33 : Tryz.prog.cellsOf 30 = 32 := by kernel_rfl
section
variable {H : Type} {enc : TypeId × Value → H} {W : World}
/-- Bytes as they come in. -/
theorem bytes_in {fuel : Nat} {cs : List Value} {x : DataW H × List MemPlace} (hf : DataW.trod enc Tryz.prog W 0 (fun _ => true) true fuel 54 cs = some x) :
    ∃ (bv : Value) (xs : List UInt8), cs = [bv] ∧ RawIn W bv xs ∧ (xs.length = 0 ∨ ∃ elems spare : List (DataW H), x.1 = .slice elems spare ∧ elems.length = xs.length) := by
  rcases open_ints Tryz.underlying54 Tryz.underlying5 cells5 hf with ⟨hcs, _⟩ | ⟨a, len, cap, zs, hcs, _, hl, hm, hz, hx, hcell, hwz⟩
  · exact ⟨_, [], hcs, .inl ⟨rfl, rfl⟩, .inl rfl⟩
  · simp only [if_true] at hz
    have hbyte : ∀ j, j < len → ∃ b : UInt8, zs.getD j 0 = (b.toNat : Int) := fun j hj => byte_of (hwz _ (by
      rw [List.getD_eq_getElem?_getD, List.getElem?_eq_getElem (by omega)]
      exact List.getElem_mem _))
    obtain ⟨xs, hxl, hxs⟩ := list_of (0 : UInt8) (fun j b => zs.getD j 0 = (b.toNat : Int)) len hbyte
    subst hxl
    refine ⟨_, xs, hcs, .inr ⟨a, cap, rfl, fun j u hu => ?_⟩, .inr ⟨_, _, by rw [hx], by simp [lits]; omega⟩⟩
    have hj := (List.getElem?_eq_some_iff.1 hu).1
    rw [Array.length_toList, B8_size] at hj
    rw [Array.getElem?_toList, B8_get xs j hj, ← hxs j hj] at hu
    rw [← hu]
    exact hcell j (by omega)
theorem hash_in {fuel : Nat} {cs : List Value} {x : DataW H × List MemPlace} (hf : DataW.trod enc Tryz.prog W 0 (fun _ => true) true fuel 30 cs = some x) :
    ∃ hs : List UInt8, hs.length = 32 ∧ cs = (B8 hs).toList := by
  obtain ⟨ys, k, _, _, hlen, hyl, hy⟩ := DataW.trod_array Tryz.underlying30 hf
  rw [cells33] at hlen
  have hb : ∀ j, j < 32 → ∃ b : UInt8, cs[j]? = some (.int .u8 b.toNat) := by
    intro j hj
    have h1 := hy j hj
    rw [cells5, Nat.mul_one] at h1
    have hone : (cs.drop j).take 1 = [cs[j]'(by omega)] := by
      rw [List.drop_eq_getElem_cons (by omega)]; rfl
    rw [hone, List.getElem?_eq_getElem (by omega)] at h1
    obtain ⟨z, hz, _, hwf⟩ := DataW.trod_int Tryz.underlying5 h1
    obtain ⟨b, hb⟩ := byte_of hwf
    exact ⟨b, by rw [List.getElem?_eq_getElem (by omega), (List.cons.inj hz).1, hb]⟩
  obtain ⟨hs, hl, hh⟩ := list_of (0 : UInt8) (fun j b => cs[j]? = some (.int .u8 b.toNat)) 32 hb
  refine ⟨hs, hl, ?_⟩
  apply List.ext_getElem?
  intro j
  by_cases hj : j < 32
  · rw [hh j hj, Array.getElem?_toList, B8_get hs j (by omega)]
  · rw [List.getElem?_eq_none (by omega), List.getElem?_eq_none (by rw [Array.length_toList, B8_size]; omega)]
theorem weights_in {P : Program} {e : TypeId} {d : DataW H} {n : Nat} (hn : n ∈ d.weights P e) : ∀ {l : List (DataW H)}, d ∈ l → n ∈ DataW.weightsAll P e l
  | [], h => by cases h
  | x :: l, h => by
    unfold DataW.weightsAll
    rcases List.mem_cons.1 h with rfl | h
    · exact List.mem_append_left _ hn
    · exact List.mem_append_right _ (weights_in hn h)
theorem bytes5 : Tryz.prog.bytesOf 5 = 1 := by kernel_rfl
end
end Go.Proofs.YtilbbemdinpjcaaGreat.W
namespace Go.Proofs.YtilbbemdinpjcaaGreat.W
open Go.RowKit

theorem PRow.cell {W : World} {g off : Nat} {ps : List PutD} (h : PRow W g off ps) {i : Nat} {p : PutD} (hi : ps[i]? = some p) {j : Nat} {v : Value} (hv : p.cells[j]? = some v) : W.cell? ⟨g, off + i * 37 + j, none⟩ = some v := by
  rw [Nat.add_assoc]; exact (h i p hi).2 j v hv
theorem PRow.below {B : Nat} {W W' : World} {g off : Nat} {ps : List PutD} (h : PRow W g off ps) (hW : W.heap.size ≤ B) (hb : Below B W W') : PRow W' g off ps := by
  intro i p hi
  obtain ⟨hok, hc⟩ := h i p hi
  refine ⟨⟨hok.hlen, hok.wlt, hok.lo, hok.hi, hok.slen, ?_, hok.xlen⟩, fun j v hj => (hb.cell (p := ⟨g, off + (i * 37 + j), none⟩) (Nat.lt_of_lt_of_le (block_lt (hc j v hj)) hW)).trans (hc j v hj)⟩
  exact hok.raw.below (hb.mono hW)
/-- How many bytes the first n have. -/
def sumB (ps : List PutD) : Nat → Nat
  | 0 => 0
  | n + 1 => sumB ps n + (match ps[n]? with | some p => p.xs.length | none => 0)
theorem sumB_succ {ps : List PutD} {n : Nat} {p : PutD} (h : ps[n]? = some p) : sumB ps (n + 1) = sumB ps n + p.xs.length := by simp [sumB, h]
def Small (s : ByteArray) : Prop := s.size ≤ 300 ∨ 65536 ≤ s.size
/-- What 'great' told: if no, there is little of all. -/
def Told (ps : List PutD) (nb : Nat) (w : World) (e : Ending) (w' : World) : Prop :=
  w = w' ∧ ∃ r, e = .returned (.bool r) ∧ (r = false → ps.length + nb + sumB ps ps.length ≤ 300 ∧ ∀ (i : Nat) (p : PutD), ps[i]? = some p → Small p.s)
theorem Told.yes {ps : List PutD} {nb : Nat} {w : World} : Told ps nb w (.returned (.bool true)) w := ⟨rfl, true, rfl, fun h => by cases h⟩
theorem PutD.rawv {p : PutD} {W : World} (h : p.Ok W) : ∃ A c, p.bv = .slice A p.xs.length c := by
  rcases h.raw with ⟨h1, h2⟩ | ⟨ad, c, h1, _⟩
  · exact ⟨none, 0, by rw [h1, h2]; rfl⟩
  · exact ⟨_, _, h1⟩

end Go.Proofs.YtilbbemdinpjcaaGreat.W
namespace Go.Proofs.YtilbbemdinpjcaaGreat.W
open Go.RowKit

theorem Only.keep {g : Nat} {w w' : World} {o : Option Nat} {k : Nat} {cs : Array Value} {t : TypeId} (h : Only g w w' o) (hl : Lies w k cs t) (hg : k ≠ g) (ho : o ≠ some k) : Lies w' k cs t :=
  (h.block k hl.lt hg (fun e => ho e.symm)).trans hl
theorem own_only {g : Nat} {w w' : World} {o : Option Nat} {base n : Nat} {e : TypeId} {size : Nat} {u : Value} {xs : List Value} (h : w.ownsRow base e size u n xs) (ho : Only g w w' o) (h1 : u.ownBlock ≠ some g) (h2 : ∀ k, u.ownBlock = some k → o ≠ some k) :
    w'.ownsRow base e size u n xs := by
  refine ⟨h.1, ?_⟩
  rcases h.2 with hn | ⟨k, cap, cur, rfl, hb, h3, h4⟩
  · exact .inl hn
  · exact .inr ⟨k, cap, cur, rfl, hb, (ho.block k (Array.getElem?_eq_some_iff.1 h3).1 (fun e => h1 (by rw [e]; rfl)) (fun e => h2 k rfl e.symm)).trans h3, h4⟩
theorem own_block {w : World} {B n : Nat} {e : TypeId} {size : Nat} {u : Value} {xs : List Value} (h : w.ownsRow B e size u n xs) : ∀ x, u.ownBlock = some x → B ≤ x ∧ x < w.heap.size := by
  intro x hx
  rcases h.2 with ⟨rfl, _⟩ | ⟨k, cap, cur, rfl, hb, _⟩
  · cases hx
  · obtain rfl : k = x := by simpa [Value.ownBlock] using hx
    exact ⟨hb, own_lt h rfl⟩
/-- The program's writer in gw, the document's own in gx. -/
structure Two (B gw gx : Nat) (v vx : Value) (sa sb : Option (List UInt8)) (w : World) : Prop where
  a : WSt w B gw v sa
  b : RfS w B gx vx sb
  ne : gw ≠ gx
  v1 : v.ownBlock ≠ some gx
  v2 : vx.ownBlock ≠ some gw
  v3 : ∀ k, v.ownBlock = some k → vx.ownBlock ≠ some k
  v4 : ∀ x, v.ownBlock = some x → B ≤ x ∧ x < w.heap.size
  v5 : ∀ x, vx.ownBlock = some x → B ≤ x ∧ x < w.heap.size
theorem WSt.lies {w : World} {B g : Nat} {v : Value} {st : Option (List UInt8)} (h : WSt w B g v st) : g < w.heap.size := by
  cases st with
  | none => exact h.1.lt
  | some l => exact h.1.lt
theorem RfS.lies {w : World} {B g : Nat} {v : Value} {st : Option (List UInt8)} (h : RfS w B g v st) : g < w.heap.size := by
  cases st with
  | none => exact h.1.lt
  | some l => exact h.1.lt
theorem WSt.low {w : World} {B g : Nat} {v : Value} {st : Option (List UInt8)} (h : WSt w B g v st) : B ≤ g := by
  cases st with
  | none => exact h.2
  | some l => exact h.2.2.2
theorem RfS.low {w : World} {B g : Nat} {v : Value} {st : Option (List UInt8)} (h : RfS w B g v st) : B ≤ g := by
  cases st with
  | none => exact h.2.2
  | some l => exact h.2.2.2
theorem WSt.only {g' : Nat} {w w' : World} {o : Option Nat} {B g : Nat} {v : Value} {st : Option (List UInt8)} (h : WSt w B g v st) (ho : Only g' w w' o) (h1 : g ≠ g') (h2 : o ≠ some g) (h3 : v.ownBlock ≠ some g') (h4 : ∀ k, v.ownBlock = some k → o ≠ some k) : WSt w' B g v st := by
  cases st with
  | none => exact ⟨ho.keep h.1 h1 h2, h.2⟩
  | some l => exact ⟨ho.keep h.1 h1 h2, own_only h.2.1 ho h3 h4, h.2.2⟩
theorem RfS.only {g' : Nat} {w w' : World} {o : Option Nat} {B g : Nat} {v : Value} {st : Option (List UInt8)} (h : RfS w B g v st) (ho : Only g' w w' o) (h1 : g ≠ g') (h2 : o ≠ some g) (h3 : v.ownBlock ≠ some g') (h4 : ∀ k, v.ownBlock = some k → o ≠ some k) : RfS w' B g v st := by
  cases st with
  | none => exact ⟨ho.keep h.1 h1 h2, h.2⟩
  | some l => exact ⟨ho.keep h.1 h1 h2, own_only h.2.1 ho h3 h4, h.2.2⟩
theorem Two.below {B gw gx : Nat} {v vx : Value} {sa sb : Option (List UInt8)} {w w' : World} (h : Two B gw gx v vx sa sb w) (hb : Below w.heap.size w w') : Two B gw gx v vx sa sb w' :=
  ⟨h.a.below hb, h.b.below hb, h.ne, h.v1, h.v2, h.v3, fun x hx => ⟨(h.v4 x hx).1, Nat.lt_of_lt_of_le (h.v4 x hx).2 hb.size⟩, fun x hx => ⟨(h.v5 x hx).1, Nat.lt_of_lt_of_le (h.v5 x hx).2 hb.size⟩⟩
theorem grown_only {w w' : World} {o : Option Nat} (hg : w.grownBy w' o) (K : Nat) : Only K w w' o := ⟨hg.os, hg.tape, hg.output, hg.size, fun k hk _ h => hg.block k hk h⟩
/-- One block that is neither's turns. -/
theorem Two.grown {B gw gx : Nat} {v vx : Value} {sa sb : Option (List UInt8)} {w w' : World} {o : Option Nat} (h : Two B gw gx v vx sa sb w) (hg : w.grownBy w' o) (h1 : o ≠ some gw) (h2 : o ≠ some gx) (h3 : ∀ k, v.ownBlock = some k → o ≠ some k) (h4 : ∀ k, vx.ownBlock = some k → o ≠ some k) : Two B gw gx v vx sa sb w' := by
  have ho := grown_only hg w.heap.size
  have ha := h.a.lies
  have hb := h.b.lies
  exact ⟨h.a.only ho (by omega) h1 (fun e => by have := (h.v4 _ e).2; omega) h3, h.b.only ho (by omega) h2 (fun e => by have := (h.v5 _ e).2; omega) h4, h.ne, h.v1, h.v2, h.v3, fun x hx => ⟨(h.v4 x hx).1, Nat.lt_of_lt_of_le (h.v4 x hx).2 hg.size⟩, fun x hx => ⟨(h.v5 x hx).1, Nat.lt_of_lt_of_le (h.v5 x hx).2 hg.size⟩⟩
/-- What may have turned by a call of the first writer, or of the second. -/
def Turned (g : Nat) (v : Value) (B : Nat) (w w' : World) : Prop := Only g w w' v.ownBlock ∧ B ≤ g ∧ ∀ x, v.ownBlock = some x → B ≤ x ∧ x < w.heap.size
theorem Turned.below {g : Nat} {v : Value} {w0 w w' : World} (h : Turned g v w0.heap.size w w') (hb : Below w0.heap.size w0 w) : Below w0.heap.size w0 w' :=
  h.1.below hb h.2.1 (fun x hx => (h.2.2 x hx).1)
/-- The own row is the old one, or newer than the world. -/
def Newer (w : World) (v v' : Value) : Prop := ∀ x, v'.ownBlock = some x → v.ownBlock = some x ∨ w.heap.size ≤ x
theorem newer_of {w w' : World} {v v' : Value} (h : v'.ownBlock = v.ownBlock ∨ ∃ k, v'.ownBlock = some k ∧ w.heap.size ≤ k ∧ k < w'.heap.size) : Newer w v v' := by
  intro x hx
  rcases h with e | ⟨k, e, h4, _⟩
  · exact .inl (e ▸ hx)
  · rw [e] at hx
    have := Option.some.inj hx
    exact .inr (by omega)
theorem Two.put {B gw gx : Nat} {v vx : Value} {sa sa' sb : Option (List UInt8)} {w w' : World} (h : Two B gw gx v vx sa sb w) (hm : MoreO w B gw v sa' w') : ∃ v', Two B gw gx v' vx sa' sb w' ∧ Turned gw v B w w' ∧ Newer w v v' := by
  obtain ⟨v', h1, h2, h3⟩ := hm
  refine ⟨v', ⟨h1, h.b.only h2 (Ne.symm h.ne) h.v1 h.v2 (fun k hk e => h.v3 k e hk), h.ne, ?_, h.v2, ?_, ?_, fun x hx => ⟨(h.v5 x hx).1, Nat.lt_of_lt_of_le (h.v5 x hx).2 h2.size⟩⟩, ⟨h2, h.a.low, h.v4⟩, newer_of h3⟩
  · rcases h3 with e | ⟨k, e, h4, h5⟩
    · rw [e]; exact h.v1
    · rw [e]; intro e2; have := Option.some.inj e2; have := h.b.lies; omega
  · intro k hk
    rcases h3 with e | ⟨k2, e, h4, h5⟩
    · exact h.v3 k (e ▸ hk)
    · intro e2
      have := (h.v5 k e2).2
      rw [e] at hk
      have := Option.some.inj hk
      omega
  · intro x hx
    rcases h3 with e | ⟨k, e, h4, h5⟩
    · exact ⟨(h.v4 x (e ▸ hx)).1, Nat.lt_of_lt_of_le (h.v4 x (e ▸ hx)).2 h2.size⟩
    · rw [e] at hx
      have := Option.some.inj hx
      have := h.a.low
      have := h.a.lies
      omega
theorem Two.want {B gw gx : Nat} {v vx : Value} {sa sb sb' : Option (List UInt8)} {w w' : World} (h : Two B gw gx v vx sa sb w) (hm : RMoreO w B gx vx sb' w') : ∃ v', Two B gw gx v v' sa sb' w' ∧ Turned gx vx B w w' ∧ Newer w vx v' := by
  obtain ⟨v', h1, h2, h3⟩ := hm
  refine ⟨v', ⟨h.a.only h2 h.ne h.v2 h.v1 (fun k hk e => h.v3 k hk e), h1, h.ne, h.v1, ?_, ?_, fun x hx => ⟨(h.v4 x hx).1, Nat.lt_of_lt_of_le (h.v4 x hx).2 h2.size⟩, ?_⟩, ⟨h2, h.b.low, h.v5⟩, newer_of h3⟩
  · rcases h3 with e | ⟨k, e, h4, h5⟩
    · rw [e]; exact h.v2
    · rw [e]; intro e2; have := Option.some.inj e2; have := h.a.lies; omega
  · intro k hk
    rcases h3 with e | ⟨k2, e, h4, h5⟩
    · rw [e]; exact h.v3 k hk
    · intro e2
      have := (h.v4 k hk).2
      rw [e] at e2
      have := Option.some.inj e2
      omega
  · intro x hx
    rcases h3 with e | ⟨k, e, h4, h5⟩
    · exact ⟨(h.v5 x (e ▸ hx)).1, Nat.lt_of_lt_of_le (h.v5 x (e ▸ hx)).2 h2.size⟩
    · rw [e] at hx
      have := Option.some.inj hx
      have := h.b.low
      have := h.b.lies
      omega
/-- A row that a call of either leaves: its block is newer than the writers' own. -/
theorem Turned.keep {g : Nat} {v : Value} {B : Nat} {w w' : World} {k : Nat} {cs : Array Value} {t : TypeId} (h : Turned g v B w w') (hl : Lies w k cs t) (hg : k ≠ g) (ho : v.ownBlock ≠ some k) : Lies w' k cs t := h.1.keep hl hg ho
theorem Turned.own {g : Nat} {v : Value} {B : Nat} {w w' : World} {base n : Nat} {u : Value} {xs : List Value} (h : Turned g v B w w') (ho : w.ownsRow base 5 1 u n xs) (hg : u.ownBlock ≠ some g) (h2 : ∀ k, u.ownBlock = some k → v.ownBlock ≠ some k) : w'.ownsRow base 5 1 u n xs := own_only ho h.1 hg h2
/-- How long the bytes may be behind k puts. -/
def Fits (ps : List PutD) (k : Nat) (st : Option (List UInt8)) : Prop := ∀ l, st = some l → l.length ≤ 400 * k + sumB ps k
theorem step_len (st : Option (List UInt8)) (p : PutD) (W : World) (hok : p.Ok W) (hs : Small p.s) (n : Nat) (h : ∀ l, st = some l → l.length ≤ n) : ∀ l, stepPut st p.n0 p.n1 p.n2 p.hs p.xs p.s = some l → l.length ≤ n + 400 + p.xs.length := by
  intro l
  have hN : ∀ m s, stepN st m s = some l → l.length ≤ n + s := by
    intro m s e
    cases st with
    | none => cases e
    | some l0 =>
      simp only [stepN, Option.bind_some] at e
      split at e
      · cases e; have := h l0 rfl; rw [List.length_append, beN_length]; omega
      · cases e
  have hB : ∀ xs : List UInt8, stepB st xs = some l → l.length ≤ n + xs.length := by
    intro xs e
    cases st with
    | none => cases e
    | some l0 =>
      simp only [stepB, Option.map_some] at e
      cases e; have := h l0 rfl; rw [List.length_append]; omega
  unfold stepPut
  intro e
  split at e
  · have := hN _ _ e; omega
  split at e
  · have := hN _ _ e; omega
  split at e
  · have := hN _ _ e; omega
  split at e
  · have := hN _ _ e; omega
  split at e
  · have := hN _ _ e; omega
  split at e
  · have := hB _ e; have := hok.hlen; omega
  split at e
  · have := hB _ e; omega
  split at e
  · unfold stepText at e
    split at e
    · have h1 := hB _ e
      rw [List.length_append, beN_length, str_len] at h1
      rcases hs with hs | hs <;> omega
    · cases e
  split at e
  · have := hB _ e; simp at this; omega
  split at e
  · cases e
  · have := h l e; omega
/-- Bytes of a row of one's own, as a text. -/
theorem own_text {w : World} {B : Nat} {u : Value} {l : List UInt8} (h : w.ownsRow B 5 1 u l.length (B8 l).toList) : (convert 54 9 u).run Tryz.prog w = .ok (.string ⟨l.toArray⟩) w := by
  rcases h.2 with ⟨rfl, hn⟩ | ⟨k, cap, cur, rfl, _⟩
  · obtain rfl : l = [] := List.eq_nil_of_length_eq_zero hn
    rw [run_convert_bytes_string w 54 9 5 none 0 0 Tryz.underlying54 Tryz.underlying5 Tryz.underlying9]
    simp [Conv.bytesToString]
    rfl
  · exact str_of_src (own_src h)
end Go.Proofs.YtilbbemdinpjcaaGreat.W
namespace Go.Proofs.YtilbbemdinpjcaaGreat.P
set_option maxRecDepth 100000
open Go.RowKit

/-- The bytes that a writer tells. -/
def bs : Option (List UInt8) → List UInt8
  | none => []
  | some l => l
theorem newW_any (w : World) : Calls Tryz.prog 36 #[] w fun e w' => e = .returned (.pointer (some ⟨w.heap.size, 0, none⟩)) ∧ (∃ v, WrO W.WSt w' w.heap.size w.heap.size v (some [])) ∧ Below w.heap.size w w' :=
  (W.newwriter_any w).mono fun e w' ⟨h1, h2, h3⟩ => by
    obtain ⟨v, hv⟩ := h2.wrv
    exact ⟨h1, ⟨v, ⟨hv, W.own_block hv.2.1, hv.2.2.1, hv.1.lt, Nat.le_refl _⟩⟩, h3⟩
theorem bytesW_any (w : World) {B g : Nat} {v : Value} {st : Option (List UInt8)} (h : WrO W.WSt w B g v st) (hx : sz st ≤ 2000000) :
    Calls Tryz.prog 38 #[.pointer (some ⟨g, 0, none⟩)] w fun e w' => ∃ u er, e = .returned (.tuple #[u, .int .i64 er]) ∧ er = (if st.isNone then 2 else 0) ∧ w'.ownsRow w.heap.size 5 1 u (bs st).length (B8 (bs st)).toList ∧ Below w.heap.size w w' := by
  cases st with
  | none =>
    refine (W.wbytes_spoilt w B g v h.s).mono ?_
    rintro e w' ⟨rfl, rfl⟩
    exact ⟨_, _, rfl, rfl, World.ownsRow_nil _ _ _ _, Below.refl _ _⟩
  | some l => exact (W.wbytes_good w B g v l h.s hx).mono fun e w' ⟨u, h1, h2⟩ => ⟨u, _, h1, rfl, h2⟩
theorem stays_low {S : World → Nat → Nat → Value → Option (List UInt8) → Prop} {w0 w : World} {B g : Nat} {v : Value} {st : Option (List UInt8)} {P : World → Prop} (h : WrO S w B g v st) (hb : Below B w0 w) (hP : ∀ V, Below B w0 V → P V) : Stays g w v P :=
  fun V _ hl => hP V (hb.trans (hl.low h.le (fun x e => (h.own x e).1) (by have := h.le; have := h.lt; omega)))
theorem own_len {w : World} {base n : Nat} {u : Value} {xs : List Value} (h : w.ownsRow base 5 1 u n xs) : ∃ a c, u = .slice a n c := by
  rcases h.2 with ⟨rfl, rfl⟩ | ⟨k, cap, cur, rfl, _⟩
  · exact ⟨_, _, rfl⟩
  · exact ⟨_, _, rfl⟩
set_option maxHeartbeats 4000000 in
theorem long_any (w : World) (o : Ot) (hT : OtOk w o) (hi : ∀ x ∈ o.ns, NdIn x) (hx : 123 * cntO o ≤ 600000) :
    Calls Tryz.prog 19 #[.agg (otC o)] w fun e w' => e = .returned (.int .i64 (sz (if rightOB o then outS (some []) o else none))) ∧ Below w.heap.size w w' := by
  obtain ⟨ov, hov⟩ : ∃ y, y = otC o := ⟨_, rfl⟩
  obtain ⟨s1, hs1⟩ : ∃ s, s = (if rightOB o then outS (some []) o else none) := ⟨_, rfl⟩
  have hz1 : sz s1 ≤ 600000 := by
    have h1 := sz_out (some []) o hT.ah hT.dh (fun a ha => (hT.v.2.2.2.1 a ha).1)
    rw [hs1]
    split
    · simp only [sz, List.length_nil] at h1 ⊢; omega
    · exact Nat.zero_le _
  have hi1 : (Tryz.prog.info? 35).map (·.size) = some ov.size := by rw [hov, otC_size o hT.ah hT.dh]; exact info_output
  have hL := Lies.new w ov 35
  have hb : Below w.heap.size w (w.alloc (.cells ov 35)) := (Below.refl _ _).alloc (Nat.le_refl _) _
  have HI := Lib.hid hi1
  rw [← hov, ← hs1]
  have H := Lib.hid (And.intro hT (And.intro hi (And.intro hx (And.intro hz1 (And.intro hs1 hov)))))
  clear hT hi hx hz1 hs1 hov hi1
  obtain ⟨W0, HW⟩ : ∃ W0, w.alloc (.cells ov 35) = W0 := ⟨_, rfl⟩
  go_enter Tryz.func19, Tryz.ntmps19
  go_upto_region 1 with fail
  rw [HW] at hL hb
  clear HW
  obtain ⟨q, hq⟩ : ∃ q, q = w.heap.size := ⟨_, rfl⟩
  rw [← hq] at hL ⊢
  have HB := Lib.hid (And.intro hb (And.intro hL hq))
  clear hb hL hq
  go_wp2_with fail
  refine (newW_any W0).mono ?_
  rintro e W1 ⟨rfl, ⟨v1, hw1⟩, hb1⟩
  have hL1 := HB.out.2.1.below hb1 HB.out.2.1.lt
  have hst : Stays W0.heap.size W1 v1 fun V => OtOk V o := stays_low hw1 hb1 (w0 := W0) fun V hV => (H.out.1.below HB.out.1 (Nat.le_refl _)).below hV (Nat.le_refl _)
  have HC := Lib.hid (putOutput_any W1 o hst H.out.2.1 hw1 (by simp only [sz, List.length_nil]; have := H.out.2.2.1; omega))
  rw [← H.out.2.2.2.2.1, ← H.out.2.2.2.2.2] at HC
  have H1 := Lib.hid (And.intro hL1 (And.intro hb1 hw1))
  clear hw1 hb1 hL1 hst
  go_wp2_with (first
    | (at_builtin; fail)
    | (refine wpList_load_row rfl 35 _ rfl q rfl 35 ov (0, 0) _ (H1.out.1) Tryz.underlying35 rfl HI.out ?_))
  refine HC.out.mono ?_
  rintro e W2 ⟨rfl, v2, hw2, hk2⟩
  have hb2 : Below W0.heap.size W1 W2 := hk2.low (Nat.le_refl _) (fun x e => (H1.out.2.2.own x e).1) H1.out.2.1.size
  have HC2 := Lib.hid (bytesW_any W2 hw2 (by have := H.out.2.2.2.1; omega))
  have H2 := Lib.hid (HB.out.1.trans ((H1.out.2.1.trans hb2).mono HB.out.1.size))
  clear hw2 hk2 hb2 HC
  go_wp2_with fail
  refine HC2.out.mono ?_
  rintro e W3 ⟨u, er, rfl, her, hown, hb3⟩
  clear her
  obtain ⟨a, c, rfl⟩ := own_len hown
  have H3 := Lib.hid (H2.out.trans (hb3.mono H2.out.size))
  clear hown hb3 HC2
  go_wp2_with fail
  go_ret
  refine ⟨?_, H3.out⟩
  cases s1 <;> rfl
end Go.Proofs.YtilbbemdinpjcaaGreat.P
