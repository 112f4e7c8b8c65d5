/-
  LentRows, KeptRows: copies of rows of bytes, marks behind each; they are as they were. At most 3000 rows, each of at most 3000 bytes.
-/
import Derived.Test.YtccfdobogbiomaaDoorKept
import Derived.Test.YtccfdobogbiomaaDoorSame
namespace Go.Proofs.YtccfdobogbiomaaDoor
open Go.RowKit Sha

theorem OwnB.block {w : World} {n c : Nat} {l : List UInt8} (h : OwnB w n c l) : ∃ cur, w.heap[n]? = some (.cells cur 5 (0, 0)) := by
  rcases h.2 with ⟨e, _⟩ | ⟨g', cap, cur, e, _, hb, _⟩
  · cases e
  · cases e; exact ⟨cur, hb⟩
theorem OwnB.of_block {w w' : World} {n c : Nat} {l : List UInt8} (h : OwnB w n c l) (hb : w'.heap[n]? = w.heap[n]?) : OwnB w' n c l := by
  refine ⟨h.1, ?_⟩
  rcases h.2 with ⟨e, _⟩ | ⟨g', cap, cur, e, h0, h1, h2⟩
  · cases e
  · cases e
    exact .inr ⟨n, c, cur, rfl, h0, hb.trans h1, h2⟩
theorem OwnB.below {B : Nat} {w w' : World} {n c : Nat} {l : List UInt8} (h : OwnB w n c l) (hb : Below B w w') (hn : n < B) : OwnB w' n c l := h.of_block (hb.block n hn)
theorem OwnB.grown {w w' : World} {n c : Nat} {l : List UInt8} {o : Option Nat} (h : OwnB w n c l) (hg : w.grownBy w' o) (hne : some n ≠ o) : OwnB w' n c l := h.of_block (hg.block n h.room.2.2 hne)
theorem RowP.other {w0 w : World} {ps : List Part} {v : Value} (h : RowP w0 ps v w) {n c : Nat} {l : List UInt8} (ho : OwnB w n c l) : some n ≠ v.ownBlock := by
  intro e
  rcases h.1.2 with ⟨rfl, _⟩ | ⟨g, cap, cur, rfl, _, hb, _⟩
  · cases e
  · obtain ⟨cur', hb'⟩ := ho.block
    have hgn : n = g := Option.some.inj e
    subst hgn
    rw [hb'] at hb
    simp at hb
theorem RowP.slice {w0 w : World} {ps : List Part} {v : Value} (h : RowP w0 ps v w) : ∃ a c, v = .slice a ps.length c ∧ c ≤ maxLen ∧ ps.length ≤ c ∧ (0 < ps.length → ∃ g, a = some ⟨g, 0, none⟩ ∧ g < w.heap.size ∧ w0.heap.size ≤ g ∧ PSrc w g 0 ps) := by
  rcases h.1.2 with ⟨rfl, h0⟩ | ⟨g, cap, cur, rfl, hbase, hb, h1, h2, _⟩
  · have : ps = [] := List.eq_nil_of_length_eq_zero h0
    subst this
    exact ⟨none, 0, rfl, Nat.zero_le _, Nat.le_refl _, fun h => absurd h (by simp)⟩
  · exact ⟨_, cap, rfl, h2, h1, fun _ => ⟨g, rfl, (Array.getElem?_eq_some_iff.1 hb).1, hbase, h.psrc⟩⟩

theorem wpList_pushG {w0 w : World} {ops : Array Oper} {rest : List Oper} {o : Oper} {a : Act} {Q : Exit → Act → World → Prop} (hgd : o.guard = none) (sx x : Operand)
    (ho : o.op = .call { callee := .builtin .append, args := #[sx, x], argTypes := #[22, 22] }) (ps qs : List Part) (v : Value) (cells : Array Value) (hcells : cells = (qs.map Part.val).toArray)
    (hs : a.eval sx = v) (hx : a.eval x = .slice (some ⟨w.heap.size, 0, none⟩) qs.length qs.length) (hl : ps.length + qs.length ≤ 5000) (h : RowP w0 ps v w)
    (k : ∀ v' w', Hid (RowP w0 (ps ++ qs) v' w') → Hid ((w.alloc (.cells cells 38)).grownBy w' v.ownBlock) → wpList Tryd.prog ops Q rest (a.put o.dst v') w') : wpList Tryd.prog ops Q (o :: rest) a (w.alloc (.cells cells 38)) := by
  subst hcells
  obtain ⟨i0, hi0, hz0, hz1, hz2⟩ := info_parts info38
  refine wpList_append_own _ hgd sx x 22 ho w0.heap.size 38 i0 (.slice none 0 0) 1 24 Tryd.underlying22 hi0 hz0 hz1 hz2 rfl (by decide) v ps.length (ps.map Part.val) hs (h.alloc _).1 ⟨w.heap.size, 0, none⟩ qs.length qs.length (qs.map Part.val) hx (by simp) ?_ ?_ (by unfold maxLen; omega) (by omega) (by have := h.2.size; simp; omega) ?_
  · have := World.news_of_block (cs := (qs.map Part.val).toArray) (t := 38) (fr := (0, 0)) (heap_alloc_new w (.cells (qs.map Part.val).toArray 38))
    simpa using this
  · intro u hu
    obtain ⟨p, _, rfl⟩ := List.mem_map.1 hu
    rfl
  · intro v' w' hown hgrow _
    refine k v' w' ⟨?_, ?_⟩ hgrow
    · rw [List.map_append, List.length_append]; exact hown
    · exact (h.alloc _).2.grown hgrow (by have := h.2.size; simp; omega) (fun j e => (h.1.lt j e).1)

/-- k rows are copied. -/
def LentI (w : World) (ps : List Part) (k : Nat) (v : Value) (wr : World) : Prop :=
  ∃ qs : List Part, qs.length = k ∧ RowP w qs v wr ∧ ∀ j, j < k → ∃ n c, qs.getD j ⟨none, [], 0⟩ = ⟨some ⟨n, 0, none⟩, (ps.getD j ⟨none, [], 0⟩).xs, c⟩ ∧ OwnB wr n c ((ps.getD j ⟨none, [], 0⟩).xs ++ marks 12) ∧ w.heap.size ≤ n
theorem LentI.next {w : World} {ps qs : List Part} {v5 v : Value} {w4 w5 wr : World} {k n c : Nat} (hk : qs.length = k) (hr : RowP w qs v wr) (hall : ∀ j, j < k → ∃ n c, qs.getD j ⟨none, [], 0⟩ = ⟨some ⟨n, 0, none⟩, (ps.getD j ⟨none, [], 0⟩).xs, c⟩ ∧ OwnB wr n c ((ps.getD j ⟨none, [], 0⟩).xs ++ marks 12) ∧ w.heap.size ≤ n)
    (hb : Below wr.heap.size wr w4) (ho : OwnB w4 n c ((ps.getD k ⟨none, [], 0⟩).xs ++ marks 12)) (hn : wr.heap.size ≤ n) (o : Obj) (hr4 : RowP w qs v w4)
    (h5 : RowP w (qs ++ [⟨some ⟨n, 0, none⟩, (ps.getD k ⟨none, [], 0⟩).xs, c⟩]) v5 w5) (hg : (w4.alloc o).grownBy w5 v.ownBlock) : LentI w ps (k + 1) v5 w5 := by
  refine ⟨_, by simp [hk], h5, fun j hj => ?_⟩
  have keep : ∀ n c l, OwnB w4 n c l → OwnB w5 n c l := fun n c l h => OwnB.grown (h.of_block (Below.heap_alloc w4 o n h.room.2.2)) hg (hr4.other h)
  by_cases hjk : j < k
  · obtain ⟨n', c', e, ho', hn'⟩ := hall j hjk
    refine ⟨n', c', ?_, keep _ _ _ (ho'.below hb ho'.room.2.2), hn'⟩
    rw [List.getD_eq_getElem?_getD, List.getElem?_append_left (by omega), ← List.getD_eq_getElem?_getD]
    exact e
  · obtain rfl : j = k := by omega
    refine ⟨n, c, ?_, keep _ _ _ ho, Nat.le_trans hr.2.size hn⟩
    rw [List.getD_eq_getElem?_getD, List.getElem?_append_right (by omega)]
    simp [hk]

set_option maxRecDepth 100000 in
set_option maxHeartbeats 2000000 in
theorem lentrows_any (ps : List Part) (w : World) (v : Option Addr) (cap : Nat) (hm : ps.length ≤ 3000) (hgood : ∀ p, p ∈ ps → Good w p ∧ (p.at_ = none → p.cap = 0) ∧ p.xs.length ≤ 3000)
    (hv : 0 < ps.length → ∃ g off, v = some ⟨g, off, none⟩ ∧ g < w.heap.size ∧ PSrc w g off ps) :
    Calls Tryd.prog 9 #[.slice v ps.length cap] w fun e w' => ∃ u, e = .returned u ∧ LentI w ps ps.length u w' := by
  have HG := Lib.hid hgood
  have HV := Lib.hid hv
  clear hgood hv
  go_enter Tryd.func9, Tryd.ntmps9
  go_wp2_with fail
  go_loopw [3, 4] (fun u i wr => ∃ k : Nat, k ≤ ps.length ∧ i = .int .i64 k ∧ LentI w ps k u wr) (fun _ i _ => ps.length - (intOf i).toNat)
  case atStart => exact ⟨0, by omega, rfl, [], rfl, ⟨World.ownsRow_nil _ _ _ _, Below.refl _ _⟩, fun j hj => absurd hj (by omega)⟩
  case round =>
    obtain ⟨k, hk, rfl, hat⟩ := hrel
    have HA := Lib.hid hat
    clear hat
    by_cases hlt : k < ps.length
    · obtain ⟨g, off, rfl, hgw, hps⟩ := HV.out (by omega)
      obtain ⟨qs, hqk, hrow, hall⟩ := HA.out
      obtain ⟨p, hp⟩ : ∃ p, p = ps.getD k ⟨none, [], 0⟩ := ⟨_, rfl⟩
      have hcell : wr.cell? ⟨g, off + k, none⟩ = some (.slice p.at_ p.xs.length p.cap) := by
        rw [hp]
        exact (hrow.2.cell (p := ⟨g, off + k, none⟩) hgw).trans (hps k hlt)
      have hmem : p ∈ ps := by rw [hp]; simp [hlt]
      obtain ⟨hgp, hne, hxl⟩ := HG.out p hmem
      have hlent := lent_any p.at_ p.xs p.cap wr (hgp.below hrow.2) hne hxl
      have HLENT := Lib.hid hlent
      have HQ := Lib.hid (And.intro hqk (And.intro hrow hall))
      have HP := Lib.hid hp
      have m1 : (k : Int) < (ps.length : Int) := by omega
      clear hlent hqk hrow hall hp hps hmem hgp hne
      go_wp2_with fail
      refine HLENT.out.mono ?_
      rintro e w4 ⟨n, c, rfl, o1, o2, o3⟩
      have hrow4 : RowP w qs u3 w4 := by
        obtain ⟨q1, q2, _⟩ := HQ.out
        refine ⟨?_, q2.2.trans (o3.mono q2.2.size)⟩
        refine ⟨q2.1.1, ?_⟩
        rcases q2.1.2 with h | ⟨g', cap', cur, e, hbase, hb, h2⟩
        · exact .inl h
        · exact .inr ⟨g', cap', cur, e, hbase, (o3.block g' (Array.getElem?_eq_some_iff.1 hb).1).trans hb, h2⟩
      have HR4 := Lib.hid hrow4
      have HO := Lib.hid (And.intro o1 (And.intro o2 o3))
      have HCL : Hid (#[Value.slice (some ⟨n, 0, none⟩) p.xs.length c] = (List.map Part.val [⟨some ⟨n, 0, none⟩, p.xs, c⟩]).toArray) := Lib.hid rfl
      have hl5 : qs.length + [(⟨some ⟨n, 0, none⟩, p.xs, c⟩ : Part)].length ≤ 5000 := by have := HQ.out.1; simp; omega
      have HL5 := Lib.hid hl5
      clear hrow4 o1 o2 o3 hl5 HLENT
      go_wp2_with (at_builtin; go_must (refine wpList_pushG rfl _ _ rfl qs [⟨some ⟨n, 0, none⟩, p.xs, c⟩] _ _ HCL.out rfl rfl HL5.out HR4.out ?_; intro v5 w5 HR5 HG5))
      have hnx := LentI.next (ps := ps) HQ.out.1 HQ.out.2.1 HQ.out.2.2 HO.out.2.2 (by rw [← HP.out]; exact HO.out.1) HO.out.2.1 _ HR4.out (by rw [← HP.out]; exact HR5.out) HG5.out
      refine ⟨⟨k + 1, by omega, by go_num, hnx⟩, ?_⟩
      simp [intOf]; omega
    · have hd : decide (k < ps.length) = false := by simp; omega
      have hkl : k = ps.length := by omega
      have hat := HA.out
      rw [hkl] at hat
      have HX := Lib.hid hat
      clear hat HA hkl hlt hk
      go_wp2_with fail
      go_ret
      exact ⟨_, rfl, HX.out⟩
end Go.Proofs.YtccfdobogbiomaaDoor
