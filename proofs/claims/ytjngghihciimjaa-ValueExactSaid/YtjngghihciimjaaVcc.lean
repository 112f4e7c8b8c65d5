/-
  slices.Grow of nil, slices.Concat of rows of bundles.
-/
import Derived.Test.YtjngghihciimjaaVsb
import Derived.Lib.AppendZerosOnto
import Derived.Laws.AppendOwnNone
import Derived.WalkKit
import Derived.Lib.Walk
import Derived.Lib.SliceRun
namespace Go.Proofs.Ytjngghihciimjaa
set_option maxRecDepth 100000
open Go.RowKit Go.Sort Go.Maps

theorem info24 : (Try.prog.info? 24).map (fun i => (i.zero.map (·.cells.size), i.size, i.bytes)) = some (some 2, 2, 32) := by kernel_rfl
/-- Bundles in memory of the call's own. -/
def OwnVs (w : World) (B : Nat) (v : Value) (vs : List Va) : Prop := w.ownsRow B 24 2 v vs.length (cellsF vaC vs)
set_option maxHeartbeats 2000000 in
theorem grow_any (w : World) (n : Nat) (hn : n ≤ 1000000) :
    Calls Try.prog 48 #[.slice none 0 0, .int .i64 n] w fun e w' => (∃ v, e = .returned v ∧ OwnVs w' w.heap.size v []) ∧ Below w.heap.size w w' := by
  have h1 : ¬ ((n : Int) < 0) := by omega
  have hw : IntKind.i64.wrap (n : Int) = n := by rw [IntKind.wrap_i64]; omega
  by_cases h0 : n = 0
  · subst h0
    go_enter Try.func48, Try.ntmps48
    go_wp2_with fail
    go_ret
    exact ⟨⟨_, rfl, World.ownsRow_nil _ _ _ _⟩, Below.refl _ _⟩
  · have h4 : (0 : Int) < (n : Int) := by omega
    obtain ⟨i0, z0, hi0, hz0, hz1, hz2, hz3⟩ := info_parts info24
    have hrz : ∀ ty, (Builtin.append_ #[29, 3] ty #[.slice none 0 0, .int .i64 n]).run Try.prog w =
        .ok (.slice (some ⟨w.heap.size, 0, none⟩) n (grownCap w n 0 24)) (w.drew.alloc (.cells (#[] ++ Builtin.zeroCells z0.cells n ++ Builtin.zeroCells z0.cells (grownCap w n 0 24 - n)) 24)) := fun ty => by
      have h := Lib.run_append_grow_zeros w 29 3 ty 24 i0 z0 .i64 .i64 Try.underlying29 Try.underlying3 hi0 hz0 none 0 0 [] (by rw [hz1]; exact run_firstCells_none w.drew 2 0 0 0) n (by omega) (by rw [hz1]; decide) (by omega) (by omega) (by rw [hz2]; omega) (growslice_fits (by omega) (by rw [hz2]; omega))
      simpa using h
    have hge : n ≤ grownCap w n 0 24 := grownCap_ge w _ _ _
    have hle : grownCap w n 0 24 ≤ maxLen := grownCap_le_maxLen w n 0 24 (Nat.le_trans hn (by decide))
    obtain ⟨G, hG⟩ : ∃ G, G = grownCap w n 0 24 := ⟨_, rfl⟩
    rw [← hG] at hrz hge hle
    have hsz : (#[] ++ Builtin.zeroCells z0.cells n ++ Builtin.zeroCells z0.cells (G - n)).size = G * 2 := by
      simp only [Array.size_append, size_zeroCells, hz3]
      have : ((#[] : Array Value)).size = 0 := rfl
      omega
    generalize (#[] ++ Builtin.zeroCells z0.cells n ++ Builtin.zeroCells z0.cells (G - n) : Array Value) = cur at hrz hsz
    have hG63 : (G : Int) ≤ 9223372036854775807 := by unfold maxLen at hle; omega
    have H := Lib.hid (And.intro hle hsz)
    have HR := Lib.hid hrz
    clear hG hle hsz hi0 hz0 hz1 hz2 hz3 hrz
    go_enter Try.func48, Try.ntmps48
    go_wp2_with (at_builtin; refine Lib.wpList_append_run _ rfl _ _ _ _ rfl _ _ rfl rfl _ _ (HR.out _) ?_)
    go_ret
    exact ⟨⟨_, rfl, World.ownsRow_made w.drew cur G (Nat.le_refl _) H.out.1 H.out.2⟩, ((Below.refl _ _).drew).alloc (Nat.le_refl _) _⟩
def flatV (rs : List Vr) : List Va := rs.flatMap (·.vs)
theorem flatV_take {rs : List Vr} {k : Nat} {r : Vr} (h : rs[k]? = some r) : flatV (rs.take (k + 1)) = flatV (rs.take k) ++ r.vs := by
  unfold flatV
  rw [List.take_add_one, h, List.flatMap_append]
  simp
theorem flatV_le {rs : List Vr} {k : Nat} {r : Vr} (h : rs[k]? = some r) : (flatV (rs.take k)).length + r.vs.length ≤ (flatV rs).length := by
  have h1 : flatV rs = flatV (rs.take (k + 1)) ++ flatV (rs.drop (k + 1)) := by
    unfold flatV
    rw [← List.flatMap_append, List.take_append_drop]
  rw [h1, flatV_take h]
  simp
theorem RowR.below {B : Nat} {w w' : World} {pa : Option Addr} {rs : List Vr} (h : RowR w pa rs) (hb : Below B w w') (hB : w.heap.size ≤ B) : RowR w' pa rs :=
  ⟨h.1, fun hl => by
    obtain ⟨g, off, e, hg, hh⟩ := h.2 hl
    exact ⟨g, off, e, Nat.lt_of_lt_of_le hg hb.size, fun i r hr => ⟨(hb.cell (p := ⟨g, off + i, none⟩) (Nat.lt_of_lt_of_le hg hB)).trans (hh i r hr).1, (hh i r hr).2.below hb hB⟩⟩⟩
set_option maxHeartbeats 4000000 in
theorem concat_any (w : World) (pa : Option Addr) (rs : List Vr) (c : Nat) (h : RowR w pa rs) (hn : (flatV rs).length ≤ 1000000) (hnil : ∀ r, r ∈ rs → r.pa = none → r.c = 0) :
    Calls Try.prog 37 #[.slice pa rs.length c] w fun e w' => (∃ v, e = .returned v ∧ OwnVs w' w.heap.size v (flatV rs)) ∧ Below w.heap.size w w' := by
  have hli : (rs.length : Int) ≤ 9223372036854775807 := by have := h.1; unfold maxLen at this; omega
  have H := Lib.hid (And.intro h (And.intro hn hnil))
  clear h hn hnil
  go_enter Try.func37, Try.ntmps37
  go_upto_region 3 with fail
  go_loopw [3, 11] (fun s i W => ∃ k : Nat, k ≤ rs.length ∧ s = .int .i64 (flatV (rs.take k)).length ∧ i = .int .i64 k ∧ Below w.heap.size w W) (fun _ i _ => rs.length - (intOf i).toNat)
  case atStart => exact ⟨0, Nat.zero_le _, rfl, rfl, Below.refl _ _⟩
  case round =>
    obtain ⟨k, hk, rfl, rfl, hb⟩ := hrel
    by_cases hlt : k < rs.length
    · have m1 : (k : Int) < (rs.length : Int) := by omega
      have m0 : (0 : Int) ≤ (k : Int) := by omega
      obtain ⟨g, off, rfl, hg, hh⟩ := H.out.1.2 (by omega)
      obtain ⟨r, hr⟩ : ∃ r, r = rs[k] := ⟨_, rfl⟩
      have hkr : rs[k]? = some r := by rw [hr, List.getElem?_eq_getElem hlt]
      have c0 := (hb.cell (p := ⟨g, off + k, none⟩) hg).trans (hh k r hkr).1
      have hs : ((flatV (rs.take k)).length : Int) + (r.vs.length : Int) = ((flatV (rs.take (k + 1))).length : Int) := by rw [flatV_take hkr, List.length_append]; omega
      have hle := flatV_le hkr
      have hn := H.out.2.1
      obtain ⟨x, hx⟩ : ∃ x, x = (flatV (rs.take k)).length := ⟨_, rfl⟩
      obtain ⟨y, hy⟩ : ∃ y, y = (flatV (rs.take (k + 1))).length := ⟨_, rfl⟩
      obtain ⟨z, hz⟩ : ∃ z, z = r.vs.length := ⟨_, rfl⟩
      rw [← hx] at hle
      rw [← hx, ← hy, ← hz] at hs
      rw [← hz] at hle c0
      rw [← hx]
      have hw : IntKind.i64.wrap ((x : Int) + (z : Int)) = (y : Int) := by rw [hs, IntKind.wrap_i64]; omega
      have hnn : ¬ ((y : Int) < 0) := by omega
      have HR := Lib.hid (And.intro hb (And.intro hlt hy))
      clear hr hkr hg hh hb hlt hk hs hle hn hx hy hz
      go_wp2_with fail
      have e1 : (k : Int) + 1 = ((k + 1 : Nat) : Int) := by omega
      rw [e1]
      refine ⟨⟨k + 1, HR.out.2.1, by rw [HR.out.2.2], rfl, HR.out.1⟩, ?_⟩
      have h := HR.out.2.1
      show rs.length - (k + 1) < rs.length - k
      omega
    · have m1 : ¬ (k : Int) < (rs.length : Int) := by omega
      have hkk : k = rs.length := by omega
      subst hkk
      rw [List.take_length]
      obtain ⟨n, hnn⟩ : ∃ n, n = (flatV rs).length := ⟨_, rfl⟩
      have hgrow := grow_any wr n (by rw [hnn]; exact H.out.2.1)
      rw [← hnn]
      clear m1
      have HG := Lib.hid (And.intro hgrow hb)
      clear hgrow hb hlt hk hnn
      go_wp2_with fail
      refine HG.out.1.mono ?_
      rintro e w2 ⟨⟨v2, rfl, hown2⟩, hb2⟩
      have h2 : OwnVs w2 w.heap.size v2 [] := by
        unfold OwnVs
        obtain ⟨q1, q2⟩ := hown2
        refine ⟨q1, ?_⟩
        rcases q2 with q2 | ⟨g, cap, cur, q3, q4, q5⟩
        · exact .inl q2
        · exact .inr ⟨g, cap, cur, q3, Nat.le_trans HG.out.2.size q4, q5⟩
      have HO := Lib.hid (And.intro h2 (HG.out.2.trans (hb2.mono HG.out.2.size)))
      clear h2 hown2 hb2
      go_upto_region 11 with fail
      obtain ⟨i0, z0, hi0, hz0, hz1, hz2, hz3⟩ := info_parts info24
      have HI := Lib.hid (And.intro hi0 (And.intro hz0 (And.intro hz1 (And.intro hz2 hz3))))
      clear hi0 hz0 hz1 hz2 hz3
      go_loopw [6, 27] (fun s i W => ∃ k : Nat, k ≤ rs.length ∧ i = .int .i64 k ∧ OwnVs W w.heap.size s (flatV (rs.take k)) ∧ Below w.heap.size w W) (fun _ i _ => rs.length - (intOf i).toNat)
      case atStart => exact ⟨0, Nat.zero_le _, rfl, HO.out.1, HO.out.2⟩
      case round =>
        obtain ⟨k, hk, rfl, how, hb⟩ := hrel
        by_cases hlt : k < rs.length
        · have n1 : (k : Int) < (rs.length : Int) := by omega
          have n0 : (0 : Int) ≤ (k : Int) := by omega
          obtain ⟨g, off, rfl, hg, hh⟩ := H.out.1.2 (by omega)
          obtain ⟨r, hr⟩ : ∃ r, r = rs[k] := ⟨_, rfl⟩
          have hkr : rs[k]? = some r := by rw [hr, List.getElem?_eq_getElem hlt]
          have c0 := (hb.cell (p := ⟨g, off + k, none⟩) hg).trans (hh k r hkr).1
          have hrow := (hh k r hkr).2.below hb (Nat.le_refl _)
          have hle := flatV_le hkr
          have hn := H.out.2.1
          cases hpa : r.pa with
          | none =>
            have hv0 : r.vs = [] := by
              rcases Nat.eq_zero_or_pos r.vs.length with q | q
              · exact List.eq_nil_of_length_eq_zero q
              · obtain ⟨g', off', e', _⟩ := hrow.2 q
                rw [hpa] at e'; cases e'
            have hc0 := H.out.2.2 r (List.mem_of_getElem? hkr) hpa
            rw [hpa, hv0, hc0] at c0
            have how2 : OwnVs wr w.heap.size u6 (flatV (rs.take (k + 1))) := by rw [flatV_take hkr, hv0, List.append_nil]; exact how
            have HE := Lib.hid (And.intro how2 (And.intro hb (And.intro hlt how)))
            clear hr hkr hg hh hb hlt hk hle hn hrow hpa hv0 hc0 how how2
            go_wp2_with (at_builtin; go_must (refine wpList_append_own_none rfl _ _ 29 rfl w.heap.size 24 i0 2 Try.underlying29 HI.out.1 _ _ _ rfl HE.out.2.2.2 rfl ?_))
            have e1 : (k : Int) + 1 = ((k + 1 : Nat) : Int) := by omega
            rw [e1]
            refine ⟨⟨k + 1, HE.out.2.2.1, rfl, HE.out.1, HE.out.2.1⟩, ?_⟩
            have h := HE.out.2.2.1
            show rs.length - (k + 1) < rs.length - k
            omega
          | some ad =>
            rw [hpa] at c0
            have hsz : ∀ v, v ∈ r.vs → (vaC v).size = 2 := fun v _ => vaC_size v
            have hsrc : ∀ j u, (cellsF vaC r.vs)[j]? = some u → wr.cell? (ad.add j) = some u := fun j u hu => by
              have h0 : 0 < r.vs.length := by
                have := (List.getElem?_eq_some_iff.1 hu).1
                rw [cellsF_len vaC 2 r.vs hsz] at this
                omega
              obtain ⟨g', off', e', _, h3⟩ := hrow.2 h0
              rw [hpa] at e'
              cases e'
              exact cellsF_src vaC 2 (by decide) hsz (fun i a hi => (h3 i a hi).1) j u hu
            have HE := Lib.hid (And.intro hsrc (And.intro hb (And.intro hlt (And.intro how (And.intro hle (And.intro hkr hn))))))
            have hlen := cellsF_len vaC 2 r.vs hsz
            have hone := cellsF_one vaC r.vs fun v _ => vaC_one v
            have HF := Lib.hid (And.intro hlen hone)
            clear hr hkr hg hh hb hlt hk hle hn hrow hpa how hsrc hsz hlen hone
            go_wp2_with (at_builtin; go_must (refine wpList_append_own_at _ rfl _ _ 29 rfl w.heap.size 24 i0 z0 2 32 Try.underlying29 HI.out.1 HI.out.2.1 HI.out.2.2.1 HI.out.2.2.2.1 HI.out.2.2.2.2 (by decide) _ _ _ rfl HE.out.2.2.2.1 ad r.vs.length r.c (cellsF vaC r.vs) rfl HF.out.1 HE.out.1 HF.out.2 (by have h1 := HE.out.2.2.2.2.1; have h2 := HE.out.2.2.2.2.2.2; unfold maxLen; omega) (by have h1 := HE.out.2.2.2.2.1; have h2 := HE.out.2.2.2.2.2.2; omega) HE.out.2.1.size ?_; intro v' w1 hown hgrow _ hat))
            have e1 : (k : Int) + 1 = ((k + 1 : Nat) : Int) := by omega
            rw [e1]
            refine ⟨⟨k + 1, HE.out.2.2.1, rfl, ?_, HE.out.2.1.grown hgrow HE.out.2.1.size (fun j hj => (HE.out.2.2.2.1.lt j hj).1)⟩, ?_⟩
            · unfold OwnVs
              rw [flatV_take HE.out.2.2.2.2.2.1, cellsF_app, List.length_append]
              exact hown
            · have h := HE.out.2.2.1
              show rs.length - (k + 1) < rs.length - k
              omega
        · have n1 : ¬ (k : Int) < (rs.length : Int) := by omega
          have hkk : k = rs.length := by omega
          subst hkk
          rw [List.take_length] at how
          have HE := Lib.hid (And.intro how hb)
          clear how hb hlt hk
          go_wp2_with fail
          go_ret
          exact ⟨⟨_, rfl, HE.out.1⟩, HE.out.2⟩
end Go.Proofs.Ytjngghihciimjaa
