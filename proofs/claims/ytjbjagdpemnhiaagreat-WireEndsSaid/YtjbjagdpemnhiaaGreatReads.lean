/-
  WireReads: its walk.
-/
import Derived.Test.YtjbjagdpemnhiaaGreatTold
import Derived.Test.YtjbjagdpemnhiaaGreatRNew
import Derived.Test.YtjbjagdpemnhiaaGreatWrites
namespace Go.Proofs.YtjbjagdpemnhiaaGreat
open Go.RowKit

theorem RSt.grown {w w' : World} {g k : Nat} {xs : List UInt8} {c : Nat} {st : Option Nat} {o : Option Nat} (h : RSt w g k xs c st) (hg : w.grownBy w' o) (h1 : o ≠ some g) (h2 : xs ≠ [] → o ≠ some k) : RSt w' g k xs c st := by
  have hon := grown_only hg w.heap.size
  have key : ∀ a sp, Rdr w g k xs c a sp → Rdr w' g k xs c a sp := fun a sp h => by
    have hgl := h.1.lt
    refine ⟨hon.keep h.1 (by omega) h1, fun j hj => ?_, h.2.2.1, Nat.lt_of_lt_of_le h.2.2.2.1 hg.size, h.2.2.2.2⟩
    have hne : xs ≠ [] := fun e => by rw [e] at hj; simp at hj
    refine Eq.trans (World.cell?_of_block ?_) (h.2.1 j hj)
    exact hg.block k h.2.2.2.1 (fun e => h2 hne e.symm)
  cases st with
  | none => obtain ⟨a, h⟩ := h; exact ⟨a, key _ _ h⟩
  | some a => exact ⟨h.1, key _ _ h.2⟩
theorem RfR.other {w w' : World} {g B : Nat} {xs : List UInt8} {st : Option Nat} {g' : Nat} (h : RfR w g B xs st) (ho : Only g' w w' none) (h1 : g ≠ g') (h2 : B ≤ g') : RfR w' g B xs st := by
  cases st with
  | none => obtain ⟨A, n, c, h3⟩ := h; exact ⟨A, n, c, ho.lies h3 h1⟩
  | some a =>
    obtain ⟨ha, v, h3, h4, h5⟩ := h
    refine ⟨ha, v, ho.lies h3 h1, ?_, h5⟩
    rcases h4 with h4 | ⟨ad, c, e1, e2, e3, e4, e5⟩
    · exact .inl h4
    · exact .inr ⟨ad, c, e1, e2, e3, e4, e5.only ho (fun hne => by have := h5 ad _ c e1 hne; omega)⟩
/-- Both readers. -/
structure Both (w0 : World) (g gx k : Nat) (xs : List UInt8) (c : Nat) (st : Option Nat) (W : World) : Prop where
  r : RSt W g k xs c st
  x : RfR W gx w0.heap.size xs st
  b : Below w0.heap.size w0 W
  lg : w0.heap.size ≤ g
  lx : g < gx
  kx : k ≠ gx

theorem put_load {W : World} {g off k : Nat} {ps : List PutD} {p : PutD} (h : PRow W g off ps) (hp : ps[k]? = some p) : (loadCellsFrom ⟨g, off + k * 37, none⟩ 0 37 #[]).run Tryz.prog W = .ok p.cells W := by
  have hsz := PutD.size (h k p hp).1
  have := run_loadCells_list (P := Tryz.prog) W ⟨g, off + k * 37, none⟩ p.cells.toList (fun j v hv => by
    rw [Addr.add_mid]
    rw [Array.getElem?_toList] at hv
    exact h.cell hp hv)
  rw [Array.length_toList, hsz] at this
  simpa [loadCells] using this
attribute [-go_sem] loadCellsFrom
set_option maxRecDepth 1000000 in
set_option maxHeartbeats 4000000 in
theorem reads_any (w : World) (bv : Value) (xs : List UInt8) (va : Option Addr) (ps : List PutD) (cap : Nat) (hb : Bs w bv xs) (hxs : xs.length ≤ 140737488355328) (hc : ps.length ≤ cap) (hm : cap ≤ 140737488355328)
    (hrow : 0 < ps.length → ∃ g off, va = some ⟨g, off, none⟩ ∧ g < w.heap.size ∧ PRow w g off ps) :
    Calls Tryz.prog 5 #[bv, .slice va ps.length cap] w fun e w' => e = .returned (.bool true) ∧ Below w.heap.size w w' := by
  obtain ⟨A, cb, rfl⟩ := hb.form
  have hgr := great_any w va ps cap A xs.length cb hc hm hxs hrow
  have HG := Lib.hid hgr
  have HROW := Lib.hid hrow
  have HBS := Lib.hid hb
  have HXS := Lib.hid hxs
  clear hgr hrow hb hxs
  go_enter Tryz.func5, Tryz.ntmps5
  go_wp2_with fail
  refine HG.out.mono ?_
  rintro e w' ⟨rfl, r, rfl, hr⟩
  clear HG
  cases r
  case true =>
    clear hr
    go_wp2_with fail
    refine (awake_any w).mono ?_
    rintro e w1 ⟨rfl, hb1⟩
    go_wp2_with fail
    go_ret
    exact ⟨rfl, hb1⟩
  case false =>
    obtain ⟨hsum, _⟩ := hr rfl
    have hx300 : xs.length ≤ 300 := by omega
    have HS := Lib.hid (And.intro hsum hx300)
    clear hsum hr hx300
    have hba : Below w.heap.size w (w.alloc (.cells #[] 5)) := (Below.refl _ _).alloc (Nat.le_refl _) _
    have he : (w.alloc (.cells #[] 5)).ownsRow w.heap.size 5 1 (.slice (some ⟨w.heap.size, 0, none⟩) 0 0) 0 [] := World.ownsRow_made w #[] 0 (Nat.le_refl _) (Nat.zero_le _) rfl
    have HE := Lib.hid (And.intro he (And.intro (HBS.out.below hba).raw hba))
    clear he hba
    go_upto_region 4 with (at_builtin; go_must (refine wpList_append_in rfl _ _ rfl w.heap.size (.slice (some ⟨w.heap.size, 0, none⟩) 0 0) _ [] xs rfl HE.out.1 rfl HE.out.2.1 (by have := HS.out.2; simp; omega) (by simp) ?_; intro u W2 hown hgrow hat; rw [List.nil_append] at hown; obtain ⟨A', cc, rfl⟩ := own_slice hown))
    have hb2 : Below w.heap.size w W2 := HE.out.2.2.grown hgrow (by have := HE.out.2.2.size; exact this) (fun x e => by have e2 : w.heap.size = x := Option.some.inj e; omega)
    have hlt2 : w.heap.size < W2.heap.size := by have := hgrow.size; simp at this; omega
    have HN := Lib.hid (newreader_in W2 _ xs (raw_of_own hown) (by have := HS.out.2; omega) (by omega))
    have hub : ∀ x, (Value.slice A' xs.length cc).ownBlock = some x → w.heap.size ≤ x ∧ x < W2.heap.size := fun x hx => own_block hown x hx
    have HW2 := Lib.hid (And.intro hb2 (And.intro hown hub))
    clear hb2 hown hgrow hat hub HE
    go_wp2_with fail
    refine HN.out.mono ?_
    rintro e w3 ⟨g, k, c, rfl, hg3, hk3, hr3, hb3⟩
    have H3 := Lib.hid (And.intro hg3 (And.intro hk3 (And.intro hr3 hb3)))
    have hgl3 := hr3.1.lt
    have hkl3 := hr3.2.2.2.1
    clear hg3 hk3 hr3 hb3 HN
    go_upto_region 5 with fail
    obtain ⟨gx, hgx⟩ : ∃ gx, gx = w3.heap.size := ⟨_, rfl⟩
    have hb4 : Below w3.heap.size w3 (w3.alloc (.cells #[.slice A xs.length cb, .bool false] 47)) := (Below.refl _ _).alloc (Nat.le_refl _) _
    have hl4 : Lies (w3.alloc (.cells #[.slice A xs.length cb, .bool false] 47)) gx #[.slice A xs.length cb, .bool false] 47 := by rw [hgx]; exact Lies.new _ _ _
    have H4 := Lib.hid (And.intro hb4 hl4)
    clear hb4 hl4
    generalize w3.alloc (.cells #[.slice A xs.length cb, .bool false] 47) = w4 at H4 ⊢
    rw [← hgx] at H4 ⊢
    have hw34 := H4.out.2.lt
    have hggx : g < gx := by omega
    have hkgx : k < gx := by omega
    have hgx3 : w3.heap.size ≤ gx := by omega
    have hown4 : w4.ownsRow w.heap.size 5 1 (.slice A' xs.length cc) xs.length (B8 xs).toList := own_kept (own_kept HW2.out.2.1 (grown_below H3.out.2.2.2 none) (fun _ _ => by simp)) (grown_below (by have := H4.out.1; rwa [hgx] at this) none) (fun _ _ => by simp)
    have hb34 : Below w3.heap.size w3 w4 := by have := H4.out.1; rwa [hgx] at this
    have hbw4 : Below w.heap.size w w4 := (HW2.out.1.trans (H3.out.2.2.2.mono HW2.out.1.size)).trans (hb34.mono (Nat.le_trans HW2.out.1.size H3.out.2.2.2.size))
    have H5 := Lib.hid (And.intro hown4 (And.intro hb34 hbw4))
    have HGX := Lib.hid (And.intro hggx (And.intro hkgx hgx3))
    clear hown4 hb34 hbw4 hgx hggx hkgx hgx3
    go_wp2_with fail
    go_loopw [8] (fun i W => ∃ m : Nat, m ≤ xs.length ∧ i = .int .i64 m ∧ Inner w4 (.slice A' xs.length cc) xs m W) (fun i _ => xs.length - (intOf i).toNat)
    case atStart => exact ⟨0, Nat.zero_le _, rfl, Inner.start H5.out.1⟩
    case round =>
      obtain ⟨m, hmx, rfl, hin⟩ := hrel
      have hbel6 : Below w.heap.size w wr := H5.out.2.2.grown hin.grown H5.out.2.2.size (fun x hx => (HW2.out.2.2 x hx).1)
      have HIN := Lib.hid hin
      have HB6 := Lib.hid hbel6
      by_cases hlm : m < xs.length
      · have hbs := HBS.out.below hbel6
        obtain ⟨b, o, c', hA, hsrc⟩ := hbs.cell (by omega)
        cases hA
        rcases H5.out.1.2 with ⟨_, h0⟩ | ⟨g7, cap7, cur7, hU, _⟩
        · omega
        · cases hU
          obtain ⟨cur, hlc, hcur⟩ := hin.row g7 cc rfl
          have hf7 := hlc.free m
          have hc7 := hlc.cell m (hcur m (Nat.le_refl _) hlm)
          have hsm := hsrc m hlm
          clear hbs hsrc hlc hcur hin hbel6
          generalize xs.getD m 0 = x at hsm hc7
          have i2 : (m : Int) < (xs.length : Int) := by omega
          have i3 : decide (xs.length ≤ m) = false := by simp; omega
          have i4 : (0 : Int) ≤ (m : Int) := by omega
          have i7 : (m : Int) ≤ 300 := by have := HS.out.2; omega
          go_upto_region 8 with fail
          go_quiet (fail)
          go_wp2_with fail
          refine ⟨⟨m + 1, by omega, by go_num, HIN.out.next _ _⟩, ?_⟩
          simp [intOf]; omega
      · obtain rfl : m = xs.length := by omega
        have hboth : Both w g gx k xs c (some 0) wr := by
          have hr4 : RSt w4 g k xs c (some 0) := RSt.below (w := w3) ⟨Nat.zero_le _, H3.out.2.2.1⟩ H5.out.2.1
          refine ⟨hr4.grown hin.grown (fun e => by have := (HW2.out.2.2 _ e).2; have := H3.out.1; omega) (fun hne e => by
            have h1 := (HW2.out.2.2 _ e).2
            rcases H3.out.2.1 with h2 | h2
            · omega
            · exact hne h2), ⟨Nat.zero_le _, .slice A xs.length cb, ?_, ?_, ?_⟩, hbel6, Nat.le_trans HW2.out.1.size H3.out.1, HGX.out.1, by have := HGX.out.2.1; omega⟩
          · refine (grown_only hin.grown w4.heap.size).keep H4.out.2 (by have := H4.out.2.lt; omega) (fun e => ?_)
            have := (HW2.out.2.2 _ e).2
            have := H3.out.2.2.2.size
            have := HGX.out.2.2
            omega
          · rw [List.drop_zero]; exact HBS.out.below hbel6
          · intro ad n c2 e hne
            rw [List.drop_zero] at hne
            rcases HBS.out with ⟨h1, h2⟩ | ⟨ad2, c3, h1, _, _, _, h5⟩
            · exact absurd h2 hne
            · cases h1
              cases e
              exact ⟨h5.lt (List.length_pos_iff.2 hne), by have := HGX.out.2.2; have := HW2.out.1.size; have := H3.out.2.2.2.size; omega⟩
        have HBO := Lib.hid hboth
        clear hboth hin hbel6 HIN HB6 H5 H4 H3 HW2
        go_wp2_with fail
        go_loopw [9] (fun i W => ∃ j : Nat, j ≤ ps.length ∧ i = .int .i64 j ∧ ∃ st, Both w g gx k xs c st W) (fun i _ => ps.length - (intOf i).toNat)
        case atStart => exact ⟨0, Nat.zero_le _, rfl, _, HBO.out⟩
        case round =>
          obtain ⟨j, hj, rfl, st, hbo⟩ := hrel
          have HB := Lib.hid hbo
          by_cases hlt : j < ps.length
          · obtain ⟨g0, off, rfl, hg0, hr0⟩ := HROW.out (by omega)
            obtain ⟨p, hp⟩ : ∃ p, ps[j]? = some p := ⟨_, List.getElem?_eq_getElem hlt⟩
            have hok := (hr0 j p hp).1
            have hlen := HS.out.2
            obtain ⟨T, hT⟩ : ∃ T, fin (askT xs st p.n0 p.n1) xs (askS xs st p.n0 p.n1) = T := ⟨_, rfl⟩
            have hneq := fun w => told_neq xs st p.n0 p.n1 w
            rw [hT] at hneq
            have hbd : Below wr.heap.size wr wr.drew := ⟨rfl, rfl, rfl, Nat.le_refl _, fun _ _ => rfl⟩
            have htl := tells_st wr.drew g k xs c st p.cells p.n0 p.n1 p.n2 p.hs p.bv p.s (PutD.v hok) (hbo.r.below hbd)
            rw [hT] at htl
            have hwt : ∀ V, RfR V gx w.heap.size xs st → Calls Tryz.prog 15 #[.pointer (some ⟨gx, 0, none⟩), .agg p.cells] V fun e w' => e = .returned (.agg T) ∧ RfR w' gx w.heap.size xs (askS xs st p.n0 p.n1) ∧ Only gx V w' none := by
              intro V hV
              have := wants_st V gx xs st (by omega) p.cells p.n0 p.n1 p.n2 p.hs p.bv p.s (PutD.v hok) hV
              rwa [hT] at this
            have hS : ∀ W, Below w.heap.size w W → (Below w.heap.size w W ∧ (loadCellsFrom ⟨g0, off + j * 37, none⟩ 0 37 #[]).run Tryz.prog W = .ok p.cells W) := fun W hb => ⟨hb, put_load (hr0.below (Nat.le_refl _) hb) hp⟩
            have HTL := Lib.hid htl
            have HWT := Lib.hid hwt
            have HSS := Lib.hid hS
            have hS0 := hS _ (hbo.b.trans (hbd.mono hbo.b.size))
            have HS0 := Lib.hid hS0
            have HBD := Lib.hid hbd
            clear htl hwt hS hbd hbo hok hp hT hlen
            have i2 : (j : Int) < (ps.length : Int) := by omega
            have i3 : decide (ps.length ≤ j) = false := by simp; omega
            have i4 : (0 : Int) ≤ (j : Int) := by omega
            have g1 := hS0.2
            clear hS0
            go_upto_region 14 with fail
            go_region_held3 (fun W => Below w.heap.size w W ∧ (loadCellsFrom ⟨g0, off + j * 37, none⟩ 0 37 #[]).run Tryz.prog W = .ok p.cells W) (first | exact HS0.out | exact HSS.out _ (by assumption)) (first
              | (with_reducible refine HTL.out.mono ?_; rintro e w3 ⟨rfl, hr3, ho3⟩; have hb3 : Below w.heap.size w w3 := (only_below HBD.out |>.trans0 ho3).below HB.out.b HB.out.lg (by simp); have hx3 := (HB.out.x.below HBD.out).other ho3 (by have := HB.out.lx; omega) HB.out.lg)
              | (with_reducible refine (HWT.out _ hx3).mono ?_; rintro e w4 ⟨rfl, hx4, ho4⟩; have hb4 : Below w.heap.size w w4 := ho4.below hb3 (by have := HB.out.lx; have := HB.out.lg; omega) (by simp)))
            have hfin : Both w g gx k xs c (askS xs st p.n0 p.n1) w4 := ⟨hr3.only ho4 (by have := HB.out.lx; omega) HB.out.kx, hx4, hb4, HB.out.lg, HB.out.lx, HB.out.kx⟩
            have HF := Lib.hid hfin
            clear hfin hr3 ho3 hb3 hx3 hx4 ho4 hb4
            go_wp2_with fail
            refine ⟨⟨j + 1, by omega, by go_num, _, HF.out⟩, ?_⟩
            simp [intOf]; omega
          · have hjl : j = ps.length := by omega
            subst hjl
            have hbb := hbo.b
            clear hbo HB
            go_wp2_with fail
            refine (awake_any wr).mono ?_
            rintro e w1 ⟨rfl, hb1⟩
            go_wp2_with fail
            go_ret
            exact ⟨rfl, hbb.trans (hb1.mono hbb.size)⟩
end Go.Proofs.YtjbjagdpemnhiaaGreat
