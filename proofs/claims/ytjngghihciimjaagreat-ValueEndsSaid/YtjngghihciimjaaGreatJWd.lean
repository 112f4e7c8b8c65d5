/-
  Sums of wide numbers, their order, and totals of totals: the law's walk.
-/
import Derived.Test.YtjngghihciimjaaGreatJPd
import Derived.Test.YtjngghihciimjaaGreatJRt
import Derived.Test.YtjngghihciimjaaGreatJRw
import Derived.Test.YtjngghihciimjaaGreatJWp
import Derived.Test.YtjngghihciimjaaGreatJRd
namespace Go.Proofs.YtjngghihciimjaaGreat
set_option maxRecDepth 100000
open Go.RowKit Go.Sort Go.Maps
def cntR (rs : List Tr) : Nat := (rs.map fun r => 1 + r.l.length).sum
theorem cntR_take {rs : List Tr} {k : Nat} {r : Tr} (h : rs[k]? = some r) : cntR (rs.take (k + 1)) = cntR (rs.take k) + (1 + r.l.length) := by
 unfold cntR
 rw [List.take_add_one, h, List.map_append, List.sum_append]
 simp
theorem cntR_cons (r : Tr) (rs : List Tr) : cntR (r :: rs) = 1 + r.l.length + cntR rs := by simp [cntR]
theorem cntR_len : ∀ rs : List Tr, rs.length ≤ cntR rs
  | [] => Nat.le_refl _
  | r :: rs => by
    have := cntR_len rs
    rw [cntR_cons, List.length_cons]
    omega
theorem cntR_mem : ∀ {rs : List Tr} {r : Tr}, r ∈ rs → r.l.length ≤ cntR rs
  | s :: rs, r, h => by
    rw [cntR_cons]
    rcases List.mem_cons.1 h with rfl | h
    · omega
    · have := cntR_mem h
      omega
theorem ctM_len : ∀ rs : List Tr, (ctM rs).length ≤ cntR rs
  | [] => Nat.le_refl _
  | r :: rs => by
    have h1 := ctM_len rs
    have h2 : (ctM (r :: rs)).length = r.l.length + (ctM rs).length := by simp [ctM, ctT]
    rw [cntR_cons, h2]
    omega
theorem ctM_same {rs xs : List Tr} (h : xs.map (·.l) = rs.map (·.l)) : ctM xs = ctM rs := by
 have e : ∀ l : List Tr, ctM l = (l.map (·.l)).flatMap ctT := fun l => by unfold ctM; rw [List.flatMap_map]
 rw [e, e, h]
theorem RowW.below {B : Nat} {w w' : World} {pa : Option Addr} {l : List (BitVec 128)} (h : RowW w pa l) (hb : Below B w w') (hB : w.heap.size ≤ B) : RowW w' pa l :=
 ⟨h.1, fun hp => by
  obtain ⟨g, off, h1, h2, h3⟩ := h.2 hp
  exact ⟨g, off, h1, Nat.lt_of_lt_of_le h2 hb.size, h3.below hb (Nat.lt_of_lt_of_le h2 hB)⟩⟩
theorem rowsRT_below {B : Nat} {w w' : World} {pa : Option Addr} {rs : List Tr} (h : RowRT w pa rs) (hb : Below B w w') (hB : w.heap.size ≤ B) : RowRT w' pa rs :=
 ⟨h.1, fun hp => by
  obtain ⟨g, off, h1, h2, h3⟩ := h.2 hp
  exact ⟨g, off, h1, Nat.lt_of_lt_of_le h2 hb.size, fun i r hr => ⟨(hb.cell (p := ⟨g, off + i, none⟩) (Nat.lt_of_lt_of_le h2 hB)).trans (h3 i r hr).1, (h3 i r hr).2.below hb hB⟩⟩⟩
structure HeldR (W : World) (pr : Option Addr) (rs : List Tr) (p4 : Option Addr) (xs : List Tr) (pw : Option Addr) (ws : List (BitVec 128)) : Prop where
 a : RowRT W pr rs
 b : RowW W pw ws
 c : LookR W rs xs p4
 d : RowRT W p4 xs
theorem HeldR.below {W U : World} {pr : Option Addr} {rs : List Tr} {p4 : Option Addr} {xs : List Tr} {pw : Option Addr} {ws : List (BitVec 128)} (h : HeldR W pr rs p4 xs pw ws) (hb : Below W.heap.size W U) : HeldR U pr rs p4 xs pw ws :=
 ⟨rowsRT_below h.a hb (Nat.le_refl _), h.b.below hb (Nat.le_refl _), h.c.below (Nat.le_refl _) hb, rowsRT_below h.d hb (Nat.le_refl _)⟩
theorem chB {W U V : World} (h1 : Below W.heap.size W U) (h2 : Below U.heap.size U V) : Below W.heap.size W V := h1.trans (h2.mono h1.size)
theorem RowRT.okT {w : World} {pa : Option Addr} {rs : List Tr} (h : RowRT w pa rs) : ∀ r, r ∈ rs → r.l.length ≤ maxLen ∧ ∀ a, a ∈ r.l → ToOk a := fun r hr => by
 obtain ⟨i, hi, e⟩ := List.getElem_of_mem hr
 obtain ⟨g, off, _, _, h3⟩ := h.2 (by omega)
 have := (h3 i r (by rw [List.getElem?_eq_getElem hi, e])).2
 exact ⟨this.1, this.2.1⟩
set_option maxHeartbeats 40000000 in
theorem widesLaw_any (w : World) (pr : Option Addr) (rs : List Tr) (cr : Nat) (pw : Option Addr) (ws : List (BitVec 128)) (cw : Nat) (n : Int)
  (hr : RowRT w pr rs) (hnil : ∀ r, r ∈ rs → r.pa = none → r.c = 0) (hlen : ∀ r, r ∈ rs → r.l.length ≤ 281474976710656) (hw : RowW w pw ws) (hnm : ∀ p, p ∈ ctM rs → p.1.1.length = 32 ∧ p.1.2.length ≤ 281474976710656) (f0 : -9223372036854775808 ≤ n) (f1 : n < 9223372036854775808) :
  Calls Tryz.prog 5 #[.slice pr rs.length cr, .slice pw ws.length cw, .int .i64 n] w fun e w' => e = .returned (.bool true) ∧ Below w.heap.size w w' := by
 obtain ⟨K, hK⟩ : ∃ K, K = rs.length := ⟨_, rfl⟩
 obtain ⟨J, hJ⟩ : ∃ J, J = ws.length := ⟨_, rfl⟩
 have hKi : (K : Int) ≤ 9223372036854775807 := by have := hr.1; unfold maxLen at this; omega
 have hJi : (J : Int) ≤ 9223372036854775807 := by have := hw.1; unfold maxLen at this; omega
 rw [← hK, ← hJ]
 have HC := Lib.hid (And.intro hK (And.intro hJ (And.intro hnil (And.intro hnm (And.intro f0 (And.intro f1 hlen))))))
 have H := Lib.hid (And.intro hr hw)
 clear hK hJ hnil hnm hlen f0 f1 hr hw
 go_enter Tryz.func5, Tryz.ntmps5
 go_wp2_with fail
 go_loopw [7, 8] (fun s i W => ∃ (k m : Nat), k ≤ K ∧ s = .int .i64 m ∧ i = .int .i64 k ∧ Below w.heap.size w W ∧ m = cntR (rs.take k) ∧ (m : Int) ≤ 281474976711000) (fun _ i _ => K - (intOf i).toNat)
 case atStart => exact ⟨0, 0, Nat.zero_le _, rfl, rfl, Below.refl _ _, rfl, by omega⟩
 case round =>
  obtain ⟨k, m, hk, rfl, rfl, hb, hcm, hm0⟩ := hrel
  by_cases hlt : k < K
  ·
   have m1 : (k : Int) < (K : Int) := by omega
   have m0 : (0 : Int) ≤ (k : Int) := by omega
   by_cases hm : m ≤ 200
   ·
    as_aux_lemma =>
    have hm1 : (m : Int) ≤ 200 := by omega
    obtain ⟨g, off, rfl, hg, hh⟩ := H.out.1.2 (by have := HC.out.1; omega)
    obtain ⟨r, hr⟩ : ∃ r, r = rs[k]'(by have := HC.out.1; omega) := ⟨_, rfl⟩
    have hkr : rs[k]? = some r := by rw [hr]; exact List.getElem?_eq_getElem _
    have c0 := (hb.cell (p := ⟨g, off + k, none⟩) hg).trans (hh k r hkr).1
    have hll := HC.out.2.2.2.2.2.2 r (List.mem_of_getElem? hkr)
    have hnx : cntR (rs.take (k + 1)) = m + (1 + r.l.length) := by rw [cntR_take hkr, hcm]
    have hbd : ((m + (1 + r.l.length) : Nat) : Int) ≤ 281474976711000 := by omega
    have hw1 : IntKind.i64.wrap ((m : Int) + 1) = (m : Int) + 1 := by rw [IntKind.wrap_i64]; omega
    have hw2 : IntKind.i64.wrap ((m : Int) + 1 + (r.l.length : Int)) = (m : Int) + 1 + (r.l.length : Int) := by rw [IntKind.wrap_i64]; omega
    have HR := Lib.hid (And.intro hb (And.intro hlt (And.intro hnx hbd)))
    clear hr hkr hg hh hb hlt hk hcm hm hll hnx hbd
    go_wp2_with fail
    have e1 : (k : Int) + 1 = ((k + 1 : Nat) : Int) := by omega
    have e2 : (m : Int) + 1 + (r.l.length : Int) = ((m + (1 + r.l.length) : Nat) : Int) := by omega
    rw [e1, e2]
    refine ⟨⟨k + 1, m + (1 + r.l.length), HR.out.2.1, rfl, rfl, HR.out.1, HR.out.2.2.1.symm, HR.out.2.2.2⟩, ?_⟩
    have h := HR.out.2.1
    show K - (k + 1) < K - k
    omega
   ·
    as_aux_lemma =>
    have hm1 : ¬ (m : Int) ≤ 200 := by omega
    have hm2 : (200 : Int) < (m : Int) := by omega
    have HB := Lib.hid hb
    clear hb hlt hk hcm hm
    go_wp2_with (go_at_call 8; refine (awake_any _).mono ?_; rintro e W3 ⟨rfl, hb3⟩)
    go_ret
    exact ⟨rfl, HB.out.trans (hb3.mono HB.out.size)⟩
  ·
   have m1 : ¬ (k : Int) < (K : Int) := by omega
   obtain rfl : k = K := by omega
   have hcm : m = cntR rs := by rw [hcm, List.take_of_length_le (by have := HC.out.1; omega)]
   by_cases hm : m ≤ 200 ∧ J ≤ 200
   ·
    obtain ⟨hm, hj⟩ := hm
    have hm1 : ¬ (200 : Int) < (m : Int) := by omega
    have hj1 : ¬ (200 : Int) < (J : Int) := by omega
    have HN := Lib.hid (And.intro hcm (And.intro hm hj))
    have H4 := Lib.hid hb
    clear hb hlt hk hcm hm hj hm0
    have hm2 := HC.out.1
    have h200 : ∀ r, r ∈ rs → r.l.length ≤ 200 := fun r hr => by
     have h1 := cntR_mem hr
     have h2 := HN.out.1
     have h3 := HN.out.2.1
     omega
    have hcs : (ctM rs).length ≤ 200 := by
     have h1 := ctM_len rs
     have h2 := HN.out.1
     have h3 := HN.out.2.1
     omega
    have hrs : rs.length ≤ 200 := by
     have h1 := cntR_len rs
     have h2 := HN.out.1
     have h3 := HN.out.2.1
     omega
    have HF := Lib.hid (And.intro h200 (And.intro hcs hrs))
    have hl4 := lentR_any wr pr rs cr (rowsRT_below H.out.1 H4.out (Nat.le_refl _)) (by omega) (fun r hr => Nat.le_trans (h200 r hr) (by decide)) HC.out.2.2.1
    rw [← HC.out.1] at hl4
    have HL := Lib.hid hl4
    clear hl4 h200 hcs hrs hm2
    go_wp2_with fail
    refine HL.out.mono ?_
    rintro e W4 ⟨⟨p4, c4, xs, rfl, hx⟩, hb4⟩
    have hlk := hx.look (fun r hr => (H.out.1.okT r hr).2)
    have hxl : xs.length = k := by rw [hlk.len, ← HC.out.1]
    have hrx := hlk.rows H.out.1.1 H.out.1.okT
    have hbw4 := H4.out.trans (hb4.mono H4.out.size)
    have HH : Hid (HeldR W4 pr rs p4 xs pw ws) := Lib.hid ⟨rowsRT_below H.out.1 hbw4 (Nat.le_refl _), H.out.2.below hbw4 (Nat.le_refl _), hlk, hrx⟩
    have HX := Lib.hid (And.intro (ctM_same hx.same) (And.intro hxl hbw4))
    rw [hxl]
    clear HL hx hb4 hlk hrx hbw4 hxl
    have hm4 := fun U (hU : Below W4.heap.size W4 U) => mergeR_any U p4 xs c4 (HH.out.below hU).d (by rw [HX.out.1]; have := HF.out.2.1; omega) (fun p hp => HC.out.2.2.2.1 p (by rw [HX.out.1] at hp; exact hp))
    rw [HX.out.2.1] at hm4
    have HL := Lib.hid hm4
    clear hm4
    go_wp2_with fail
    refine (HL.out _ (Below.refl _ _)).mono ?_
    rintro e W5 ⟨⟨pA, lA, cA, rfl, htA, hTA, hrmA⟩, hb5⟩
    rw [HX.out.1] at hTA
    have HA := Lib.hid (And.intro hTA (And.intro htA (And.intro hrmA hb5)))
    clear hTA htA hrmA hb5
    go_wp2_with fail
    refine (HL.out _ HA.out.2.2.2).mono ?_
    rintro e W6 ⟨⟨pB, lB, cB, rfl, htB, hTB, hrmB⟩, hb6⟩
    rw [HX.out.1] at hTB
    obtain rfl : lA = lB := ctT_inj (HA.out.1.eq hTB)
    have HB := Lib.hid (And.intro hrmB (And.intro hb6 (chB HA.out.2.2.2 hb6)))
    clear htB hTB hrmB hb6 HL
    have hpl := plusR_any W6 pw cw ws (HH.out.below HB.out.2.2).b
    rw [← HC.out.2.1] at hpl
    obtain ⟨sh, hsh⟩ : ∃ x, x = hiS (sumL ws) := ⟨_, rfl⟩
    obtain ⟨sl, hsl⟩ : ∃ x, x = loN (sumL ws) := ⟨_, rfl⟩
    have HW := Lib.hid (show wv (sumL ws) = .agg #[.int .i64 sh, .int .u64 sl] by rw [hsh, hsl]; rfl)
    rw [HW.out] at hpl
    have HL := Lib.hid hpl
    clear hpl hsh hsl
    go_wp2_with fail
    refine HL.out.mono ?_
    rintro e W7 ⟨rfl, hb7⟩
    have H7 := Lib.hid hb7
    clear hb7 HL
    go_upto_region 11 with fail
    have hb8 : Below W7.heap.size W7 (W7.alloc (.cells #[.int .i64 sh, .int .u64 sl] 48)) := (Below.refl _ _).alloc (Nat.le_refl _) _
    have hS : Lies (W7.alloc (.cells #[.int .i64 sh, .int .u64 sl] 48)) W7.heap.size #[.int .i64 sh, .int .u64 sl] 48 := Lies.new _ _ _
    generalize W7.alloc (.cells #[.int .i64 sh, .int .u64 sl] 48) = W8 at hb8 hS ⊢
    obtain ⟨bS, hbe⟩ : ∃ b, b = W7.heap.size := ⟨_, rfl⟩
    rw [← hbe] at hS ⊢
    clear hbe
    have H8 := Lib.hid (And.intro (chB H7.out hb8) (chB HB.out.2.2 (chB H7.out hb8)))
    clear hb8 H7
    obtain ⟨nh, hnh⟩ : ∃ x, x = hiS (wide n) := ⟨_, rfl⟩
    obtain ⟨nl, hnl⟩ : ∃ x, x = loN (wide n) := ⟨_, rfl⟩
    have hwn : wv (wide n) = .agg #[.int .i64 nh, .int .u64 nl] := by rw [hnh, hnl]; rfl
    obtain ⟨z, hz⟩ : ∃ z, z = cmpW (sumL ws) (wide n) := ⟨_, rfl⟩
    have k1 : ∀ U, Below W8.heap.size W8 U → Calls Tryz.prog 37 #[.slice pr k cr] U fun e w' => (∃ p c, e = .returned (.slice p lA.length c) ∧ RowT w' p lA) ∧ Below W8.heap.size W8 w' := fun U hU => by
     have h := rmerge_any U pr rs cr (HH.out.below (chB H8.out.2 hU)).a (by have := HF.out.2.1; omega) (fun p hp => ⟨(HC.out.2.2.2.1 p hp).1, Nat.le_trans (HC.out.2.2.2.1 p hp).2 (by decide)⟩)
     rw [← HC.out.1] at h
     refine h.mono fun e w' hh => ?_
     obtain ⟨p, l, c, h1, h2, h3, _, h5⟩ := hh
     obtain rfl : lA = l := ctT_inj (HA.out.1.eq h3)
     exact ⟨⟨p, c, h1, h2⟩, chB hU h5⟩
    have k2 : ∀ U p c, Below W8.heap.size W8 U → RowT U p lA → Calls Tryz.prog 28 #[.slice pA lA.length cA, .slice p lA.length c] U fun e w' => e = .returned (.bool true) ∧ Below W8.heap.size W8 w' := fun U p c hU hp =>
     (sameT_any U pA p lA lA cA c ((HA.out.2.1.below HB.out.2.1 (Nat.le_refl _)).below (chB H8.out.1 hU) (Nat.le_refl _)) hp).mono fun e w' hh => ⟨by rw [hh.1, decide_eq_true rfl], chB hU hh.2⟩
    have k3 : ∀ U, Below W8.heap.size W8 U → Calls Tryz.prog 38 #[.slice pw J cw] U fun e w' => e = .returned (.agg #[.int .i64 sh, .int .u64 sl]) ∧ Below W8.heap.size W8 w' := fun U hU => by
     have h := rplus_any U pw cw ws (HH.out.below (chB H8.out.2 hU)).b
     rw [← HC.out.2.1] at h
     exact h.mono fun e w' hh => ⟨by rw [hh.1, HW.out], chB hU hh.2⟩
    have k4 : ∀ U, Below W8.heap.size W8 U → Calls Tryz.prog 39 #[.int .i64 n] U fun e w' => e = .returned (.agg #[.int .i64 nh, .int .u64 nl]) ∧ Below W8.heap.size W8 w' := fun U hU =>
     (wide_any U n HC.out.2.2.2.2.1 HC.out.2.2.2.2.2.1).mono fun e w' hh => ⟨by rw [hh.1, hwn], chB hU hh.2⟩
    have k5 : ∀ U, Below W8.heap.size W8 U → Calls Tryz.prog 40 #[.int .i64 n] U fun e w' => e = .returned (.agg #[.int .i64 nh, .int .u64 nl]) ∧ Below W8.heap.size W8 w' := fun U hU =>
     (rwide_any U n HC.out.2.2.2.2.1 HC.out.2.2.2.2.2.1).mono fun e w' hh => ⟨by rw [hh.1, hwn], chB hU hh.2⟩
    have k6 : ∀ U, Below W8.heap.size W8 U → Calls Tryz.prog 41 #[.agg #[.int .i64 sh, .int .u64 sl], .agg #[.int .i64 nh, .int .u64 nl]] U fun e w' => e = .returned (.int .i64 z) ∧ Below W8.heap.size W8 w' := fun U hU => by
     rw [← HW.out, ← hwn]
     exact (cmp_any U (sumL ws) (wide n)).mono fun e w' hh => ⟨by rw [hh.1, hz], chB hU hh.2⟩
    have k7 : ∀ U, Below W8.heap.size W8 U → Calls Tryz.prog 42 #[.agg #[.int .i64 sh, .int .u64 sl], .agg #[.int .i64 nh, .int .u64 nl]] U fun e w' => e = .returned (.int .i64 z) ∧ Below W8.heap.size W8 w' := fun U hU => by
     rw [← HW.out, ← hwn]
     exact (rcmp_any U (sumL ws) (wide n)).mono fun e w' hh => ⟨by rw [hh.1, hz], chB hU hh.2⟩
    have K1 := Lib.hid k1
    have K2 := Lib.hid k2
    have K3 := Lib.hid k3
    have K4 := Lib.hid k4
    have K5 := Lib.hid k5
    have K6 := Lib.hid k6
    have K7 := Lib.hid k7
    have HS : Hid (∀ V, Below W8.heap.size W8 V → V.cell? ⟨bS, 0, none⟩ = some (.int .i64 sh) ∧ V.cell? ⟨bS, 1, none⟩ = some (.int .u64 sl)) := Lib.hid fun V hV => ⟨(hS.below hV hS.lt).cell 0 rfl, (hS.below hV hS.lt).cell 1 rfl⟩
    clear k1 k2 k3 k4 k5 k6 k7 hS hnh hnl hwn hz
    have hd0 : Below W8.heap.size W8 W8.drew := (Below.refl _ _).drew
    go_cut [76] from 111 (fun v wr2 => v = .bool false ∧ Below W8.heap.size W8 wr2)
    case first =>
     go_region_held3 (fun V => V.cell? ⟨bS, 0, none⟩ = some (.int .i64 sh) ∧ V.cell? ⟨bS, 1, none⟩ = some (.int .u64 sl)) (exact HS.out _ (by assumption)) (first
      | (with_reducible refine (K1.out _ (by assumption)).mono ?_; rintro e u1 ⟨⟨pR, cR, rfl, hR1⟩, hbu1⟩)
      | (with_reducible refine (K2.out _ _ _ (by assumption) (by assumption)).mono ?_; rintro e u2 ⟨rfl, hbu2⟩)
      | (with_reducible refine (K3.out _ (by assumption)).mono ?_; rintro e u3 ⟨rfl, hbu3⟩)
      | (with_reducible refine (K4.out _ (by assumption)).mono ?_; rintro e u4 ⟨rfl, hbu4⟩)
      | (with_reducible refine (K5.out _ (by assumption)).mono ?_; rintro e u5 ⟨rfl, hbu5⟩)
      | (with_reducible refine (K6.out _ (by assumption)).mono ?_; rintro e u6 ⟨rfl, hbu6⟩)
      | (with_reducible refine (K7.out _ (by assumption)).mono ?_; rintro e u7 ⟨rfl, hbu7⟩))
     all_goals
      go_wp2_with fail
      go_meet
      case rel => exact ⟨rfl, by assumption⟩
    case rest =>
     obtain ⟨rfl, hb9⟩ := hcut
     have H9 := Lib.hid hb9
     clear hb9 hd0 K1 K2 K3 K4 K5 K6 K7 HS
     have hkp := fun U (hU : Below W4.heap.size W4 U) => keptR_any U rs xs p4 c4 pr cr (HH.out.below hU).c (HH.out.below hU).a (Nat.le_trans HF.out.2.2 (by decide)) (fun r hr => Nat.le_trans (HF.out.1 r hr) (by decide))
     rw [← HC.out.1] at hkp
     have HKP := Lib.hid hkp
     clear hkp
     have m0 : (0 : Int) ≤ (k : Int) := by omega
     go_wp2_with fail
     go_loopw [13] (fun i W => ∃ j : Nat, j ≤ k ∧ i = .int .i64 j ∧ Below W8.heap.size W8 W) (fun i _ => k - (intOf i).toNat)
     case atStart => exact ⟨0, Nat.zero_le _, rfl, H9.out⟩
     case round =>
      obtain ⟨j, hj, rfl, hbj⟩ := hrel
      have m0j : (0 : Int) ≤ (j : Int) := by omega
      by_cases hlt : j < k
      ·
       as_aux_lemma =>
       have m2 : (j : Int) < (k : Int) := by omega
       have m2n : j < k := hlt
       have held := HH.out.below (chB H8.out.2 hbj)
       obtain ⟨r, hkr⟩ : ∃ r, rs[j]? = some r := ⟨rs[j]'(by have := HC.out.1; omega), List.getElem?_eq_getElem _⟩
       obtain ⟨gx, cx, hx1, hx2⟩ := held.c.each j r hkr
       obtain ⟨g1, e1, hg1, hrow⟩ := held.c.row (by have := HC.out.1; omega)
       obtain ⟨g2, off, e2, hg2, hrr⟩ := held.a.2 (by have := HC.out.1; omega)
       have c1 := hrow j _ hx1
       have c2 := (hrr j r hkr).1
       have rX := fun d os => cell_regrown c1 d os
       have rY := fun d os => cell_regrown c2 d os
       have hm := held.a.okT r (List.mem_of_getElem? hkr)
       obtain ⟨wb, hwb⟩ : ∃ b, b = wellT nzT r.l := ⟨_, rfl⟩
       have k1 := fun U (hU : Below wr.heap.size wr U) => totalsW_any U (some ⟨gx, 0, none⟩) r.l cx ((hx2.row hm.1 hm.2).below hU (Nat.le_refl _))
       have k2 := fun U (hU : Below wr.heap.size wr U) => rtotals_any U r.pa r.l r.c ((hrr j r hkr).2.below hU (Nat.le_refl _))
       simp only [← hwb] at k1 k2
       have K1 := Lib.hid k1
       have K2 := Lib.hid k2
       have HB := Lib.hid (And.intro hbj hlt)
       clear k1 k2 hwb hm hrr hrow hx1 hx2 hg1 hg2 held hkr hbj hlt hj c1 c2
       subst e1 e2
       go_upto_region 16 with fail
       refine wp_region_quiet_below (by kernel_rfl) (by kernel_rfl) ?_
       iterate 4 (first | go_big_quiet_step (fail) | quiet_step (fail))
       quiet_step ((go_at_call 43; with_reducible exact Calls.regrown_of (K1.out _ (below_regrown _ _ _))))
       iterate 4 (first | go_big_quiet_step (fail) | quiet_step (fail))
       quiet_step ((go_at_call 44; with_reducible exact Calls.regrown_of (K2.out _ (below_regrown _ _ _))))
       iterate 1 (first | go_big_quiet_step (fail) | quiet_step (fail))
       refine wpQuiet_nil ?_
       rintro w5 ⟨p9, hw5⟩
       have HB5 : Hid (Below W8.heap.size W8 w5) := Lib.hid (by rw [hw5]; exact chB HB.out.1 (below_regrown wr p9.d p9.os))
       clear hw5 K1 K2 rX rY
       go_wp2_with fail
       refine ⟨⟨j + 1, HB.out.2, by go_num, HB5.out⟩, ?_⟩
       have := HB.out.2
       simp [intOf]; omega
      ·
       as_aux_lemma =>
       obtain rfl : j = k := by omega
       have m2 : decide ((j : Int) < (j : Int)) = false := by simp
       have m2n : ¬ j < j := by omega
       have HE := Lib.hid hbj
       clear hbj hlt hj
       go_wp2_with fail
       refine (HKP.out _ (chB H8.out.2 HE.out)).mono ?_
       rintro e W10 ⟨rfl, hb10⟩
       have h10 := chB HE.out hb10
       have hbG : Below W10.heap.size W10 (W10.alloc (.cells #[.slice pA lA.length cA, .slice pB lA.length cB] 49)) := (Below.refl _ _).alloc (Nat.le_refl _) _
       have hLG : Lies (W10.alloc (.cells #[.slice pA lA.length cA, .slice pB lA.length cB] 49)) W10.heap.size #[.slice pA lA.length cA, .slice pB lA.length cB] 49 := Lies.new _ _ _
       have h6G := chB H8.out.1 (chB h10 hbG)
       have hlen : lA.length ≤ 100000 := by
        have h1 := tot_len (L := ctM rs) HA.out.1 (fun _ => rfl)
        have h2 := HF.out.2.1
        omega
       have hrows : RowsT (W10.alloc (.cells #[.slice pA lA.length cA, .slice pB lA.length cB] 49)) W4.heap.size [⟨pA, lA, cA⟩, ⟨pB, lA, cB⟩] := duoT (n := W5.heap.size) (HA.out.2.2.1.below (chB HB.out.2.1 h6G)) ((HB.out.1.below h6G).mono HA.out.2.2.2.size) hlen (fun a e => (room_lt HA.out.2.2.1 a e).2) (fun a e => (room_lt HB.out.1 a e).1)
       have hap := apartT_any _ W10.heap.size 2 W4.heap.size [⟨pA, lA, cA⟩, ⟨pB, lA, cB⟩] hLG.lt (fun k v hv => by
        have hk : k = 0 ∨ k = 1 := by have := (List.getElem?_eq_some_iff.1 hv).1; simp only [List.length_cons, List.length_nil] at this; omega
        rcases hk with rfl | rfl
        ·
         obtain rfl : (⟨pA, lA, cA⟩ : Tr) = v := by simpa using hv
         exact hLG.cell 0 rfl
        ·
         obtain rfl : (⟨pB, lA, cB⟩ : Tr) = v := by simpa using hv
         exact hLG.cell 1 rfl) hrows (show 0 < 2 by decide) (show 2 ≤ 1000 by decide) (chB HB.out.2.2 h6G).size
       have HG := Lib.hid (And.intro hap (chB HB.out.2.2 h6G))
       clear hap hbG hLG h6G hlen hrows h10 hb10
       go_wp2_with fail
       refine HG.out.1.mono ?_
       rintro e W11 ⟨rfl, hbT, _⟩
       have H11 := Lib.hid (HG.out.2.trans hbT)
       clear hbT HG
       go_wp2_with fail
       refine (HKP.out _ H11.out).mono ?_
       rintro e W12 ⟨rfl, hb12⟩
       have H12 := Lib.hid (chB HX.out.2.2 (chB H11.out hb12))
       clear hb12
       go_wp2_with (go_at_call 8; refine (awake_any _).mono ?_; rintro e W13 ⟨rfl, hb13⟩)
       go_ret
       exact ⟨rfl, chB H12.out hb13⟩
   ·
    as_aux_lemma =>
    have HB := Lib.hid hb
    by_cases hm1 : (200 : Int) < (m : Int)
    ·
     clear hb hlt hk hcm hm
     go_wp2_with (go_at_call 8; refine (awake_any _).mono ?_; rintro e W3 ⟨rfl, hb3⟩)
     go_ret
     exact ⟨rfl, HB.out.trans (hb3.mono HB.out.size)⟩
    ·
     have hj1 : (200 : Int) < (J : Int) := by omega
     clear hb hlt hk hcm hm
     go_wp2_with (go_at_call 8; refine (awake_any _).mono ?_; rintro e W3 ⟨rfl, hb3⟩)
     go_ret
     exact ⟨rfl, HB.out.trans (hb3.mono HB.out.size)⟩
end Go.Proofs.YtjngghihciimjaaGreat
