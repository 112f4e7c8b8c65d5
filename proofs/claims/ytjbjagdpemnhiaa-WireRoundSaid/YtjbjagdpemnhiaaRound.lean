/-
  WireRound: its walk.
-/
import Derived.Test.YtjbjagdpemnhiaaMet
import Derived.Test.YtjbjagdpemnhiaaReads
import Derived.Test.YtjbjagdpemnhiaaByt2
namespace Go.Proofs.Ytjbjagdpemnhiaa
open Go.RowKit

theorem RawIn.take {w : World} {ad : Addr} {c m : Nat} {l : List UInt8} (h : RawIn w (.slice (some ad) l.length c) l) (hm : m ≤ l.length) : RawIn w (.slice (some ad) m c) (l.take m) := by
  rcases h with ⟨h, _⟩ | ⟨ad', c', e, hs⟩
  · cases h
  · cases e
    refine .inr ⟨ad, c, by rw [List.length_take, Nat.min_eq_left hm], fun j u hj => hs j u ?_⟩
    have hjl := (List.getElem?_eq_some_iff.1 hj).1
    simp [B8] at hjl
    simp only [B8, List.map_take] at hj ⊢
    rw [List.getElem?_take_of_lt (by omega)] at hj
    exact hj
theorem raw_one (W : World) : RawIn (W.alloc (.cells #[.int .u8 0] 5)) (.slice (some ⟨W.heap.size, 0, none⟩) 1 1) [0] := by
  refine .inr ⟨⟨W.heap.size, 0, none⟩, 1, rfl, fun j u hj => ?_⟩
  rw [Addr.add_mid]
  have hjl := (List.getElem?_eq_some_iff.1 hj).1
  simp [B8] at hjl
  subst hjl
  simp [B8] at hj
  subst hj
  exact (Lies.new W #[.int .u8 0] 5).cell 0 rfl
attribute [-go_sem] loadCellsFrom
set_option maxRecDepth 1000000 in
set_option maxHeartbeats 4000000 in
theorem round_any (w : World) (va : Option Addr) (ps : List PutD) (cap : Nat) (n : Int) (hc : ps.length ≤ cap) (hm : cap ≤ 140737488355328)
    (hrow : 0 < ps.length → ∃ g off, va = some ⟨g, off, none⟩ ∧ g < w.heap.size ∧ PRow w g off ps) :
    Calls Try.prog 6 #[.slice va ps.length cap, .int .i64 n] w fun e w' => e = .returned (.bool true) ∧ Below w.heap.size w w' := by
  have HROW0 := Lib.hid hrow
  clear hrow
  go_enter Try.func6, Try.ntmps6
  go_wp2_with fail
  refine (awake_any w).mono ?_
  rintro e w1 ⟨rfl, hb1⟩
  have hrow1 : 0 < ps.length → ∃ g off, va = some ⟨g, off, none⟩ ∧ g < w1.heap.size ∧ PRow w1 g off ps := fun h => by
    obtain ⟨g, off, h1, h2, h3⟩ := HROW0.out h
    exact ⟨g, off, h1, Nat.lt_of_lt_of_le h2 hb1.size, h3.below (Nat.le_refl _) hb1⟩
  have HG := Lib.hid (great_any w1 va ps cap none 0 0 hc hm (Nat.zero_le _) hrow1)
  have HROW := Lib.hid hrow1
  have HB1 := Lib.hid hb1
  clear hrow1 hb1
  go_wp2_with fail
  refine HG.out.mono ?_
  rintro e w' ⟨rfl, r, rfl, hr⟩
  clear HG
  cases r
  case true =>
    clear hr
    go_wp2_with fail
    go_ret
    exact ⟨rfl, HB1.out⟩
  case false =>
    obtain ⟨hsum, hsmall⟩ := hr rfl
    have HS := Lib.hid (And.intro hsum hsmall)
    clear hsum hsmall hr
    go_wp2_with fail
    refine (newwriter_any w1).mono ?_
    rintro e w2 ⟨rfl, hw2, hb2⟩
    obtain ⟨v1, hw2⟩ := hw2.wrv
    have H2 := Lib.hid (And.intro hw2 hb2)
    clear hw2 hb2
    go_wp2_with fail
    go_loopw [6] (fun i wr => ∃ k : Nat, k ≤ ps.length ∧ i = .int .i64 k ∧ ∃ v, WSt wr w1.heap.size w1.heap.size v (encs ps k) ∧ (∀ x, v.ownBlock = some x → w1.heap.size ≤ x) ∧ Below w1.heap.size w1 wr ∧ Fits ps k (encs ps k)) (fun i _ => ps.length - (intOf i).toNat)
    case atStart => exact ⟨0, Nat.zero_le _, rfl, v1, H2.out.1, fun x hx => (own_block H2.out.1.2.1 x hx).1, H2.out.2, fun l e => by cases e; simp⟩
    case round =>
      obtain ⟨k, hk, rfl, v, hst, hown, hbel, hfit⟩ := hrel
      have H0 := Lib.hid (And.intro hst (And.intro hown (And.intro hbel hfit)))
      clear hst hown hbel hfit H2
      by_cases hlt : k < ps.length
      · obtain ⟨g, off, rfl, hg, hr0⟩ := HROW.out (by omega)
        have hr := hr0.below (Nat.le_refl _) H0.out.2.2.1
        obtain ⟨p, hp⟩ : ∃ p, ps[k]? = some p := ⟨_, List.getElem?_eq_getElem hlt⟩
        have hok := (hr k p hp).1
        have c36 := hr.cell hp (PutD.v hok).text
        have hsm := HS.out.2 k p hp
        have hsl := hok.slen
        unfold maxLen at hsl
        have HR := Lib.hid hr
        have HP := Lib.hid hp
        have HOK := Lib.hid hok
        have HSM := Lib.hid hsm
        clear hr hp hok hsm hr0
        by_cases hbig : 300 < p.s.size
        · have i1 : decide ((300 : Int) < (p.s.size : Int)) = true := by simp; omega
          clear hbig
          go_wp2_with fail
          go_ret
          exact ⟨rfl, HB1.out.trans (H0.out.2.2.1.mono HB1.out.size)⟩
        · have i1 : decide ((300 : Int) < (p.s.size : Int)) = false := by simp; omega
          clear hbig
          have hput := put_st wr w1.heap.size w1.heap.size v (encs ps k) p.cells p.n0 p.n1 p.n2 p.hs p.xs p.bv p.s (PutD.v HOK.out) HOK.out.raw H0.out.1 H0.out.2.2.1.size (fun l e => by
            have h1 := H0.out.2.2.2 l e
            have h2 := sumB_mono ps (show k ≤ ps.length by omega)
            have h3 := HS.out.1
            have h4 := sumB_succ HP.out
            have h5 := sumB_mono ps (show k + 1 ≤ ps.length by omega)
            omega)
          rw [← encs_succ HP.out] at hput
          have HPUT := Lib.hid hput
          clear hput
          go_wp2_with (refine wpList_load_put rfl _ rfl g off k ps p HR.out HP.out rfl ?_)
          refine HPUT.out.mono ?_
          rintro e W4 ⟨rfl, v4, hst4, ho4, hv4⟩
          have hbel4 : Below w1.heap.size w1 W4 := ho4.below H0.out.2.2.1 (Nat.le_refl _) H0.out.2.1
          have hown4 : ∀ x, v4.ownBlock = some x → w1.heap.size ≤ x := fun x hx => by
            rcases hv4 with h | ⟨k', h1, h2, _⟩
            · exact H0.out.2.1 x (h ▸ hx)
            · have := H0.out.2.2.1.size
              have : k' = x := by rw [h1] at hx; exact Option.some.inj hx
              omega
          have hfit4 : Fits ps (k + 1) (encs ps (k + 1)) := by
            have h1 := step_len (encs ps k) p wr HOK.out HSM.out (400 * k + sumB ps k) H0.out.2.2.2
            rw [← encs_succ HP.out] at h1
            intro l e
            have := h1 l e
            rw [sumB_succ HP.out]
            omega
          have H4 := Lib.hid (And.intro hst4 (And.intro hown4 (And.intro hbel4 hfit4)))
          clear hst4 hown4 hbel4 hfit4 ho4 hv4 HPUT
          go_wp2_with fail
          refine ⟨⟨k + 1, by omega, by go_num, v4, H4.out⟩, ?_⟩
          simp [intOf]; omega
      · obtain rfl : k = ps.length := by omega
        cases hst : encs ps ps.length with
        | none =>
          have hH := H0.out.1
          rw [hst] at hH
          go_wp2_with fail
          refine (wbytes_spoilt wr w1.heap.size w1.heap.size v hH).mono ?_
          rintro e w5 ⟨rfl, rfl⟩
          go_wp2_with fail
          go_ret
          exact ⟨rfl, HB1.out.trans (H0.out.2.2.1.mono HB1.out.size)⟩
        | some l =>
          have hlen : l.length ≤ 200000 := by
            have h1 := H0.out.2.2.2 l hst
            have := HS.out.1
            omega
          have hH := H0.out.1
          rw [hst] at hH
          have HW := Lib.hid (wbytes_good wr w1.heap.size w1.heap.size v l hH (by omega))
          have HL := Lib.hid (And.intro hst hlen)
          clear hH hst hlen
          go_wp2_with fail
          refine HW.out.mono ?_
          rintro e w5 ⟨u, rfl, hown, hb5⟩
          obtain ⟨A', cc, rfl⟩ := own_slice hown
          have hb15 : Below w1.heap.size w1 w5 := H0.out.2.2.1.trans (hb5.mono H0.out.2.2.1.size)
          have HN := Lib.hid (newreader_in w5 _ l (raw_of_own hown) (by have := HL.out.2; omega) (by have := (hb5.size); have := H0.out.1.lies; omega))
          obtain ⟨B5, hown⟩ : ∃ B5, w5.ownsRow B5 5 1 (.slice A' l.length cc) l.length (B8 l).toList := ⟨_, hown⟩
          have H5 := Lib.hid (And.intro hown hb15)
          clear hown hb5 hb15 HW
          go_wp2_with fail
          refine HN.out.mono ?_
          rintro e w6 ⟨g, k, c, rfl, hg6, hk6, hr6, hb6⟩
          have H6 := Lib.hid (And.intro hg6 (And.intro hr6 hb6))
          clear hg6 hk6 hr6 hb6 HN
          go_wp2_with fail
          go_loopw [10] (fun i W => ∃ j : Nat, j ≤ ps.length ∧ i = .int .i64 j ∧ RSt W g k l c (some (pl ps j)) ∧ Below w5.heap.size w5 W) (fun i _ => ps.length - (intOf i).toNat)
          case atStart => exact ⟨0, Nat.zero_le _, rfl, ⟨Nat.zero_le _, H6.out.2.1⟩, H6.out.2.2⟩
          case round =>
            obtain ⟨j, hj, rfl, hst, hbel⟩ := hrel
            have H7 := Lib.hid (And.intro hst hbel)
            clear hst hbel
            by_cases hlt : j < ps.length
            · obtain ⟨g0, off, rfl, hg0, hr0⟩ := HROW.out (by omega)
              have hrV : ∀ V, Below w5.heap.size w5 V → PRow V g0 off ps := fun V hV => hr0.below (Nat.le_refl _) (H5.out.2.trans (hV.mono H5.out.2.size))
              obtain ⟨p, hp⟩ : ∃ p, ps[j]? = some p := ⟨_, List.getElem?_eq_getElem hlt⟩
              have hrW := hrV _ H7.out.2
              have hok := (hrW j p hp).1
              have hask := ask_any _ g k l c _ p hok (fun V hV => (hrV V (hV.below H7.out.2 H6.out.1 (by simp)) j p hp).1.raw) H7.out.1
              have hmet := place_met [] _ hok HL.out.1 hlt hp
              rw [List.append_nil] at hmet
              rw [hmet.2] at hask
              have hq := hmet.1
              have HA := Lib.hid (And.intro hask hq)
              have HR := Lib.hid hrW
              have HP := Lib.hid hp
              clear hask hq hmet hrW hok hrV hr0 hp
              go_wp2_with (refine wpList_load_put rfl _ rfl g0 off j ps p HR.out HP.out rfl ?_)
              refine HA.out.1.mono ?_
              rintro e W8 ⟨⟨r, rfl, hr⟩, hst8, ho8⟩
              have hrt := hr HA.out.2
              subst hrt
              have hbel8 : Below w5.heap.size w5 W8 := ho8.below H7.out.2 H6.out.1 (by simp)
              have H8 := Lib.hid (And.intro hst8 hbel8)
              clear hst8 hbel8 ho8 hr HA
              go_wp2_with fail
              refine ⟨⟨j + 1, by omega, by go_num, H8.out⟩, ?_⟩
              simp [intOf]; omega
            · obtain rfl : j = ps.length := by omega
              have hend := end_rst _ g k l c _ H7.out.1
              rw [end_whole HL.out.1] at hend
              have HE := Lib.hid hend
              clear hend
              go_wp2_with fail
              refine HE.out.mono ?_
              rintro e W8 ⟨rfl, hb8⟩
              have hst8 := H7.out.1.below hb8
              have hb58 : Below w5.heap.size w5 W8 := H7.out.2.trans (hb8.mono H7.out.2.size)
              have H8 := Lib.hid (And.intro hst8 hb58)
              clear hst8 hb58 hb8 HE
              by_cases hl0 : l.length = 0
              · have hend := end_rst _ g k l c _ H8.out.1
                rw [end_whole HL.out.1] at hend
                have HE := Lib.hid hend
                clear hend
                have i1 : ((l.length : Int) == 0) = true := by simp [hl0]
                go_wp2_with fail
                refine HE.out.mono ?_
                rintro e W9 ⟨rfl, hb9⟩
                go_wp2_with fail
                go_ret
                exact ⟨rfl, (HB1.out.trans (H5.out.2.mono HB1.out.size)).trans ((H8.out.2.trans (hb9.mono H8.out.2.size)).mono (Nat.le_trans HB1.out.size H5.out.2.size))⟩
              · have i1 : ((l.length : Int) == 0) = false := by rw [beq_eq_false_iff_ne]; omega
                have hpk := pick_mod n (l.length : Nat) (by omega) (by have := HL.out.2; omega)
                obtain ⟨mk, hmk⟩ : ∃ mk : Nat, n % (l.length : Int) = (mk : Int) := ⟨(n % (l.length : Int)).toNat, by have := Int.emod_nonneg n (show (l.length : Int) ≠ 0 by omega); omega⟩
                have hmkl : mk < l.length := by have := Int.emod_lt_of_pos n (show (0 : Int) < (l.length : Int) by omega); omega
                rw [hmk] at hpk
                have HPK := Lib.hid hpk
                have HMK := Lib.hid (And.intro hl0 hmkl)
                clear hpk hmk hl0
                have hown8 : W8.ownsRow B5 5 1 (.slice A' l.length cc) l.length (B8 l).toList := own_kept H5.out.1 (grown_below H8.out.2 none) (fun _ _ => by simp)
                rcases H5.out.1.2 with ⟨_, h0⟩ | ⟨g7, cap7, cur7, hU, _⟩
                · exact absurd h0 HMK.out.1
                · cases hU
                  have H9 := Lib.hid hown8
                  clear hown8
                  have i2 : (mk : Int) ≤ (l.length : Int) := by omega
                  have i3 : (0 : Int) ≤ (mk : Int) := by omega
                  go_wp2_with fail
                  refine (HPK.out _).mono ?_
                  rintro e W9 ⟨rfl, rfl⟩
                  go_wp2_with fail
                  have HN := Lib.hid (newreader_in W8 _ (l.take mk) ((raw_of_own H9.out).take (by omega)) (by have := HL.out.2; rw [List.length_take]; omega) (by have := H8.out.1.lt; omega))
                  refine HN.out.mono ?_
                  rintro e W10 ⟨g2, k2, c2, rfl, hg2, hk2, hr2, hb10⟩
                  have hown10 : W10.ownsRow B5 5 1 (.slice (some ⟨g7, 0, none⟩) l.length cc) l.length (B8 l).toList := own_kept H9.out (grown_below hb10 none) (fun _ _ => by simp)
                  have hba : Below W10.heap.size W10 (W10.alloc (.cells #[] 5)) := (Below.refl _ _).alloc (Nat.le_refl _) _
                  have he : (W10.alloc (.cells #[] 5)).ownsRow W10.heap.size 5 1 (.slice (some ⟨W10.heap.size, 0, none⟩) 0 0) 0 [] := World.ownsRow_made W10 #[] 0 (Nat.le_refl _) (Nat.zero_le _) rfl
                  have hraw10 : RawIn (W10.alloc (.cells #[] 5)) (.slice (some ⟨g7, 0, none⟩) l.length cc) l := (raw_of_own hown10).below hba
                  have HE := Lib.hid (And.intro he (And.intro hraw10 hba))
                  have H10 := Lib.hid (And.intro hg2 (And.intro hr2 hb10))
                  clear he hraw10 hba hown10 hg2 hk2 hr2 hb10 HN
                  go_upto_region 23 with (at_builtin; go_must (first
                    | (refine wpList_append_in rfl _ _ rfl W10.heap.size (.slice (some ⟨W10.heap.size, 0, none⟩) 0 0) _ [] l rfl HE.out.1 rfl HE.out.2.1 (by have := HL.out.2; simp; omega) (by simp) ?_; intro u W11 hown11 hgrow11 hat11; rw [List.nil_append] at hown11)
                    | (refine wpList_append_in rfl _ _ rfl W10.heap.size u _ l [0] rfl (own_kept hown11 (grown_below ((Below.refl _ _).alloc (Nat.le_refl _) _) none) (fun _ _ => by simp)) rfl (raw_one W11) (by have := HL.out.2; simp; omega) (by have := hgrow11.size; simp at this ⊢; omega) ?_; intro u2 W12 hown12 hgrow12 hat12)))
                  have hb11 : Below W10.heap.size W10 W11 := HE.out.2.2.grown hgrow11 (by have := HE.out.2.2.size; exact this) (fun x e => by have e2 : W10.heap.size = x := Option.some.inj e; omega)
                  have hub := fun x hx => (own_block hown11 x hx).1
                  have hb11a : Below W10.heap.size W10 (W11.alloc (.cells #[.int .u8 0] 5)) := hb11.alloc hb11.size _
                  have hb12 : Below W10.heap.size W10 W12 := hb11a.grown hgrow12 hb11a.size (fun x e => hub x e)
                  have hr12 : RSt W12 g2 k2 (l.take mk) c2 (some 0) := RSt.below (w := W10) ⟨Nat.zero_le _, H10.out.2.1⟩ hb12
                  have hb512 : Below w5.heap.size w5 W12 := (H8.out.2.trans (H10.out.2.2.mono H8.out.2.size)).trans (hb12.mono (Nat.le_trans H8.out.2.size H10.out.2.2.size))
                  have HN := Lib.hid (newreader_in W12 u2 (l ++ [0]) (raw_of_own hown12) (by have := HL.out.2; simp; omega) (by have := hr12.lt; omega))
                  have H12 := Lib.hid (And.intro hr12 hb512)
                  clear hb11 hub hb11a hb12 hr12 hb512 hown11 hgrow11 hat11 hown12 hgrow12 hat12 HE
                  refine HN.out.mono ?_
                  rintro e W13 ⟨g3, k3, c3, rfl, hg3, hk3, hr3, hb13⟩
                  have hlt2 := H12.out.1.lt
                  have hk3' : W12.heap.size ≤ k3 := by
                    rcases hk3 with h | h
                    · exact h
                    · simp at h
                  have hg25 : w5.heap.size ≤ g2 := Nat.le_trans H8.out.2.size H10.out.1
                  have hg35 : w5.heap.size ≤ g3 := Nat.le_trans H12.out.2.size hg3
                  have HGK := Lib.hid (show g2 ≠ g3 ∧ k2 ≠ g3 ∧ k3 ≠ g2 ∧ w5.heap.size ≤ g2 ∧ w5.heap.size ≤ g3 from ⟨by omega, by omega, by omega, hg25, hg35⟩)
                  have hs0 : shortS ps mk 0 = some 0 := by simp [shortS, pl_zero]
                  have hr213 : RSt W13 g2 k2 (l.take mk) c2 (shortS ps mk 0) := by rw [hs0]; exact H12.out.1.below hb13
                  have H13 := Lib.hid (And.intro hr213 (And.intro (show RSt W13 g3 k3 (l ++ [0]) c3 (some (pl ps 0)) from ⟨Nat.zero_le _, hr3⟩) (H12.out.2.trans (hb13.mono H12.out.2.size))))
                  clear hlt2 hk3 hk3' hg3 hg25 hg35 hs0 hr213 hr3 hb13 HN
                  go_wp2_with fail
                  go_loopw [13] (fun i W => ∃ j : Nat, j ≤ ps.length ∧ i = .int .i64 j ∧ RSt W g2 k2 (l.take mk) c2 (shortS ps mk j) ∧ RSt W g3 k3 (l ++ [0]) c3 (some (pl ps j)) ∧ Below w5.heap.size w5 W) (fun i _ => ps.length - (intOf i).toNat)
                  case atStart => exact ⟨0, Nat.zero_le _, rfl, H13.out⟩
                  case round =>
                    obtain ⟨j, hj, rfl, hsta, hstb, hbel⟩ := hrel
                    have H14 := Lib.hid (And.intro hsta (And.intro hstb hbel))
                    clear hsta hstb hbel
                    by_cases hlt : j < ps.length
                    · obtain ⟨g0, off, rfl, hg0, hr0⟩ := HROW.out (by omega)
                      have hrV : ∀ V, Below w5.heap.size w5 V → PRow V g0 off ps := fun V hV => hr0.below (Nat.le_refl _) (H5.out.2.trans (hV.mono H5.out.2.size))
                      obtain ⟨p, hp⟩ : ∃ p, ps[j]? = some p := ⟨_, List.getElem?_eq_getElem hlt⟩
                      have hrW := hrV _ H14.out.2.2
                      have hok := (hrW j p hp).1
                      have hask := ask_any _ g2 k2 (l.take mk) c2 _ p hok (fun V hV => (hrV V (hV.below H14.out.2.2 HGK.out.2.2.2.1 (by simp)) j p hp).1.raw) H14.out.1
                      rw [place_short _ hok HL.out.1 hlt hp (by have := HMK.out.2; omega)] at hask
                      have hask2 : ∀ V, RSt V g3 k3 (l ++ [0]) c3 (some (pl ps j)) → Below w5.heap.size w5 V → Calls Try.prog 20 #[.pointer (some ⟨g3, 0, none⟩), .agg p.cells] V fun e w' => (∃ r, e = .returned (.bool r) ∧ (qB (l ++ [0]) (some (pl ps j)) p → r = true)) ∧ RSt w' g3 k3 (l ++ [0]) c3 (some (pl ps (j + 1))) ∧ Only g3 V w' none := fun V hst hV => by
                        have hokV := ((hrV V hV) j p hp).1
                        have := ask_any V g3 k3 (l ++ [0]) c3 _ p hokV (fun V2 hV2 => (hrV V2 (hV2.below hV HGK.out.2.2.2.2 (by simp)) j p hp).1.raw) hst
                        rwa [(place_met [0] V hokV HL.out.1 hlt hp).2] at this
                      have HA := Lib.hid hask
                      have HA2 := Lib.hid hask2
                      have HRV := Lib.hid hrV
                      have HR := Lib.hid hrW
                      have HP := Lib.hid hp
                      clear hask hask2 hrW hok hrV hr0 hp
                      go_wp2_with (refine wpList_load_put rfl _ rfl g0 off j ps p HR.out HP.out rfl ?_)
                      refine HA.out.mono ?_
                      rintro e W15 ⟨⟨r, rfl, _⟩, hst15, ho15⟩
                      have hbel15 : Below w5.heap.size w5 W15 := ho15.below H14.out.2.2 HGK.out.2.2.2.1 (by simp)
                      have hstb15 := H14.out.2.1.only ho15 (fun e => HGK.out.1 e.symm) HGK.out.2.2.1
                      have HR15 := Lib.hid (HRV.out _ hbel15)
                      have HA15 := Lib.hid (HA2.out _ hstb15 hbel15)
                      have H15 := Lib.hid (And.intro hst15 hbel15)
                      clear hst15 ho15 hbel15 hstb15 HA HA2 HR
                      go_wp2_with (refine wpList_load_put rfl _ rfl g0 off j ps p HR15.out HP.out rfl ?_)
                      refine HA15.out.mono ?_
                      rintro e W16 ⟨⟨r2, rfl, _⟩, hst16, ho16⟩
                      have hbel16 : Below w5.heap.size w5 W16 := ho16.below H15.out.2 HGK.out.2.2.2.2 (by simp)
                      have hsta16 := H15.out.1.only ho16 HGK.out.1 HGK.out.2.1
                      have H16 := Lib.hid (And.intro hsta16 (And.intro hst16 hbel16))
                      clear hst16 ho16 hbel16 hsta16 HA15 HR15 H15
                      go_wp2_with fail
                      refine ⟨⟨j + 1, by omega, by go_num, H16.out⟩, ?_⟩
                      simp [intOf]; omega
                    · obtain rfl : j = ps.length := by omega
                      have hend := end_rst _ g2 k2 (l.take mk) c2 _ H14.out.1
                      rw [end_short HL.out.1 HMK.out.2] at hend
                      have HE := Lib.hid hend
                      clear hend
                      go_wp2_with fail
                      refine HE.out.mono ?_
                      rintro e W17 ⟨rfl, hb17⟩
                      have hend2 := end_rst W17 g3 k3 (l ++ [0]) c3 _ (H14.out.2.1.below hb17)
                      rw [end_long HL.out.1] at hend2
                      have HE2 := Lib.hid hend2
                      have hb517 : Below w5.heap.size w5 W17 := H14.out.2.2.trans (hb17.mono H14.out.2.2.size)
                      have H17 := Lib.hid hb517
                      clear hend2 hb17 hb517 HE
                      go_wp2_with fail
                      refine HE2.out.mono ?_
                      rintro e W18 ⟨rfl, hb18⟩
                      go_wp2_with fail
                      go_ret
                      exact ⟨rfl, (HB1.out.trans (H5.out.2.mono HB1.out.size)).trans ((H17.out.trans (hb18.mono H17.out.size)).mono (Nat.le_trans HB1.out.size H5.out.2.size))⟩
end Go.Proofs.Ytjbjagdpemnhiaa
