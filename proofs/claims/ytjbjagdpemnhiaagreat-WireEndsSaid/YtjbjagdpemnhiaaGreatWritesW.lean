/-
  WireWrites: the walk.
-/
import Derived.Test.YtjbjagdpemnhiaaGreatWrites
namespace Go.Proofs.YtjbjagdpemnhiaaGreat
open Go.RowKit

theorem Two.start {w w1 : World} {v : Value} {g : Nat} (h : WrV w1 w.heap.size g v []) (hb : Below w.heap.size w w1) : Two w.heap.size g w1.heap.size v (.slice none 0 0) (some []) (some []) (w1.alloc (.cells #[.slice none 0 0, .bool false] 38)) := by
  have hb1 : Below w1.heap.size w1 (w1.alloc (.cells #[.slice none 0 0, .bool false] 38)) := (Below.refl _ _).alloc (Nat.le_refl _) _
  have hlt := h.1.lt
  have hv := own_block h.2.1
  refine ⟨h.below hb1, ⟨Lies.new _ _ _, World.ownsRow_nil _ _ _ _, by simp [Value.ownBlock], hb.size⟩, by omega, ?_, by simp [Value.ownBlock], by simp [Value.ownBlock], ?_, by simp [Value.ownBlock]⟩
  · intro e
    have := hv _ e
    omega
  · intro x hx
    have := hv x hx
    exact ⟨this.1, Nat.lt_of_lt_of_le this.2 hb1.size⟩
def z35 : Array Value := #[.int .i64 0, .int .i64 0, .int .u64 0, .int .u8 0, .int .u8 0, .int .u8 0, .int .u8 0, .int .u8 0, .int .u8 0, .int .u8 0, .int .u8 0, .int .u8 0, .int .u8 0, .int .u8 0, .int .u8 0, .int .u8 0, .int .u8 0, .int .u8 0, .int .u8 0, .int .u8 0, .int .u8 0, .int .u8 0, .int .u8 0, .int .u8 0, .int .u8 0, .int .u8 0, .int .u8 0, .int .u8 0, .int .u8 0, .int .u8 0, .int .u8 0, .int .u8 0, .int .u8 0, .int .u8 0, .int .u8 0, .slice none 0 0, .string ⟨#[]⟩]
theorem z35_size : z35.size = 37 := rfl
theorem neSome {o : Option Nat} {n : Nat} (h : ∀ x, o = some x → x < n) : o ≠ some n := fun e => by have := h n e; omega

set_option maxRecDepth 1000000 in
set_option maxHeartbeats 4000000 in
theorem writes_any (w : World) (va : Option Addr) (ps : List PutD) (cap : Nat) (hc : ps.length ≤ cap) (hm : cap ≤ 140737488355328)
    (hrow : 0 < ps.length → ∃ g off, va = some ⟨g, off, none⟩ ∧ g < w.heap.size ∧ PRow w g off ps) :
    Calls Tryz.prog 4 #[.slice va ps.length cap] w fun e w' => e = .returned (.bool true) ∧ Below w.heap.size w w' := by
  have hgr := great_any w va ps cap none 0 0 hc hm (Nat.zero_le _) hrow
  have HG := Lib.hid hgr
  have HROW := Lib.hid hrow
  clear hgr hrow
  go_enter Tryz.func4, Tryz.ntmps4
  go_wp2_with fail
  refine HG.out.mono ?_
  rintro e w' ⟨rfl, r, rfl, hr⟩
  clear HG
  cases r
  case true =>
    clear hr
    go_wp2_with fail
    refine (awake_any w).mono ?_
    rintro e w1 ⟨rfl, hb1⟩
    go_wp2_with fail
    go_ret
    exact ⟨rfl, hb1⟩
  case false =>
    obtain ⟨hsum, hsmall⟩ := hr rfl
    have HS := Lib.hid (And.intro hsum hsmall)
    clear hsum hsmall hr
    go_wp2_with fail
    refine (newwriter_any w).mono ?_
    rintro e w1 ⟨rfl, hw1, hb1⟩
    obtain ⟨v1, hw1⟩ := hw1.wrv
    have htwo := Two.start hw1 hb1
    have hbel : Below w.heap.size w (w1.alloc (.cells #[.slice none 0 0, .bool false] 38)) := hb1.trans ((Below.refl _ _).alloc hb1.size _)
    have HT := Lib.hid (And.intro htwo hbel)
    clear htwo hbel hw1 hb1
    go_upto_region 4 with fail
    obtain ⟨w2, hw2⟩ : ∃ w2, w2 = w1.alloc (.cells #[.slice none 0 0, .bool false] 38) := ⟨_, rfl⟩
    obtain ⟨gx, hgx⟩ : ∃ gx, gx = w1.heap.size := ⟨_, rfl⟩
    rw [← hw2, ← hgx] at HT ⊢
    clear hw2 hgx
    go_wp2_with fail
    go_loopw [5] (fun i wr => ∃ k : Nat, k ≤ ps.length ∧ i = .int .i64 k ∧ ∃ v vx st, Two w.heap.size w.heap.size gx v vx st st wr ∧ Below w.heap.size w wr ∧ Fits ps k st) (fun i _ => ps.length - (intOf i).toNat)
    case atStart => exact ⟨0, Nat.zero_le _, rfl, _, _, _, HT.out.1, HT.out.2, fun l e => by cases e; simp⟩
    case round =>
      obtain ⟨k, hk, rfl, v, vx, st, htwo, hbel, hfit⟩ := hrel
      have H0 := Lib.hid (And.intro htwo (And.intro hbel hfit))
      clear htwo hbel hfit HT
      by_cases hlt : k < ps.length
      · obtain ⟨g, off, rfl, hg, hr0⟩ := HROW.out (by omega)
        have hr := hr0.below (Nat.le_refl _) H0.out.2.1
        obtain ⟨p, hp⟩ : ∃ p, ps[k]? = some p := ⟨_, List.getElem?_eq_getElem hlt⟩
        have hok := (hr k p hp).1
        have hv := PutD.v hok
        have c36 := hr.cell hp hv.text
        have hsm := HS.out.2 k p hp
        have hsl := hok.slen
        unfold maxLen at hsl
        have HR := Lib.hid hr
        have HP := Lib.hid hp
        have HOK := Lib.hid hok
        have HSM := Lib.hid hsm
        clear hr hp hv hok hsm
        by_cases hbig : 70000 < p.s.size
        · have i1 : decide ((70000 : Int) < (p.s.size : Int)) = true := by simp; omega
          clear hbig
          go_wp2_with fail
          refine (awake_any wr).mono ?_
          rintro e w3 ⟨rfl, hb3⟩
          go_wp2_with fail
          go_ret
          exact ⟨rfl, H0.out.2.1.trans (hb3.mono H0.out.2.1.size)⟩
        · have i1 : decide ((70000 : Int) < (p.s.size : Int)) = false := by simp; omega
          have HBIG := Lib.hid hbig
          clear hbig
          go_upto_region 10 with (first
            | (refine wpList_load_put rfl _ rfl g off k ps p HR.out HP.out rfl ?_)
            | (refine wpList_store_row rfl 28 _ _ rfl wr.heap.size p.cells rfl rfl 28 z35 (Lies.new wr _ 28) (info35of HOK.out) (by rw [PutD.size HOK.out]; rfl) (PutD.one HOK.out) ?_))
          have hb1 : Below wr.heap.size wr ((wr.alloc (.cells #[.int .i64 0, .int .i64 0, .int .u64 0, .int .u8 0, .int .u8 0, .int .u8 0, .int .u8 0, .int .u8 0, .int .u8 0, .int .u8 0, .int .u8 0, .int .u8 0, .int .u8 0, .int .u8 0, .int .u8 0, .int .u8 0, .int .u8 0, .int .u8 0, .int .u8 0, .int .u8 0, .int .u8 0, .int .u8 0, .int .u8 0, .int .u8 0, .int .u8 0, .int .u8 0, .int .u8 0, .int .u8 0, .int .u8 0, .int .u8 0, .int .u8 0, .int .u8 0, .int .u8 0, .int .u8 0, .int .u8 0, .slice none 0 0, .string ⟨#[]⟩] 28)).setRow wr.heap.size p.cells) := below_setRow ((Below.refl _ _).alloc (Nat.le_refl _) _) _ _ (Nat.le_refl _)
          have hl1 : Lies ((wr.alloc (.cells #[.int .i64 0, .int .i64 0, .int .u64 0, .int .u8 0, .int .u8 0, .int .u8 0, .int .u8 0, .int .u8 0, .int .u8 0, .int .u8 0, .int .u8 0, .int .u8 0, .int .u8 0, .int .u8 0, .int .u8 0, .int .u8 0, .int .u8 0, .int .u8 0, .int .u8 0, .int .u8 0, .int .u8 0, .int .u8 0, .int .u8 0, .int .u8 0, .int .u8 0, .int .u8 0, .int .u8 0, .int .u8 0, .int .u8 0, .int .u8 0, .int .u8 0, .int .u8 0, .int .u8 0, .int .u8 0, .int .u8 0, .slice none 0 0, .string ⟨#[]⟩] 28)).setRow wr.heap.size p.cells) wr.heap.size p.cells 28 := (Lies.new _ _ _).setRow _
          generalize (wr.alloc (.cells #[.int .i64 0, .int .i64 0, .int .u64 0, .int .u8 0, .int .u8 0, .int .u8 0, .int .u8 0, .int .u8 0, .int .u8 0, .int .u8 0, .int .u8 0, .int .u8 0, .int .u8 0, .int .u8 0, .int .u8 0, .int .u8 0, .int .u8 0, .int .u8 0, .int .u8 0, .int .u8 0, .int .u8 0, .int .u8 0, .int .u8 0, .int .u8 0, .int .u8 0, .int .u8 0, .int .u8 0, .int .u8 0, .int .u8 0, .int .u8 0, .int .u8 0, .int .u8 0, .int .u8 0, .int .u8 0, .int .u8 0, .slice none 0 0, .string ⟨#[]⟩] 28)).setRow wr.heap.size p.cells = W1 at hb1 hl1 ⊢
          have hlt1 : wr.heap.size < W1.heap.size := hl1.lt
          have hne : wr.heap.size ≠ W1.heap.size := by omega
          have hba : Below W1.heap.size W1 (W1.alloc (.cells #[] 5)) := (Below.refl _ _).alloc (Nat.le_refl _) _
          have he : (W1.alloc (.cells #[] 5)).ownsRow W1.heap.size 5 1 (.slice (some ⟨W1.heap.size, 0, none⟩) 0 0) 0 [] := World.ownsRow_made W1 #[] 0 (Nat.le_refl _) (Nat.zero_le _) rfl
          have hb2 : Below wr.heap.size wr (W1.alloc (.cells #[] 5)) := hb1.trans (hba.mono hb1.size)
          have hr2 := HR.out.below (Nat.le_refl _) hb2
          have hl2 : Lies (W1.alloc (.cells #[] 5)) wr.heap.size p.cells 28 := hl1.alloc _
          have hraw2 := (hr2 k p HP.out).2 35 _ (PutD.v HOK.out).raw
          have c35 : (W1.alloc (.cells #[] 5)).cell? ⟨g, off + k * 37 + 35, none⟩ = some p.bv := by rw [Nat.add_assoc]; exact hraw2
          have HRAW := Lib.hid (hr2 k p HP.out).1.raw
          have HE := Lib.hid he
          have H2 := Lib.hid (And.intro hb1 (And.intro hl2 (And.intro hb2 hr2)))
          have hx300 : p.xs.length ≤ 300 := by
            have h1 := sumB_succ HP.out
            have h2 := sumB_mono ps (show k + 1 ≤ ps.length by omega)
            have := HS.out.1
            omega
          have HX := Lib.hid hx300
          clear hb1 hl1 hba he hb2 hr2 hl2 hraw2 hx300
          go_upto_region 11 with (at_builtin; go_must (refine wpList_append_in rfl _ _ rfl W1.heap.size (.slice (some ⟨W1.heap.size, 0, none⟩) 0 0) p.bv [] p.xs rfl HE.out rfl HRAW.out (by have := HX.out; simp; omega) (by simp) ?_; intro u W2 hown hgrow hat; rw [List.nil_append] at hown; obtain ⟨A', cc, rfl⟩ := own_slice hown; have c3 : W2.cell? ⟨wr.heap.size, 35, none⟩ = some p.bv := (Lies.grown H2.out.2.1 hgrow hne).cell 35 (PutD.v HOK.out).raw; have f3 : W2.frozen? ⟨wr.heap.size, 35, none⟩ = false := (Lies.grown H2.out.2.1 hgrow hne).free 35))
          have hUb : ∀ x, (Value.slice A' p.xs.length cc).ownBlock = some x → W1.heap.size ≤ x := fun x hx => (own_block hown x hx).1
          have hb3 : Below wr.heap.size wr (W2.setCell ⟨wr.heap.size, 35, none⟩ (.slice A' p.xs.length cc)) :=
            (H2.out.2.2.1.grown hgrow (by have := H2.out.2.2.1.size; exact this) (fun x e => by have e2 : W1.heap.size = x := Option.some.inj e; omega)).setCell (Nat.le_refl _) _
          have hl3 : Lies (W2.setCell ⟨wr.heap.size, 35, none⟩ (.slice A' p.xs.length cc)) wr.heap.size (p.with (.slice A' p.xs.length cc)).cells 28 := by
            rw [← PutD.with_cells HOK.out]
            exact (Lies.grown H2.out.2.1 hgrow hne).set 35 _
          have how3 : (W2.setCell ⟨wr.heap.size, 35, none⟩ (.slice A' p.xs.length cc)).ownsRow W1.heap.size 5 1 (.slice A' p.xs.length cc) p.xs.length (B8 p.xs).toList :=
            own_set hown (fun e => by have := hUb _ e; omega)
          generalize W2.setCell ⟨wr.heap.size, 35, none⟩ (.slice A' p.xs.length cc) = W3 at hb3 hl3 how3 ⊢
          have htwo3 := H0.out.1.below hb3
          have hok3 := PutD.with_ok HOK.out how3
          have hbel3 : Below w.heap.size w W3 := H0.out.2.1.trans (hb3.mono H0.out.2.1.size)
          have hB3 := hbel3.size
          have hlen3 : ∀ l, st = some l → l.length + 70000 ≤ 500000 := fun l e => by
            have h1 := H0.out.2.2 l e
            have h2 := sumB_mono ps (show k ≤ ps.length by omega)
            have h3 := HS.out.1
            omega
          have hput := put_st W3 w.heap.size w.heap.size v st (p.with (.slice A' p.xs.length cc)).cells p.n0 p.n1 p.n2 p.hs p.xs (.slice A' p.xs.length cc) p.s (PutD.v hok3) hok3.raw htwo3.a hB3 (fun l e => by have := hlen3 l e; have := HX.out; omega)
          have HPUT := Lib.hid hput
          have HL3 := Lib.hid hl3
          have HI3 := Lib.hid (info35of hok3)
          have H3 := Lib.hid (And.intro htwo3 (And.intro hbel3 how3))
          have HLEN := Lib.hid hlen3
          have HUB := Lib.hid hUb
          have HUL := Lib.hid (fun (x : Nat) hx => (own_block how3 x hx).2)
          clear hput hl3 hok3 htwo3 hbel3 how3 hlen3 hUb hb3 hB3 hown hgrow hat c3 f3 c35
          go_wp2_with (refine wpList_load_row rfl 28 _ rfl wr.heap.size rfl 28 (p.with (.slice A' p.xs.length cc)).cells (0, 0) _ HL3.out Tryz.underlying28 rfl HI3.out ?_)
          refine HPUT.out.mono ?_
          rintro e W4 ⟨rfl, hm4⟩
          obtain ⟨v4, htwo4, hturn4, hnew4⟩ := H3.out.1.put hm4
          have hbel4 : Below w.heap.size w W4 := hturn4.below H3.out.2.1
          have hgv : wr.heap.size ≠ w.heap.size := by have := H0.out.1.a.lies; omega
          have hgx' : wr.heap.size ≠ gx := by have := H0.out.1.b.lies; omega
          have how4 := hturn4.own H3.out.2.2 (fun e => by have := HUB.out _ e; have := H0.out.1.a.lies; omega) (fun x hx e => by have := HUB.out x hx; have := (H0.out.1.v4 x e).2; omega)
          have hl4 := hturn4.keep HL3.out hgv (fun e => by have := (H0.out.1.v4 _ e).2; omega)
          have hr4 := hr0.below (Nat.le_refl _) hbel4
          have hok4 := (hr4 k p HP.out).1
          have hwant := want_st W4 w.heap.size gx vx st p.cells p.n0 p.n1 p.n2 p.hs p.xs p.bv p.s (PutD.v hok4) hok4.raw htwo4.b hbel4.size hok4.lo hok4.hi (fun l e => by have := HLEN.out l e; have := HX.out; omega) (fun l e => by have := HLEN.out l e; have := HBIG.out; omega)
          have HWANT := Lib.hid hwant
          have HR4 := Lib.hid hr4
          have hsz34 : W3.heap.size ≤ W4.heap.size := hturn4.1.size
          have HN4 := Lib.hid hnew4
          have H4 := Lib.hid (And.intro htwo4 (And.intro hbel4 (And.intro how4 hl4)))
          clear hnew4 hm4 hwant htwo4 hbel4 how4 hl4 hok4 hr4 HPUT HL3 HI3 H3 hturn4
          go_wp2_with (refine wpList_load_put rfl _ rfl g off k ps p HR4.out HP.out rfl ?_)
          refine HWANT.out.mono ?_
          rintro e W5 ⟨rfl, hm5⟩
          obtain ⟨vx5, htwo5, hturn5, hnew5⟩ := H4.out.1.want hm5
          have hbel5 : Below w.heap.size w W5 := hturn5.below H4.out.2.1
          have how5 := hturn5.own H4.out.2.2.1 (fun e => by have := HUB.out _ e; have := H0.out.1.b.lies; omega) (fun x hx e => by have := HUB.out x hx; have := (H0.out.1.v5 x e).2; omega)
          have hl5 := hturn5.keep H4.out.2.2.2 hgx' (fun e => by have := (H0.out.1.v5 _ e).2; omega)
          have hok5len : Fits ps (k + 1) (stepPut st p.n0 p.n1 p.n2 p.hs p.xs p.s) := by
            have h1 := step_len st p wr HOK.out HSM.out (400 * k + sumB ps k) H0.out.2.2
            intro l e
            have := h1 l e
            rw [sumB_succ HP.out]
            omega
          have HN5 := Lib.hid hnew5
          have H5 := Lib.hid (And.intro htwo5 (And.intro hbel5 (And.intro how5 hl5)))
          have HF5 := Lib.hid hok5len
          clear hnew5 hm5 htwo5 hbel5 how5 hl5 hturn5 hok5len HWANT HR4 H4
          go_wp2_with fail
          obtain ⟨wo, hwo⟩ : ∃ wo : World, wo = wr := ⟨_, rfl⟩
          subst hwo
          go_loopw [7] (fun i W => ∃ m : Nat, m ≤ p.xs.length ∧ i = .int .i64 m ∧ Inner W5 (.slice A' p.xs.length cc) p.xs m W) (fun i _ => p.xs.length - (intOf i).toNat)
          case atStart => exact ⟨0, Nat.zero_le _, rfl, Inner.start H5.out.2.2.1⟩
          case round =>
            obtain ⟨m, hmx, rfl, hin⟩ := hrel
            have hno : (Value.slice A' p.xs.length cc).ownBlock ≠ some wo.heap.size := fun e => by have := HUB.out _ e; omega
            have hl6 := (grown_only hin.grown W5.heap.size).keep H5.out.2.2.2 (by have := H5.out.2.2.2.lt; omega) hno
            have c6 : wr.cell? ⟨wo.heap.size, 35, none⟩ = some (.slice A' p.xs.length cc) := hl6.cell 35 (PutD.v (PutD.with_ok HOK.out H5.out.2.2.1)).raw
            have hbel6 : Below w.heap.size w wr := H5.out.2.1.grown hin.grown H5.out.2.1.size (fun x hx => by have := HUB.out x hx; have := H0.out.2.1.size; omega)
            have HIN := Lib.hid hin
            have HB6 := Lib.hid hbel6
            by_cases hlm : m < p.xs.length
            · have hr6 := hr0.below (Nat.le_refl _) hbel6
              have hok6 := (hr6 k p HP.out).1
              have cb0 := hr6.cell HP.out (PutD.v hok6).raw
              rcases H5.out.2.2.1.2 with ⟨_, h0⟩ | ⟨g7, cap7, cur7, hU, _⟩
              · omega
              · cases hU
                obtain ⟨cur, hlc, hcur⟩ := hin.row g7 cc rfl
                have hf7 := hlc.free m
                have hc7 := hlc.cell m (hcur m (Nat.le_refl _) hlm)
                rcases hok6.raw with ⟨_, h0⟩ | ⟨ad, ca, hbv, hsrc⟩
                · rw [h0] at hlm
                  exact absurd hlm (by simp)
                · have hs0 := hsrc 0 _ (by rw [Array.getElem?_toList]; exact B8_get p.xs 0 (by omega))
                  have hsm := hsrc m _ (by rw [Array.getElem?_toList]; exact B8_get p.xs m hlm)
                  obtain ⟨ga, oa, spot⟩ := ad
                  have hspot : spot = none := by simpa [Addr.add] using World.cell?_spot hs0
                  subst hspot
                  rw [Addr.add_mid] at hsm
                  rw [hbv] at cb0
                  clear hr6 hok6 hlc hcur hsrc hs0 hbv hin hbel6 hl6 hno c36
                  generalize p.xs.getD m 0 = x at hsm hc7
                  have i2 : (m : Int) < (p.xs.length : Int) := by omega
                  have i3 : decide (p.xs.length ≤ m) = false := by simp; omega
                  have i4 : (0 : Int) ≤ (m : Int) := by omega
                  have i7 : (m : Int) ≤ 300 := by have := HX.out; omega
                  have i5 : decide (ps.length ≤ k) = false := by simp; omega
                  have i6 : (0 : Int) ≤ (k : Int) := by omega
                  go_upto_region 16 with fail
                  go_quiet (fail)
                  go_wp2_with fail
                  refine ⟨⟨m + 1, by omega, by go_num, HIN.out.next _ _⟩, ?_⟩
                  simp [intOf]; omega
            · obtain rfl : m = p.xs.length := by omega
              have htwo6 := H5.out.1.grown hin.grown (fun e => by have := HUB.out _ e; have := H0.out.1.a.lies; omega) (fun e => by have := HUB.out _ e; have := H0.out.1.b.lies; omega)
                (fun x hx e => by
                  have h1 := HUL.out x e
                  have h2 := HUB.out x e
                  rcases HN4.out x hx with h | h
                  · have := (H0.out.1.v4 x h).2; omega
                  · omega)
                (fun x hx e => by
                  have h1 := HUL.out x e
                  have h2 := HUB.out x e
                  rcases HN5.out x hx with h | h
                  · have := (H0.out.1.v5 x h).2; omega
                  · omega)
              have HT6 := Lib.hid htwo6
              clear htwo6 hin hbel6 hl6 c36 hno
              go_wp2_with fail
              refine ⟨⟨k + 1, by omega, by go_num, _, _, _, HT6.out, HB6.out, HF5.out⟩, ?_⟩
              simp [intOf]; omega
      · have hkl : k = ps.length := by omega
        subst hkl
        clear hlt hk
        have hB := H0.out.2.1.size
        cases st with
        | none =>
          have hn := own_text (w := wr) (l := []) (World.ownsRow_nil wr 0 5 1)
          go_wp2_with fail
          refine (wbytes_spoilt wr w.heap.size w.heap.size v H0.out.1.a).mono ?_
          rintro e w5 ⟨rfl, rfl⟩
          go_wp2_with fail
          refine (rbytes_spoilt wr w.heap.size gx vx H0.out.1.b).mono ?_
          rintro e w5 ⟨rfl, rfl⟩
          go_wp2_with fail
          obtain ⟨wo, hwo⟩ : ∃ wo : World, wo = wr := ⟨_, rfl⟩
          subst hwo
          go_loopw [12] (fun i W => i = .int .i64 0 ∧ wo = W) (fun _ _ => 0)
          case atStart => exact ⟨rfl, rfl⟩
          case round =>
            obtain ⟨rfl, rfl⟩ := hrel
            go_wp2_with fail
            refine (wbytes_spoilt wo w.heap.size w.heap.size v H0.out.1.a).mono ?_
            rintro e w5 ⟨rfl, rfl⟩
            go_wp2_with fail
            refine (awake_any wo).mono ?_
            rintro e w5 ⟨rfl, hb5⟩
            go_wp2_with fail
            go_ret
            exact ⟨rfl, H0.out.2.1.trans (hb5.mono hB)⟩
        | some l =>
          have hl : l.length ≤ 500000 := by
            have h1 := H0.out.2.2 l rfl
            have h3 := HS.out.1
            omega
          have hg1 := wbytes_good wr w.heap.size w.heap.size v l H0.out.1.a (by omega)
          have HG1 := Lib.hid hg1
          have HLL := Lib.hid hl
          clear hg1 hl
          go_wp2_with fail
          refine HG1.out.mono ?_
          rintro e w5 ⟨u1, rfl, hown1, hb5⟩
          have hg2 := rbytes_good w5 w.heap.size gx vx l (H0.out.1.below hb5).b (by have := HLL.out; omega)
          have HG2 := Lib.hid hg2
          have H1 := Lib.hid (And.intro hown1 hb5)
          clear hg2 hown1 hb5 HG1
          go_wp2_with fail
          refine HG2.out.mono ?_
          rintro e w6 ⟨u2, rfl, hown2, hb6⟩
          have hown1 : w6.ownsRow wr.heap.size 5 1 u1 l.length (B8 l).toList := own_kept H1.out.1 (grown_below hb6 none) (fun _ _ => by simp)
          have hs1 := own_text hown1
          have hs2 := own_text hown2
          have htwo6 := (H0.out.1.below H1.out.2).below hb6
          have hbel6 : Below w.heap.size w w6 := (H0.out.2.1.trans (H1.out.2.mono hB)).trans (hb6.mono (Nat.le_trans hB H1.out.2.size))
          obtain ⟨A1, c1, rfl⟩ := own_slice hown1
          have hU1 : ∀ x, (Value.slice A1 l.length c1).ownBlock = some x → wr.heap.size ≤ x ∧ x < w5.heap.size := fun x hx => own_block H1.out.1 x hx
          have hU2 : ∀ x, u2.ownBlock = some x → w5.heap.size ≤ x := fun x hx => (own_block hown2 x hx).1
          have H6 := Lib.hid (And.intro htwo6 (And.intro hbel6 (And.intro hown1 hown2)))
          have HU := Lib.hid (And.intro hU1 hU2)
          clear hown2 hb6 htwo6 hbel6 hown1 hU1 hU2 H1 HG2
          go_wp2_with fail
          obtain ⟨wo, hwo⟩ : ∃ wo : World, wo = wr := ⟨_, rfl⟩
          subst hwo
          go_loopw [12] (fun i W => ∃ m : Nat, m ≤ l.length ∧ i = .int .i64 m ∧ Inner w6 (.slice A1 l.length c1) l m W) (fun i _ => l.length - (intOf i).toNat)
          case atStart => exact ⟨0, Nat.zero_le _, rfl, Inner.start H6.out.2.2.1⟩
          case round =>
            obtain ⟨m, hmx, rfl, hin⟩ := hrel
            have HIN := Lib.hid hin
            by_cases hlm : m < l.length
            · rcases H6.out.2.2.1.2 with ⟨_, h0⟩ | ⟨g7, cap7, cur7, hU, _⟩
              · omega
              · cases hU
                obtain ⟨cur, hlc, hcur⟩ := hin.row g7 c1 rfl
                have hf7 := hlc.free m
                have hc7 := hlc.cell m (hcur m (Nat.le_refl _) hlm)
                have i2 : (m : Int) < (l.length : Int) := by omega
                have i4 : (0 : Int) ≤ (m : Int) := by omega
                have i7 : (m : Int) ≤ 500000 := by have := HLL.out; omega
                clear hlc hcur hin hs1 hs2
                generalize l.getD m 0 = x at hc7
                go_wp2_with fail
                refine ⟨⟨m + 1, by omega, by go_num, HIN.out.next 0 _⟩, ?_⟩
                simp [intOf]; omega
            · obtain rfl : m = l.length := by omega
              have htwo7 := H6.out.1.grown hin.grown (fun e => by have := (HU.out.1 _ e).1; have := H0.out.1.a.lies; omega) (fun e => by have := (HU.out.1 _ e).1; have := H0.out.1.b.lies; omega)
                (fun x hx e => by have := (HU.out.1 _ e).1; have := (H0.out.1.v4 x hx).2; omega) (fun x hx e => by have := (HU.out.1 _ e).1; have := (H0.out.1.v5 x hx).2; omega)
              have hown7 : wr.ownsRow w5.heap.size 5 1 u2 l.length (B8 l).toList := own_kept H6.out.2.2.2 hin.grown (fun g hg e => by have := (HU.out.1 g e).2; have := HU.out.2 g hg; omega)
              have hbel7 : Below w.heap.size w wr := H6.out.2.1.grown hin.grown H6.out.2.1.size (fun x hx => by have := (HU.out.1 x hx).1; omega)
              have hg3 := wbytes_good wr w.heap.size w.heap.size v l htwo7.a (by have := HLL.out; omega)
              have HG3 := Lib.hid hg3
              have H7 := Lib.hid (And.intro hown7 hbel7)
              clear htwo7 hown7 hbel7 hg3 hin hs1 hs2
              go_wp2_with fail
              refine HG3.out.mono ?_
              rintro e w8 ⟨u3, rfl, hown3, hb8⟩
              have hs3 := own_text hown3
              have hs4 := own_text (own_kept H7.out.1 (grown_below hb8 none) (fun _ _ => by simp))
              have H8 := Lib.hid (H7.out.2.trans (hb8.mono H7.out.2.size))
              clear hown3 hb8
              go_wp2_with fail
              refine (awake_any w8).mono ?_
              rintro e w9 ⟨rfl, hb9⟩
              go_wp2_with fail
              go_ret
              exact ⟨rfl, H8.out.trans (hb9.mono H8.out.size)⟩
end Go.Proofs.YtjbjagdpemnhiaaGreat
