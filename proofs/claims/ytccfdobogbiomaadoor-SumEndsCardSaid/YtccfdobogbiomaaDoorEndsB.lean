/-
  SumEnds: the closed statement's walk. Condition: the two tables.
-/
import Derived.Test.YtccfdobogbiomaaDoorEndsD
namespace Go.Proofs.YtccfdobogbiomaaDoor
open Go.RowKit Sha



def GrowI (w : World) (vb vl i : Value) (wr : World) : Prop := ∃ n : Nat, n ≤ 200 ∧ i = .int .i64 n ∧ BL w n n vb vl wr ∧ (n = 0 → vb = .slice none 0 0)

set_option maxRecDepth 100000 in
set_option maxHeartbeats 4000000 in
theorem ends_any (w : World) (hs : Starts w) (hc : Cubes w) : Calls Tryd.prog 5 #[] w fun e w' => e = .returned (.bool true) ∧ Below w.heap.size w w' := by
  have HT := Lib.hid (show Tabs w from ⟨hs, hc⟩)
  have hgu := guard27
  clear hs hc
  go_enter Tryd.func5, Tryd.ntmps5
  go_wp2_with fail
  go_loopw [1, 2, 3] (fun vb vl i wr => GrowI w vb vl i wr) (fun _ _ i _ => 200 - (intOf i).toNat)
  case atStart => exact ⟨0, by omega, rfl, BL.none_ w, fun _ => rfl⟩
  case round =>
    obtain ⟨n, hn, rfl, hbl, hn0⟩ := hrel
    by_cases hlt : n < 200
    · have i1 : (n : Int) < 200 := by omega
      have HBL0 := Lib.hid hbl
      go_upto_region 6 with fail
      go_cut [31] from 109 (fun v wr2 => v = .bool false ∧ Below wr.heap.size wr wr2)
      case first =>
        by_cases h0 : n = 0
        · obtain rfl := hn0 h0
          subst h0
          have hpt : Part8 wr ⟨none, [], 0⟩ := ⟨good_none _ _ _ (Nat.zero_le _), fun _ => rfl⟩
          have HT2 := Lib.hid (HT.out.below hbl.1.2)
          have k1 := of_part hpt HT2.out (Nat.zero_le _)
          have k2 := one_part hpt (Nat.zero_le _)
          have k3 := of_parts2 hpt.1 hpt.1 HT2.out (Nat.zero_le _)
          simp only [Part.val, List.append_nil, List.length_nil] at k1 k2 k3
          have k1d : ∀ W, Below wr.heap.size wr W → Calls Tryd.prog 10 #[.slice (some ⟨W.heap.size, 0, none⟩) 1 1] (W.alloc (.cells #[.slice none 0 0] 38)).drew fun e w' => e = .returned (.agg (B8 (sha []))) ∧ Below W.heap.size W w' :=
            fun W hb => (k1 W.drew hb.drew).mono fun e w' hh => ⟨hh.1, (Below.refl _ W).drew.trans hh.2⟩
          have heq := equal_same (sha []) rfl
          have C1 := Lib.hid k1d
          have C2 := Lib.hid k2
          have C3 := Lib.hid k3
          clear k1 k1d k2 k3 hpt hbl hn0
          generalize sha [] = X at C1 C2 C3 heq
          have e0 : ((0 : Nat) : Int) = 0 := rfl
          rw [e0]
          have hw0 : IntKind.i64.wrap 0 = 0 := rfl
          clear e0 i1
          go_region_held3 (fun _ => True) (trivial) (first
            | (with_reducible refine (C1.out _ (Below.refl _ _)).mono ?_; rintro e w1 ⟨rfl, hb1⟩)
            | (with_reducible refine (C2.out _ hb1).mono ?_; rintro e w2 ⟨rfl, hb2⟩; have hb2' := hb1.trans (hb2.mono hb1.size))
            | (with_reducible refine (C3.out _ hb2').mono ?_; rintro e w3 ⟨rfl, hb3⟩; have hb3' := hb2'.trans (hb3.mono hb2'.size))
            | (with_reducible refine (C2.out _ hb3').mono ?_; rintro e w4 ⟨rfl, hb4⟩; have hb4' := hb3'.trans (hb4.mono hb3'.size)))
          go_wp2_with fail
          go_meet
          case rel => exact ⟨rfl, hb4'⟩
        · obtain ⟨g, c, rfl⟩ : ∃ g c, u1 = .slice (some ⟨g, 0, none⟩) n c := by
            obtain ⟨g, c, e⟩ := hbl.1.shape (by rw [seqB_length]; omega)
            exact ⟨g, c, by rw [e, seqB_length]⟩
          have hpt := hbl.part
          have hbw := hbl.1.2
          have HT2 := Lib.hid (HT.out.below hbw)
          have k1 := of_part hpt HT2.out (by rw [seqB_length]; omega)
          have k2 := one_part hpt (by rw [seqB_length]; omega)
          have q1 := good_range hpt.1 0 (n / 2) (by rw [seqB_length]; omega)
          have q2 := good_range hpt.1 (n / 2) (n - n / 2) (by rw [seqB_length]; omega)
          have k3 := of_parts2 q1 q2 HT2.out (by simp only [List.length_append, List.length_take, List.length_drop, seqB_length]; omega)
          have hj : List.take (n / 2) (List.drop 0 (seqB n)) ++ List.take (n - n / 2) (List.drop (n / 2) (seqB n)) = seqB n := by
            rw [List.drop_zero, List.take_of_length_le (l := List.drop (n / 2) (seqB n)) (by rw [List.length_drop, seqB_length]; exact Nat.le_refl _), List.take_append_drop]
          simp only [Part.val, hj] at k1 k2 k3
          simp only [List.length_take, List.length_drop, seqB_length, Nat.sub_zero, Nat.min_self, show min (n / 2) n = n / 2 by omega] at k1 k2 k3
          have hroom := hpt.1.1
          simp only [seqB_length] at hroom
          have hr2 : ¬ c = n / 2 := by omega
          have hr3 : c ≤ 9223372036854775807 := by have := hpt.1.2.1; unfold maxLen at this; simpa using this
          have heq := equal_same (sha (seqB n)) rfl
          have k1d : ∀ W, Below wr.heap.size wr W → Calls Tryd.prog 10 #[.slice (some ⟨W.heap.size, 0, none⟩) 1 1] (W.alloc (.cells #[.slice (some ⟨g, 0, none⟩) n c] 38)).drew fun e w' => e = .returned (.agg (B8 (sha (seqB n)))) ∧ Below W.heap.size W w' :=
            fun W hb => (k1 W.drew hb.drew).mono fun e w' hh => ⟨hh.1, (Below.refl _ W).drew.trans hh.2⟩
          have C1 := Lib.hid k1d
          have C2 := Lib.hid k2
          have C3 := Lib.hid k3
          have HBL := Lib.hid hbl
          clear k1 k1d k2 k3 q1 q2 hj hpt hbw hbl
          generalize sha (seqB n) = X at C1 C2 C3 heq
          have d1 : (n : Int) / 2 = ((n / 2 : Nat) : Int) := by omega
          have d2 : n / 2 ≤ n := by omega
          obtain ⟨m, hm⟩ : ∃ m, m = n / 2 := ⟨_, rfl⟩
          rw [← hm] at C3 hr2 d1 d2
          have d3 : (m : Int) ≤ (n : Int) := by omega
          have d4 : (m : Int) ≤ (c : Int) := by omega
          have d5 : (n : Int) ≤ (c : Int) := by omega
          have dq : IntKind.i64.wrap ((n : Int) / 2) = (m : Int) := by rw [d1, IntKind.wrap_i64]; omega
          have d0 : (0 : Int) ≤ (m : Int) := by omega
          clear hm d1
          go_region_held3 (fun _ => True) (trivial) (first
            | (with_reducible refine (C1.out _ (Below.refl _ _)).mono ?_; rintro e w1 ⟨rfl, hb1⟩)
            | (with_reducible refine (C2.out _ hb1).mono ?_; rintro e w2 ⟨rfl, hb2⟩; have hb2' := hb1.trans (hb2.mono hb1.size))
            | (with_reducible refine (C3.out _ hb2').mono ?_; rintro e w3 ⟨rfl, hb3⟩; have hb3' := hb2'.trans (hb3.mono hb2'.size))
            | (with_reducible refine (C2.out _ hb3').mono ?_; rintro e w4 ⟨rfl, hb4⟩; have hb4' := hb3'.trans (hb4.mono hb3'.size)))
          go_wp2_with fail
          go_meet
          case rel => exact ⟨rfl, hb4'⟩
      case rest =>
        obtain ⟨rfl, hb6⟩ := hcut
        have hbl6 := hbl.below hb6
        have HBL6 := Lib.hid hbl6
        have HT6 := Lib.hid (HT.out.below hbl6.1.2)
        clear hbl hbl6 hb6 HBL0
        go_upto_region 8 with fail
        go_cut [40] from 109 (fun v wr2 => v = .bool false ∧ Below wc.heap.size wc wr2)
        case first =>
          by_cases h35 : n < 35
          · have i2 : (n : Int) < 35 := by omega
            obtain ⟨A, c, rfl, l1, l2, l3⟩ := HBL6.out.2.1.src
            have r1 := root_any n (seqH n) wc A c (by omega) (seqH_length n) l1 l2 l3 HT6.out.1 HT6.out.2
            have r2 := fun W (hb : Below wc.heap.size wc W) => refroot_any n (seqH n) W A c (by omega) (seqH_length n) l1 l2 (fun hp => by
              obtain ⟨g, off, e, hg, h⟩ := l3 hp
              exact ⟨g, off, e, Nat.lt_of_lt_of_le hg hb.size, h.below hb hg⟩)
            have heq := equal_same (root n (seqH n)) (root_length n (seqH n))
            have R1 := Lib.hid r1
            have R2 := Lib.hid r2
            clear r1 r2 l1 l2 l3
            generalize root n (seqH n) = X at R1 R2 heq
            go_wp2_with fail
            refine R1.out.mono ?_
            rintro e w1 ⟨rfl, hb1⟩
            go_wp2_with fail
            refine (R2.out _ hb1).mono ?_
            rintro e w2 ⟨rfl, hb2⟩
            have hb3 := hb1.trans (hb2.mono hb1.size)
            go_wp2_with fail
            go_meet
            case rel => exact ⟨rfl, hb3⟩
          · have i2 : ¬ (n : Int) < 35 := by omega
            go_wp2_with fail
            go_meet
            case rel => exact ⟨rfl, Below.refl _ _⟩
        case rest =>
          obtain ⟨rfl, hb8⟩ := hcut
          have hbl8 := HBL6.out.below hb8
          have HBL8 := Lib.hid hbl8
          clear hbl8 hb8 HBL6 HT6
          have hu : Value.int .u8 (((n : Int) * 7 + (n : Int) / 3) % 256) = .int .u8 ((byteAt n).toNat : Int) := by
            refine congrArg (Value.int .u8) ?_
            show _ = (((UInt8.ofNat (n * 7 + n / 3)).toNat : Nat) : Int)
            rw [UInt8.toNat_ofNat']
            omega
          have HU := Lib.hid hu
          obtain ⟨q, hq⟩ : ∃ q, q = n * n := ⟨_, rfl⟩
          have hq1 : (n : Int) * (n : Int) = (q : Int) := by rw [hq]; simp
          have hq2 : q ≤ 40000 := by
            rw [hq]; exact Nat.le_trans (Nat.mul_le_mul (Nat.le_of_lt hlt) (Nat.le_of_lt hlt)) (by decide)
          have f1 : IntKind.i64.wrap ((n : Int) * (n : Int)) = (q : Int) := by rw [hq1, IntKind.wrap_i64]; omega
          have e1 : Value.int .u8 (n : Int) = .int .u8 ((UInt8.ofNat n).toNat : Int) := by
            refine congrArg (Value.int .u8) ?_
            rw [UInt8.toNat_ofNat']
            omega
          have e2 : Value.int .u8 ((q : Int) % 256) = .int .u8 ((UInt8.ofNat (n * n)).toNat : Int) := by
            refine congrArg (Value.int .u8) ?_
            rw [← hq, UInt8.toNat_ofNat']
            omega
          have hcs : ∀ x y : Value, x = .int .u8 ((UInt8.ofNat n).toNat : Int) → y = .int .u8 ((UInt8.ofNat (n * n)).toNat : Int) → (#[x, y, .int .u8 0, .int .u8 0, .int .u8 0, .int .u8 0, .int .u8 0, .int .u8 0, .int .u8 0, .int .u8 0, .int .u8 0, .int .u8 0, .int .u8 0, .int .u8 0, .int .u8 0, .int .u8 0, .int .u8 0, .int .u8 0, .int .u8 0, .int .u8 0, .int .u8 0, .int .u8 0, .int .u8 0, .int .u8 0, .int .u8 0, .int .u8 0, .int .u8 0, .int .u8 0, .int .u8 0, .int .u8 0, .int .u8 0, .int .u8 0] : Array Value) = B8 (hashN n) := by
            rintro _ _ rfl rfl
            rfl
          have HCS := Lib.hid hcs
          have E1 := Lib.hid e1
          have E2 := Lib.hid e2
          clear hu e1 e2 hq hq1 hcs
          go_upto_region 11 with (at_builtin; go_must (refine wpList_pushB rfl _ _ rfl n n u1 u2 rfl rfl (by omega) HBL8.out _ HU.out ?_; intro v5 w5 HB5))
          go_wp2_with (at_builtin; go_must (refine wpList_pushL rfl _ _ rfl (n + 1) n v5 u2 rfl rfl (by omega) HB5.out _ (HCS.out _ _ E1.out E2.out) ?_; intro v6 w6 HB6))
          refine ⟨⟨n + 1, by omega, by go_num, HB6.out, fun h => absurd h (by omega)⟩, ?_⟩
          simp [intOf]; omega
    · obtain rfl : n = 200 := by omega
      obtain ⟨g, c, rfl⟩ : ∃ g c, u1 = .slice (some ⟨g, 0, none⟩) 200 c := by
        obtain ⟨g, c, e⟩ := hbl.1.shape (by rw [seqB_length]; omega)
        exact ⟨g, c, by rw [e, seqB_length]⟩
      have hpt := hbl.part
      have hroom := hpt.1.1
      simp only [seqB_length] at hroom
      have hcm : c ≤ 9223372036854775807 := by have := hpt.1.2.1; unfold maxLen at this; simpa using this
      have hgood := good_range hpt.1 0 130 (by rw [seqB_length]; omega)
      rw [List.drop_zero, seqB_take 200 130 (by omega), Nat.sub_zero] at hgood
      have hpart : Part8 wr ⟨some ⟨g, 0, none⟩, seqB 130, c⟩ := ⟨hgood, fun e => by cases e⟩
      have hbw := hbl.1.2
      have HPART := Lib.hid hpart
      have HTR := Lib.hid (HT.out.below hbw)
      have HBW := Lib.hid hbw
      have r1 : (200 : Int) ≤ (c : Int) := by omega
      have r2 : 130 ≤ c := by omega
      clear hpt hgood hpart hbw hbl hn0 hn hlt HT
      rw [show ((200 : Nat) : Int) = 200 from rfl]
      go_wp2_with fail
      obtain ⟨wo, hwo⟩ : ∃ x, x = wr := ⟨_, rfl⟩
      subst hwo
      go_loopw [4] (fun i w2 => TurnI wo i w2) (fun i _ => 1043 - (intOf i).toNat)
      case atStart => exact ⟨0, by omega, rfl, Below.refl _ _⟩
      case round =>
        obtain ⟨k, hk, rfl, hbk⟩ := hrel
        have HBK := Lib.hid hbk
        clear hbk
        by_cases hlt : k < 149
        · obtain ⟨b, hb⟩ : ∃ b, b = 7 * k := ⟨_, rfl⟩
          rw [← hb]
          have i1 : (b : Int) < 1040 := by omega
          have hflip := flip_all k hlt
          rw [← hb] at hflip
          have HB := Lib.hid hb
          obtain ⟨i0, hi0, hz0, hz1, hz2⟩ := info_parts info5
          have hsrc : Src (wr.alloc (.cells #[] 5)) g 0 (seqB 130) := by
            obtain ⟨g', off, e, hg, hs⟩ := (HPART.out.1.below HBK.out).2.2 (by show 0 < (seqB 130).length; rw [seqB_length]; omega)
            cases e
            exact hs.below ((Below.refl _ _).alloc (Nat.le_refl _) _) hg
          have HSRC := Lib.hid hsrc
          clear hsrc hb
          go_upto_region 16 with (at_builtin; go_must (refine wpList_append_own _ rfl _ _ 38 rfl wr.heap.size 5 i0 (.int .u8 0) 1 1 Tryd.underlying38 hi0 hz0 hz1 hz2 rfl (by decide) _ 0 [] rfl (empty_own8 wr) ⟨g, 0, none⟩ 130 c (B8 (seqB 130)).toList rfl (by rw [Array.length_toList, B8_size, seqB_length]) (src_news HSRC.out) (byts_one _) (by unfold maxLen; omega) (by omega) (by simp) ?_; intro v' w3 hown hgrow _))
          have hq : AtQ wr (seqB 130) v' w3 := by
            have hgrow2 : (wr.alloc (.cells #[] 5)).grownBy w3 (some wr.heap.size) := hgrow
            refine ⟨by rw [seqB_length]; simpa using hown, ((Below.refl _ _).alloc (Nat.le_refl _) _).grown hgrow2 (by simp) (fun j e => by have := Option.some.inj e; omega)⟩
          obtain ⟨gc, cc, hv'⟩ := hq.shape (by rw [seqB_length]; omega)
          rw [seqB_length] at hv'
          subst hv'
          clear hown hgrow HSRC hi0 hz0 hz1 hz2
          obtain ⟨cur, hgc, hlies, hc1, hc2, hcs, htake⟩ := hq.block
          have hb3 := hq.2
          have HB3 := Lib.hid hb3
          obtain ⟨j, hj⟩ : ∃ j, j = b / 8 := ⟨_, rfl⟩
          obtain ⟨r, hr⟩ : ∃ r, r = b % 8 := ⟨_, rfl⟩
          have j1 : j < 130 := by omega
          have rl : r < 8 := by omega
          have dj : IntKind.i64.wrap ((b : Int) / 8) = (j : Int) := by rw [IntKind.wrap_i64]; omega
          have dr : IntKind.i64.wrap ((b : Int) % 8) = (r : Int) := by rw [IntKind.wrap_i64]; omega
          have dr2 : IntKind.u64.wrap (r : Int) = (r : Int) := by rw [IntKind.wrap_u64]; omega
          have hcell : w3.cell? ⟨gc, j, none⟩ = some (.int .u8 ((seqB 130).getD j 0).toNat) := by
            have := hq.byts.1 j (by rw [seqB_length]; omega)
            rwa [Nat.zero_add] at this
          have hfree : w3.frozen? ⟨gc, j, none⟩ = false := hlies.free j
          have hx := turn_bit ((seqB 130).getD j 0) r rl
          obtain ⟨x, hxx⟩ : ∃ x, x = (seqB 130).getD j 0 := ⟨_, rfl⟩
          obtain ⟨y, hy⟩ : ∃ y, y = x ^^^ UInt8.ofNat (2 ^ r) := ⟨_, rfl⟩
          rw [← hxx] at hcell hx
          rw [← hy] at hx
          have hyb : x ^^^ UInt8.ofNat (2 ^ (b % 8)) = y := by rw [hy, hr]
          have hfl : flipB b = (seqB 130).set j y := by unfold flipB; rw [← hj, ← hr, ← hxx, ← hy]
          have HFL := Lib.hid hfl
          have HX := Lib.hid (And.intro hgc (And.intro hlies (And.intro hc1 (And.intro hc2 (And.intro hcs htake)))))
          clear hq hgc hlies hc2 hcs htake hb3 hxx hy hfl hj hr
          have j2 : (j : Int) < 130 := by omega
          have j3 : (0 : Int) ≤ (j : Int) := by omega
          have rl2 : (r : Int) < 8 := by omega
          have hval : Value.int .u8 (bits .xor .u8 (x.toNat : Int) ((2 : Int) ^ (b % 8) % 256)) = .int .u8 (y.toNat : Int) := by
            rw [turn_bit2 x (b % 8) (Nat.mod_lt _ (by omega)), hyb]
          have HVAL := Lib.hid hval
          clear hval hyb
          go_upto_region 17 with fail
          rw [HVAL.out]
          have hb4 : Below wr.heap.size wr (w3.setCell ⟨gc, j, none⟩ (.int .u8 y.toNat)) := HB3.out.setCell HX.out.1 _
          have hs4 : Src (w3.setCell ⟨gc, j, none⟩ (.int .u8 y.toNat)) gc 0 (flipB b) := by
            rw [HFL.out]
            exact flip_src HX.out.2.1 HX.out.2.2.2.2.2 (by rw [seqB_length]; omega)
          have hlt4 : gc < (w3.setCell ⟨gc, j, none⟩ (.int .u8 y.toNat)).heap.size := by rw [size_set]; exact HX.out.2.1.lt
          generalize w3.setCell ⟨gc, j, none⟩ (.int .u8 y.toNat) = w4 at hb4 hs4 hlt4 ⊢
          have hlen : (flipB b).length = 130 := by rw [HFL.out, List.length_set, seqB_length]
          have hb04 : Below wo.heap.size wo w4 := chain0 HBK.out hb4
          have hp : Part8 w4 ⟨some ⟨gc, 0, none⟩, flipB b, cc⟩ := ⟨⟨by show (flipB b).length ≤ cc; omega, HX.out.2.2.2.1, fun _ => ⟨gc, 0, rfl, hlt4, hs4⟩⟩, fun e => by cases e⟩
          have hp2 : Part8 w4 ⟨some ⟨g, 0, none⟩, seqB 130, c⟩ := ⟨HPART.out.1.below hb04, HPART.out.2⟩
          have ht := HTR.out.below hb04
          have x1 : (flipB b).length ≤ 1000000 := by omega
          have x2 : (seqB 130).length ≤ 1000000 := by rw [seqB_length]; omega
          have k1 := of_part hp ht x1
          have k2 := one_part hp x1
          have ka := of_at hp ht x1
          have kb := of_at hp2 ht x2
          have kb1 := of_part hp2 ht x2
          simp only [Part.val, hlen, seqB_length] at k1 k2 ka kb kb1
          have heq := equal_same (sha (flipB b)) rfl
          have heq2 := equal_other (sha (flipB b)) (sha (seqB 130)) rfl rfl hflip
          clear hflip hs4 hlt4 hp hp2 ht x1 x2 HFL HX HB3 HVAL hx hcell hfree hlen hb4
          generalize sha (flipB b) = X at k1 k2 ka heq heq2
          generalize sha (seqB 130) = Y at kb kb1 heq2
          have k1d : ∀ W, Below w4.heap.size w4 W → Calls Tryd.prog 10 #[.slice (some ⟨W.heap.size, 0, none⟩) 1 1] (W.alloc (.cells #[.slice (some ⟨gc, 0, none⟩) 130 cc] 38)).drew fun e w' => e = .returned (.agg (B8 X)) ∧ Below W.heap.size W w' :=
            fun W hb => (k1 W.drew hb.drew).mono fun e w' hh => ⟨hh.1, (Below.refl _ W).drew.trans hh.2⟩
          have C1 := Lib.hid k1d
          have C2 := Lib.hid k2
          have D1 := Lib.hid k1
          have D2 : Hid (∀ W, Below w4.heap.size w4 W → Calls Tryd.prog 10 #[.slice (some ⟨W.heap.size, 0, none⟩) 1 1] ((W.alloc (.cells #[.slice (some ⟨gc, 0, none⟩) 130 cc] 38)).alloc (.cells #[.slice (some ⟨g, 0, none⟩) 130 c] 38)) fun e w' => e = .returned (.agg (B8 X)) ∧ Below ((W.alloc (.cells #[.slice (some ⟨gc, 0, none⟩) 130 cc] 38)).alloc (.cells #[.slice (some ⟨g, 0, none⟩) 130 c] 38)).heap.size ((W.alloc (.cells #[.slice (some ⟨gc, 0, none⟩) 130 cc] 38)).alloc (.cells #[.slice (some ⟨g, 0, none⟩) 130 c] 38)) w') :=
            Lib.hid fun W hb => ka _ W.heap.size ((hb.alloc hb.size _).alloc (hb.alloc hb.size _).size _) ((Below.heap_alloc _ _ _ (by simp)).trans (Go.heap_alloc_new W _))
          have D3 : Hid (∀ W, Below w4.heap.size w4 W → Calls Tryd.prog 10 #[.slice (some ⟨W.heap.size + 1, 0, none⟩) 1 1] ((W.alloc (.cells #[.slice (some ⟨g, 0, none⟩) 130 c] 38)).alloc (.cells #[.slice (some ⟨gc, 0, none⟩) 130 cc] 38)) fun e w' => e = .returned (.agg (B8 X)) ∧ Below ((W.alloc (.cells #[.slice (some ⟨g, 0, none⟩) 130 c] 38)).alloc (.cells #[.slice (some ⟨gc, 0, none⟩) 130 cc] 38)).heap.size ((W.alloc (.cells #[.slice (some ⟨g, 0, none⟩) 130 c] 38)).alloc (.cells #[.slice (some ⟨gc, 0, none⟩) 130 cc] 38)) w') :=
            Lib.hid fun W hb => ka _ (W.heap.size + 1) ((hb.alloc hb.size _).alloc (hb.alloc hb.size _).size _) (by have := Go.heap_alloc_new (W.alloc (.cells #[.slice (some ⟨g, 0, none⟩) 130 c] 38)) (.cells #[.slice (some ⟨gc, 0, none⟩) 130 cc] 38); rwa [World.size_alloc] at this)
          have E1 := Lib.hid kb1
          have E2 : Hid (∀ W V, Below w4.heap.size w4 W → Below ((W.alloc (.cells #[.slice (some ⟨gc, 0, none⟩) 130 cc] 38)).alloc (.cells #[.slice (some ⟨g, 0, none⟩) 130 c] 38)).heap.size ((W.alloc (.cells #[.slice (some ⟨gc, 0, none⟩) 130 cc] 38)).alloc (.cells #[.slice (some ⟨g, 0, none⟩) 130 c] 38)) V → Calls Tryd.prog 10 #[.slice (some ⟨W.heap.size + 1, 0, none⟩) 1 1] V fun e w' => e = .returned (.agg (B8 Y)) ∧ Below V.heap.size V w') :=
            Lib.hid fun W V hb hv => kb V (W.heap.size + 1) (chain2 hb hv) ((hv.block _ (by simp)).trans (by have := Go.heap_alloc_new (W.alloc (.cells #[.slice (some ⟨gc, 0, none⟩) 130 cc] 38)) (.cells #[.slice (some ⟨g, 0, none⟩) 130 c] 38); rwa [World.size_alloc] at this))
          have E3 : Hid (∀ W V, Below w4.heap.size w4 W → Below ((W.alloc (.cells #[.slice (some ⟨g, 0, none⟩) 130 c] 38)).alloc (.cells #[.slice (some ⟨gc, 0, none⟩) 130 cc] 38)).heap.size ((W.alloc (.cells #[.slice (some ⟨g, 0, none⟩) 130 c] 38)).alloc (.cells #[.slice (some ⟨gc, 0, none⟩) 130 cc] 38)) V → Calls Tryd.prog 10 #[.slice (some ⟨W.heap.size, 0, none⟩) 1 1] V fun e w' => e = .returned (.agg (B8 Y)) ∧ Below V.heap.size V w') :=
            Lib.hid fun W V hb hv => kb V W.heap.size (chain2 hb hv) ((hv.block _ (by simp; omega)).trans ((Below.heap_alloc _ _ _ (by simp)).trans (Go.heap_alloc_new W _)))
          clear k1 k1d k2 ka kb kb1
          have c130 : (130 : Int) ≤ (c : Int) := by omega
          go_cut [97] from 109 (fun v wr2 => v = .bool false ∧ Below w4.heap.size w4 wr2)
          case first =>
            go_region_held3 (fun _ => True) (trivial) (first
              | (with_reducible refine (C1.out _ (Below.refl _ _)).mono ?_; rintro e w5 ⟨rfl, hb5⟩)
              | (with_reducible refine (C2.out _ hb5).mono ?_; rintro e w6 ⟨rfl, hb6⟩; have hb6' := chain0 hb5 hb6)
              | (with_reducible refine (D1.out _ hb6').mono ?_; rintro e w7 ⟨rfl, hb7⟩; have hb7' := chain0 hb6' hb7)
              | (with_reducible refine (D2.out _ hb6').mono ?_; rintro e w7 ⟨rfl, hb7⟩)
              | (with_reducible refine (D3.out _ hb6').mono ?_; rintro e w7 ⟨rfl, hb7⟩)
              | (with_reducible refine (E1.out _ hb7').mono ?_; rintro e w8 ⟨rfl, hb8⟩; have hb8' := chain0 hb7' hb8)
              | (with_reducible refine (E2.out _ _ hb6' hb7).mono ?_; rintro e w8 ⟨rfl, hb8⟩; have hb8' := chain0 (chain2 hb6' hb7) hb8)
              | (with_reducible refine (E3.out _ _ hb6' hb7).mono ?_; rintro e w8 ⟨rfl, hb8⟩; have hb8' := chain0 (chain2 hb6' hb7) hb8))
            all_goals
              go_wp2_with fail
              go_meet
              case rel => exact ⟨rfl, hb8'⟩
          case rest =>
            obtain ⟨rfl, hb9⟩ := hcut
            have hbe := chain0 hb04 hb9
            have HBE := Lib.hid hbe
            clear hbe hb9 hb04
            go_wp2_with fail
            refine ⟨⟨k + 1, by omega, by have := HB.out; refine congrArg (Value.int .i64) ?_; omega, HBE.out⟩, ?_⟩
            simp [intOf]; omega
        · obtain rfl : k = 149 := by omega
          rw [show ((7 * 149 : Nat) : Int) = 1043 from rfl]
          go_wp2_with fail
          refine (known_any wr).mono ?_
          rintro e w2 ⟨rfl, hb2⟩
          have HB2 := Lib.hid (chain0 HBK.out hb2)
          clear hb2 HBK
          obtain ⟨cap, w3, kc, hb3, hg3⟩ := text_conv w2
          have ht3 := HTR.out.below (chain0 HB2.out hb3)
          have k1 := of_bytes w3 _ textB cap (by rw [text_length]; omega) hg3 ht3.1 ht3.2
          rw [text_length] at k1
          have K1 := Lib.hid k1
          have HB3 := Lib.hid (chain0 HB2.out hb3)
          clear k1 ht3 hg3 hb3
          go_wp2_with fail
          refine K1.out.mono ?_
          rintro e w4 ⟨rfl, hb4⟩
          have HB4 := Lib.hid (chain0 HB3.out hb4)
          clear hb4 K1 kc
          go_wp2_with fail
          refine (hex_pub w4).mono ?_
          rintro e w5 ⟨rfl, hb5⟩
          have HB5 := Lib.hid (chain0 HB4.out hb5)
          clear hb5
          go_wp2_with fail
          have ht5 := HTR.out.below HB5.out
          refine (awake_any w5 ht5.1 ht5.2).mono ?_
          rintro e w6 ⟨rfl, hb6⟩
          have hb7 := chain0 HB5.out hb6
          have HB7 := Lib.hid (chain0 HBW.out hb7)
          clear hb6 hb7 ht5
          go_wp2_with fail
          go_ret
          exact ⟨rfl, HB7.out⟩
end Go.Proofs.YtccfdobogbiomaaDoor
