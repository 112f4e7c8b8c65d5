/-
  The document's own hash, of parts, one behind the other: at most a million bytes in all.
-/
import Derived.Test.YtgempifedhiknaaGreatDoorRefNil
import Derived.Deep.DeepMust
namespace Go.Proofs.YtgempifedhiknaaGreatDoor
set_option maxRecDepth 100000
open Go.RowKit Sha

/-- Bytes that were joined: nil while there are none. -/
def AtA (w0 : World) (l : List UInt8) (v : Value) (w : World) : Prop := AtQ w0 l v w ∧ (l = [] → v = .slice none 0 0)
theorem src_news {w : World} {g off : Nat} {l : List UInt8} (h : Src w g off l) : ∀ j u, (B8 l).toList[j]? = some u → w.cell? ((⟨g, off, none⟩ : Addr).add j) = some u := byts_news h
theorem wpList_more {w0 w : World} {ops : Array Oper} {rest : List Oper} {o : Oper} {a : Act} {Q : Exit → Act → World → Prop} (hgd : o.guard = none) (sx x : Operand)
    (ho : o.op = .call { callee := .builtin .append, args := #[sx, x], argTypes := #[22, 22] }) (l : List UInt8) (v : Value) (p : Part)
    (hs : a.eval sx = v) (hx : a.eval x = .slice p.at_ p.xs.length p.cap) (hp : Good w p) (hneat : p.at_ = none → p.cap = 0) (hl : l.length + p.xs.length ≤ 2000000) (h : AtA w0 l v w)
    (k : ∀ v' w', Hid (AtA w0 (l ++ p.xs) v' w') → wpList Tryz.prog ops Q rest (a.put o.dst v') w') : wpList Tryz.prog ops Q (o :: rest) a w := by
  obtain ⟨i0, hi0, hz0, hz1, hz2⟩ := info_parts info5
  obtain ⟨pa, xs, pc⟩ := p
  obtain ⟨g1, g2, g3⟩ := hp
  simp only at hx hneat hl g1 g2 g3 k
  cases pa with
  | none =>
    have hc := hneat rfl
    have hx0 : xs = [] := List.eq_nil_of_length_eq_zero (by omega)
    subst hx0 hc
    refine wpList_append_own_none hgd sx x 22 ho w0.heap.size 5 i0 1 Tryz.underlying22 hi0 v l.length (B8 l).toList hs h.1.1 hx ?_
    exact k v w (by rw [List.append_nil]; exact h)
  | some ad =>
    refine wpList_append_own _ hgd sx x 22 ho w0.heap.size 5 i0 (.int .u8 0) 1 1 Tryz.underlying22 hi0 hz0 hz1 hz2 rfl (by decide) v l.length (B8 l).toList hs h.1.1 ad xs.length pc (B8 xs).toList hx (by rw [Array.length_toList, B8_size, Nat.mul_one]) ?_ (byts_one _) (by unfold maxLen; omega) (by omega) h.1.2.size ?_
    · by_cases hp : 0 < xs.length
      · obtain ⟨g, off, e, _, hsrc⟩ := g3 hp
        cases e
        exact src_news hsrc
      · have hx0 : xs = [] := List.eq_nil_of_length_eq_zero (by omega)
        subst hx0
        intro j u hu
        simp [B8] at hu
    · intro v' w' hown hgrow hnil
      refine k v' w' ⟨⟨?_, ?_⟩, ?_⟩
      · have e : (B8 (l ++ xs)).toList = (B8 l).toList ++ (B8 xs).toList := by simp [B8]
        rw [e, List.length_append]; exact hown
      · exact h.1.2.grown hgrow h.1.2.size (fun j e => (h.1.1.lt j e).1)
      · intro e
        obtain ⟨e1, e2⟩ := List.append_eq_nil_iff.1 e
        exact hnil.2 ⟨h.2 e1, by rw [e2]; rfl⟩

/-- The hash's bytes, as many as are written; zeros behind them. -/
def outAt (s : Eight) (i : Nat) : List UInt8 := s.bytes.take i ++ List.replicate (32 - i) 0
theorem bytes_len (s : Eight) : s.bytes.length = 32 := rfl
theorem outAt_len (s : Eight) (i : Nat) (h : i ≤ 32) : (outAt s i).length = 32 := by
  unfold outAt; rw [List.length_append, List.length_take, List.length_replicate, bytes_len]; omega
theorem outAt_set (s : Eight) (i : Nat) (h : i < 32) (b : UInt8) (hb : b = s.bytes.getD i 0) : (outAt s i).set i b = outAt s (i + 1) := by
  unfold outAt
  have hl := bytes_len s
  rw [List.set_append_right _ _ (by rw [List.length_take]; omega), List.length_take, show i - min i s.bytes.length = 0 by omega, show 32 - i = (32 - (i + 1)) + 1 by omega, List.replicate_succ, List.set_cons_zero,
    List.take_succ_eq_append_getElem (by omega), List.append_assoc, hb, List.getD_eq_getElem?_getD, List.getElem?_eq_getElem (by omega)]
  rfl
theorem byte_q (s : Eight) (q : Nat) (hq : q < 8) : s.bytes.getD (4 * q) 0 = UInt8.ofNat ((s.list.getD q 0).toNat / 2 ^ 24) ∧ s.bytes.getD (4 * q + 1) 0 = UInt8.ofNat ((s.list.getD q 0).toNat / 2 ^ 16) ∧
    s.bytes.getD (4 * q + 2) 0 = UInt8.ofNat ((s.list.getD q 0).toNat / 2 ^ 8) ∧ s.bytes.getD (4 * q + 3) 0 = UInt8.ofNat (s.list.getD q 0).toNat := by
  match q, hq with
  | 0, _ => exact ⟨rfl, rfl, rfl, rfl⟩
  | 1, _ => exact ⟨rfl, rfl, rfl, rfl⟩
  | 2, _ => exact ⟨rfl, rfl, rfl, rfl⟩
  | 3, _ => exact ⟨rfl, rfl, rfl, rfl⟩
  | 4, _ => exact ⟨rfl, rfl, rfl, rfl⟩
  | 5, _ => exact ⟨rfl, rfl, rfl, rfl⟩
  | 6, _ => exact ⟨rfl, rfl, rfl, rfl⟩
  | 7, _ => exact ⟨rfl, rfl, rfl, rfl⟩

/-- Whether there are bytes or not: they are padded. -/
theorem padded_all (l : List UInt8) (hl : l.length ≤ 1000000) (W0 w : World) (v : Value) (h : AtA W0 l v w) : Calls Tryz.prog 67 #[v] w (Padded w l) := by
  by_cases hp : 0 < l.length
  · obtain ⟨g, c, rfl⟩ := h.1.shape hp
    exact padded_any l hl hp w g 0 c h.1.room.2.2 h.1.byts.1
  · have hx0 : l = [] := List.eq_nil_of_length_eq_zero (by omega)
    subst hx0
    rw [h.2 rfl]
    exact padded_nil w

/-- While rows are gone through: the numbers, the table, the bytes. -/
def RowsI (W : World) (l : List UInt8) (gk gb : Nat) (h : Value) (i : Value) (wr : World) : Prop :=
  ∃ g c j k, h = .slice (some ⟨g, 0, none⟩) 8 c ∧ i = .int .i64 (k : Nat) ∧ k = 64 * j ∧ k ≤ (pad l).length ∧ Nums wr g 0 (fold j Sha.start (pad l)).list ∧ g < wr.heap.size ∧ W.heap.size ≤ g ∧ Below W.heap.size W wr ∧ Nums wr gk 0 cubes ∧ gk < wr.heap.size ∧ Byts wr gb 0 (pad l) ∧ gb < wr.heap.size
theorem pad_whole (l : List UInt8) : (pad l).length = 64 * ((pad l).length / 64) := by
  have h := gap_end l.length
  have : (pad l).length = l.length + 1 + gap l.length + 8 := by rw [← pad_is, List.length_append, zpad_length, be_len _ 8 (by omega)]
  omega
theorem pad_short (l : List UInt8) (h : l.length ≤ 1000000) : (pad l).length ≤ 1000072 := by
  have : (pad l).length = l.length + 1 + gap l.length + 8 := by rw [← pad_is, List.length_append, zpad_length, be_len _ 8 (by omega)]
  have hg : gap l.length ≤ 63 := by unfold gap; omega
  omega
theorem Byts.cut {w : World} {g : Nat} {l : List UInt8} (h : Byts w g 0 l) (i n : Nat) : Byts w g i ((l.drop i).take n) := fun j hj => by
  rw [List.length_take, List.length_drop] at hj
  have := h (i + j) (by omega)
  rw [Nat.zero_add] at this
  rw [this]
  simp only [List.getD_eq_getElem?_getD]
  rw [List.getElem?_take_of_lt (by omega), List.getElem?_drop]
/-- While the bytes are written. -/
def OutI (w : World) (s : Eight) (gh M : Nat) (i : Value) (wr : World) : Prop :=
  ∃ k : Nat, k ≤ 32 ∧ i = .int .i64 k ∧ Lies wr M (B8 (outAt s k)) 24 ∧ Nums wr gh 0 s.list ∧ Lies wr w.heap.size z32 24 ∧ Below w.heap.size w wr
theorem OutI.next {w : World} {s : Eight} {gh M k : Nat} {wr : World} (h1 : Lies wr M (B8 (outAt s k)) 24) (h2 : Nums wr gh 0 s.list) (h3 : Lies wr w.heap.size z32 24) (h4 : Below w.heap.size w wr) (hM : w.heap.size < M) (hg : gh ≠ M)
    (hk : k < 32) (b : UInt8) (hb : b = s.bytes.getD k 0) {x : Int} (hx : x = (k : Int) + 1) : OutI w s gh M (.int .i64 x) (wr.setCell ⟨M, k, none⟩ (.int .u8 b.toNat)) := by
  refine ⟨k + 1, hk, by rw [hx]; rfl, ?_, ?_, h3.other _ _ (by show w.heap.size ≠ M; omega), h4.setCell (by show w.heap.size ≤ M; omega) _⟩
  · have := h1.set k (.int .u8 b.toNat)
    rw [B8_set, outAt_set s k hk b hb] at this
    exact this
  · intro j hj
    have e : gh ≠ (⟨M, k, none⟩ : Addr).block := hg
    rw [World.cell?_setCell_other]
    · exact h2 j hj
    · intro e2; injection e2 with e2; exact hg e2.symm

set_option maxRecDepth 100000 in
set_option maxHeartbeats 4000000 in
theorem refof_any (ps : List Part) (w : World) (v : Option Addr) (cap : Nat) (hm : ps.length ≤ maxLen) (hgood : ∀ p, p ∈ ps → Good w p) (hneat : ∀ p, p ∈ ps → p.at_ = none → p.cap = 0)
    (hv : 0 < ps.length → ∃ g off, v = some ⟨g, off, none⟩ ∧ g < w.heap.size ∧ PSrc w g off ps) (hlen : (joined ps).length ≤ 1000000) :
    Calls Tryz.prog 33 #[.slice v ps.length cap] w fun e w' => e = .returned (.agg (B8 (sha (joined ps)))) ∧ Below w.heap.size w w' := by
  have HG := Lib.hid hgood
  have HN := Lib.hid hneat
  have HV := Lib.hid hv
  have HL := Lib.hid hlen
  clear hgood hneat hv hlen
  go_enter Tryz.func33, Tryz.ntmps33
  go_wp2_with fail
  have hz0 : Lies (w.alloc (.cells z32 24)) w.heap.size z32 24 := Lies.new w _ _
  have hb0 : Below w.heap.size w (w.alloc (.cells z32 24)) := (Below.refl _ _).alloc (Nat.le_refl _) _
  change Code.wp _ _ _ _ (w.alloc (.cells z32 24))
  generalize w.alloc (.cells z32 24) = W0 at hz0 hb0 ⊢
  have HZ := Lib.hid hz0
  have HB := Lib.hid hb0
  clear hz0 hb0
  go_loopw [3, 4] (fun v i wr => ∃ k : Nat, k ≤ ps.length ∧ i = .int .i64 k ∧ AtA W0 (joined (ps.take k)) v wr) (fun _ i _ => ps.length - (intOf i).toNat)
  case atStart => exact ⟨0, Nat.zero_le _, rfl, ⟨World.ownsRow_nil _ _ _ _, Below.refl _ _⟩, fun _ => rfl⟩
  case round =>
    obtain ⟨k, hk, rfl, hat⟩ := hrel
    have HA := Lib.hid hat
    clear hat
    by_cases hlt : k < ps.length
    · obtain ⟨g, off, rfl, hgw, hps⟩ := HV.out (by omega)
      obtain ⟨p, hp⟩ : ∃ p, p = ps.getD k ⟨none, [], 0⟩ := ⟨_, rfl⟩
      have hbw : Below w.heap.size w wr := HB.out.trans (HA.out.1.2.mono HB.out.size)
      have hcell : wr.cell? ⟨g, off + k, none⟩ = some (.slice p.at_ p.xs.length p.cap) := by
        rw [hp]
        exact (hbw.cell (p := ⟨g, off + k, none⟩) hgw).trans (hps k hlt)
      have hmem : p ∈ ps := by rw [hp]; simp [hlt]
      have hgp := (HG.out p hmem).below hbw
      have hne := HN.out p hmem
      have hsucc : joined (ps.take (k + 1)) = joined (ps.take k) ++ p.xs := by rw [hp]; exact joined_take_succ ps k hlt
      have hll : (joined (ps.take k)).length + p.xs.length ≤ 2000000 := by
        have h1 := joined_take_le ps (k + 1)
        rw [hsucc, List.length_append] at h1
        have := HL.out
        omega
      have HGP := Lib.hid hgp
      have HNE := Lib.hid hne
      have HLL := Lib.hid hll
      have HSU := Lib.hid hsucc
      have m1 : (k : Int) < (ps.length : Int) := by omega
      have hkm : k < 9223372036854775807 := by unfold maxLen at hm; omega
      clear hgp hne hll hsucc hmem hp hps hbw
      go_wp2_with (at_builtin; go_must (refine wpList_more rfl _ _ rfl (joined (ps.take k)) _ p rfl rfl HGP.out HNE.out HLL.out HA.out ?_; intro v5 w5 HR5; rw [← HSU.out] at HR5))
      refine ⟨⟨k + 1, by omega, by go_num, HR5.out⟩, ?_⟩
      simp [intOf]; omega
    · have hkp : k = ps.length := by omega
      have hat := HA.out
      rw [hkp, List.take_length] at hat
      have HX := Lib.hid hat
      have hd : decide (k < ps.length) = false := by simp; omega
      clear hat HA hlt hk hkp
      go_wp2_with fail
      refine (numbers_any wr).mono ?_
      rintro e w2 ⟨rfl, hw2⟩
      have hA2 : AtA W0 (joined ps) u3 w2 := by
        rw [hw2]; exact ⟨(HX.out.1.alloc _).alloc _, HX.out.2⟩
      have n1 : Nums w2 wr.heap.size 0 Sha.start.list := by
        rw [hw2]; exact lies_nums ((Lies.new wr _ _).alloc _)
      have n2 : Nums w2 (wr.heap.size + 1) 0 cubes := by
        rw [hw2]
        have := Lies.new (wr.alloc (.cells (B32 Sha.start.list) 88)) (B32 cubes) 88
        rw [World.size_alloc] at this
        exact lies_nums this
      have z2 : w2.heap.size = wr.heap.size + 1 + 1 := by rw [hw2]; simp
      have g1 : W0.heap.size ≤ wr.heap.size := HX.out.1.2.size
      generalize wr.heap.size = gh at n1 n2 z2 g1 ⊢
      obtain ⟨gk, hgk⟩ : ∃ gk, gk = gh + 1 := ⟨_, rfl⟩
      rw [← hgk] at n2 z2 ⊢
      have HA2 := Lib.hid hA2
      have N1 := Lib.hid n1
      have N2 := Lib.hid n2
      have Z2 := Lib.hid (And.intro z2 hgk)
      clear hw2 hA2 n1 n2 z2 hgk HX
      go_wp2_with fail
      refine (padded_all (joined ps) HL.out W0 w2 u3 HA2.out).mono ?_
      rintro e w3 ⟨gb, cb, rfl, p1, p2, p3, p4, p5, p6⟩
      have hps := pad_short (joined ps) HL.out
      have hpw := pad_whole (joined ps)
      have hri : RowsI W0 (joined ps) gk gb (.slice (some ⟨gh, 0, none⟩) 8 8) (.int .i64 0) w3 := by
        have hz := Z2.out
        have hs3 := p6.size
        exact ⟨gh, 8, 0, 0, rfl, rfl, rfl, Nat.zero_le _, N1.out.below p6 (by omega), by omega, g1, HA2.out.1.2.trans (p6.mono HA2.out.1.2.size), N2.out.below p6 (by omega), by omega, p3, p5⟩
      obtain ⟨PL, hPL⟩ : ∃ PL, PL = (pad (joined ps)).length := ⟨_, rfl⟩
      rw [← hPL] at p1 hps hpw ⊢
      have HRI := Lib.hid hri
      have HPL := Lib.hid hPL
      have HPW := Lib.hid hpw
      clear hri hPL hpw p3 p4 p5 p6 HA2 N1 N2 Z2 g1
      unfold maxLen at p2
      go_wp2_with fail
      go_loopw [5, 7] (fun h i wr => RowsI W0 (joined ps) gk gb h i wr) (fun _ i _ => PL - (intOf i).toNat)
      case atStart => exact HRI.out
      case round =>
        obtain ⟨g, c, j, i, rfl, rfl, hij, hil, r1, r2, r3, r4, r5, r6, r7, r8⟩ := hrel
        rw [← HPL.out] at hil
        clear HRI
        by_cases hlt : i < PL
        · have h64 : i + 64 ≤ PL := by have := HPW.out; omega
          have m1 : (i : Int) < (PL : Int) := by omega
          have m2 : (i : Int) + 64 ≤ (cb : Int) := by omega
          have m3 : ((i : Int) + 64).toNat = i + 64 := by omega
          have m4 : ¬ cb = i := by omega
          have hfs : mix (fold j Sha.start (pad (joined ps))) (((pad (joined ps)).drop i).take 64) = fold (j + 1) Sha.start (pad (joined ps)) := by rw [hij]; exact (fold_succ j _ _).symm
          have hrow := row_any (fold j Sha.start (pad (joined ps))) (((pad (joined ps)).drop i).take 64) (by rw [List.length_take, List.length_drop, ← HPL.out]; omega) _ g 0 c gk 0 64 gb i (cb - i) r2 r6 r8 r1 r5 (r7.cut i 64)
          rw [hfs] at hrow
          have HROW := Lib.hid hrow
          have R := Lib.hid (And.intro r3 (And.intro r4 (And.intro r5 (And.intro r6 (And.intro r7 r8)))))
          have HIJ := Lib.hid hij
          clear hrow hfs hij r1 r2 r3 r4 r5 r6 r7 r8 hil
          go_wp2_with fail
          refine HROW.out.mono ?_
          rintro e w4 ⟨n4, c4, rfl, q1, q2, q3⟩
          obtain ⟨r3, r4, r5, r6, r7, r8⟩ := R.out
          have hn4 : n4 < w4.heap.size := World.block_lt_of_cell? w4 ⟨n4, 0 + 0, none⟩ (q1 0 (by show 0 < 8; omega))
          have hs4 := q3.size
          have hrs := r4.size
          have HNX : Hid (RowsI W0 (joined ps) gk gb (.slice (some ⟨n4, 0, none⟩) 8 c4) (.int .i64 ((i : Int) + 64)) w4) := Lib.hid
            ⟨n4, c4, j + 1, i + 64, rfl, rfl, by have := HIJ.out; omega, by rw [← HPL.out]; exact h64, q1, hn4, by omega, r4.trans (q3.mono hrs), r5.below q3 r6, by omega, r7.below q3 r8, by omega⟩
          clear q1 q2 q3 r3 r4 r5 r6 r7 r8 hn4 hs4 hrs HROW R
          go_wp2_with fail
          refine ⟨HNX.out, ?_⟩
          simp [intOf]; omega
        · have hiP : i = PL := by omega
          have hj64 : j = PL / 64 := by have := HPW.out; omega
          obtain ⟨s, hs⟩ : ∃ s, s = fold j Sha.start (pad (joined ps)) := ⟨_, rfl⟩
          have hsha : sha (joined ps) = s.bytes := by rw [hs, hj64, HPL.out]; rfl
          rw [← hs] at r1
          have HSHA := Lib.hid hsha
          have R1 := Lib.hid r1
          have R := Lib.hid (And.intro r2 (And.intro r3 r4))
          have hd : decide (i < PL) = false := by simp; omega
          clear hsha r1 r2 r3 r4 r5 r6 r7 r8 hiP hj64 hij hil hs
          go_wp2_with fail
          have hM : w.heap.size < wr.heap.size := Nat.lt_of_lt_of_le HZ.out.lt R.out.2.2.size
          have hgM : g ≠ wr.heap.size := by have := R.out.1; omega
          have hoi : OutI w s g wr.heap.size (.int .i64 0) (wr.alloc (.cells z32 24)) := by
            refine ⟨0, Nat.zero_le _, rfl, Lies.new wr _ _, fun j hj => ?_, (HZ.out.below R.out.2.2 HZ.out.lt).alloc _, ?_⟩
            · exact (World.cell?_alloc_lt _ _ _ R.out.1).trans (R1.out j hj)
            · exact (HB.out.trans (R.out.2.2.mono HB.out.size)).alloc (by omega) _
          change Code.wp _ _ _ _ (wr.alloc (.cells z32 24))
          have HOI := Lib.hid hoi
          have HMG := Lib.hid (And.intro hM hgM)
          clear hoi hM hgM R R1
          generalize wr.alloc (.cells z32 24) = w5 at HOI ⊢
          generalize wr.heap.size = M at HOI HMG ⊢
          go_wp2_with fail
          go_loopw [9] (fun i wr => OutI w s g M i wr) (fun i _ => 32 - (intOf i).toNat)
          case atStart => exact HOI.out
          case round =>
            obtain ⟨k, hk, rfl, h1, h2, h3, h4⟩ := hrel
            clear HOI
            by_cases hlt : k < 32
            · obtain ⟨q, hq4⟩ : ∃ q, q = k / 4 := ⟨_, rfl⟩
              have hq : q < 8 := by omega
              have e1 : (k : Int) / 4 = (q : Int) := by omega
              have cx := h2 q hq
              rw [Nat.zero_add] at cx
              obtain ⟨x, hxq⟩ : ∃ x, x = s.list.getD q 0 := ⟨_, rfl⟩
              rw [← hxq] at cx
              have c0 := h1.cell k (B8_get _ k (by rw [outAt_len _ _ hk]; exact hlt))
              generalize (outAt s k).getD k 0 = o0 at c0
              have f0 : wr.frozen? ⟨M, k, none⟩ = false := h1.free _
              have mq : (q : Int) < 8 := by omega
              have mk : (k : Int) < 32 := by omega
              rcases (show k = 4 * q ∨ k = 4 * q + 1 ∨ k = 4 * q + 2 ∨ k = 4 * q + 3 by omega) with hr | hr | hr | hr
              · have e2 : (k : Int) % 4 = 0 := by omega
                have hkq : k = 4 * q := by omega
                have hb : UInt8.ofNat (x.toNat / 2 ^ 24) = s.bytes.getD k 0 := by rw [hkq, (byte_q s q hq).1, hxq]
                have HNX : Hid (∀ y, y = (k : Int) + 1 → OutI w s g M (.int .i64 y) (wr.setCell ⟨M, k, none⟩ (.int .u8 (UInt8.ofNat (x.toNat / 2 ^ 24)).toNat))) := Lib.hid (fun y hy => OutI.next h1 h2 h3 h4 HMG.out.1 HMG.out.2 hlt _ hb hy)
                clear hb h1 h2 h3 h4 hkq hxq hr hq4
                go_wp2_with fail
                rw [b24 x]
                refine ⟨HNX.out _ rfl, ?_⟩
                simp [intOf]; omega
              · have e2 : (k : Int) % 4 = 1 := by omega
                have hkq : k = 4 * q + 1 := by omega
                have hb : UInt8.ofNat (x.toNat / 2 ^ 16) = s.bytes.getD k 0 := by rw [hkq, (byte_q s q hq).2.1, hxq]
                have HNX : Hid (∀ y, y = (k : Int) + 1 → OutI w s g M (.int .i64 y) (wr.setCell ⟨M, k, none⟩ (.int .u8 (UInt8.ofNat (x.toNat / 2 ^ 16)).toNat))) := Lib.hid (fun y hy => OutI.next h1 h2 h3 h4 HMG.out.1 HMG.out.2 hlt _ hb hy)
                clear hb h1 h2 h3 h4 hkq hxq hr hq4
                go_wp2_with fail
                rw [b16 x]
                refine ⟨HNX.out _ rfl, ?_⟩
                simp [intOf]; omega
              · have e2 : (k : Int) % 4 = 2 := by omega
                have hkq : k = 4 * q + 2 := by omega
                have hb : UInt8.ofNat (x.toNat / 2 ^ 8) = s.bytes.getD k 0 := by rw [hkq, (byte_q s q hq).2.2.1, hxq]
                have HNX : Hid (∀ y, y = (k : Int) + 1 → OutI w s g M (.int .i64 y) (wr.setCell ⟨M, k, none⟩ (.int .u8 (UInt8.ofNat (x.toNat / 2 ^ 8)).toNat))) := Lib.hid (fun y hy => OutI.next h1 h2 h3 h4 HMG.out.1 HMG.out.2 hlt _ hb hy)
                clear hb h1 h2 h3 h4 hkq hxq hr hq4
                go_wp2_with fail
                rw [b08 x]
                refine ⟨HNX.out _ rfl, ?_⟩
                simp [intOf]; omega
              · have e2 : (k : Int) % 4 = 3 := by omega
                have hkq : k = 4 * q + 3 := by omega
                have hb : UInt8.ofNat (x.toNat) = s.bytes.getD k 0 := by rw [hkq, (byte_q s q hq).2.2.2, hxq]
                have HNX : Hid (∀ y, y = (k : Int) + 1 → OutI w s g M (.int .i64 y) (wr.setCell ⟨M, k, none⟩ (.int .u8 (UInt8.ofNat (x.toNat)).toNat))) := Lib.hid (fun y hy => OutI.next h1 h2 h3 h4 HMG.out.1 HMG.out.2 hlt _ hb hy)
                clear hb h1 h2 h3 h4 hkq hxq hr hq4
                go_wp2_with fail
                rw [b00 x]
                refine ⟨HNX.out _ rfl, ?_⟩
                simp [intOf]; omega
            · have hk32 : k = 32 := by omega
              have hz : (B8 s.bytes).size = 32 := by rw [B8_size]; rfl
              subst hk32
              have ho : outAt s 32 = s.bytes := by unfold outAt; rw [List.take_of_length_le (by rw [bytes_len]; exact Nat.le_refl _)]; simp
              rw [ho] at h1
              have H1 := Lib.hid h1
              have H3 := Lib.hid h3
              have H4 := Lib.hid h4
              clear h1 h2 h3 h4 hlt hk ho
              go_wp2_with (first | (refine wpList_load_row rfl 24 _ rfl M rfl 24 _ (0, 0) _ H1.out Tryz.underlying24 rfl (by rw [hz]; kernel_rfl) ?_) | (refine wpList_store_row rfl 24 _ _ rfl w.heap.size (B8 s.bytes) rfl rfl 24 _ H3.out (by rw [hz]; kernel_rfl) (by rw [hz]; rfl) (B8_one _) ?_))
              rw [HSHA.out]
              refine bodyPost_ret (v := .agg (B8 s.bytes)) (results_cell_row (p := 2) (ty := 24) (by kernel_rfl) _ _ w.heap.size 24 (B8 s.bytes) (0, 0) _ rfl (H3.out.setRow _) Tryz.underlying24 rfl (by rw [hz]; kernel_rfl)) rfl ⟨rfl, below_setRow H4.out _ _ (Nat.le_refl _)⟩
end Go.Proofs.YtgempifedhiknaaGreatDoor
