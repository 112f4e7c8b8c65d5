/-
  The document's own row of numbers: turned, and what 64 bytes become.
-/
import Derived.Test.YtgempifedhiknaaGreatDoorMid
import Derived.Deep.MidRow
namespace Go.Proofs.YtgempifedhiknaaGreatDoor
set_option maxRecDepth 100000
open Go.RowKit Sha

theorem rrot_is (x : BitVec 32) (k : Int) (h1 : 1 ≤ k) (h2 : k ≤ 31) :
    bits .or .u32 ((x.toNat : Int) / 2 ^ k.toNat) ((x.toNat : Int) * 2 ^ (32 - k).toNat % 4294967296) = ((rotr x k.toNat).toNat : Int) := by
  rw [← IntKind.wrap_u32', bv_shl, bv_shr, bv_or]
  unfold rotr
  rw [show (32 - k).toNat = 32 - k.toNat by omega]
theorem rrot_any (x : BitVec 32) (k : Int) (h1 : 1 ≤ k) (h2 : k ≤ 31) (w : World) :
    Calls Tryz.prog 111 #[.int .u32 x.toNat, .int .u64 k] w fun e w' => e = .returned (.int .u32 (rotr x k.toNat).toNat) ∧ w = w' := by
  have hx := x.isLt
  go_enter Tryz.func111, Tryz.ntmps111
  go_wp2
  go_ret
  exact ⟨ret_int (rrot_is x k h1 h2), rfl⟩
theorem rrot_q (x : BitVec 32) (k : Int) (h1 : 1 ≤ k) (h2 : k ≤ 31) (w : World) :
    Calls Tryz.prog 111 #[.int .u32 x.toNat, .int .u64 k] w fun e w' => e = .returned (.int .u32 (rotr x k.toNat).toNat) ∧ w' = w :=
  (rrot_any x k h1 h2 w).mono fun _ _ ⟨he, hw⟩ => ⟨he, hw.symm⟩

/-- Four bytes, summed. -/
theorem sum_bytes (a b c d : UInt8) : (((a.toNat : Int) * 16777216 + (b.toNat : Int) * 65536 + (c.toNat : Int) * 256 + (d.toNat : Int)) % 4294967296) = ((word a b c d).toNat : Int) := by
  have ha := a.toNat_lt
  have hb := b.toNat_lt
  have hc := c.toNat_lt
  have hd := d.toNat_lt
  unfold word
  rw [BitVec.toNat_ofNat, Nat.mod_eq_of_lt (by omega)]; omega

/-- A row of numbers, a row of bytes, as slices read them. -/
def Nums (w : World) (g off : Nat) (l : List (BitVec 32)) : Prop := ∀ j, j < l.length → w.cell? ⟨g, off + j, none⟩ = some (.int .u32 (l.getD j 0).toNat)
def Byts (w : World) (g off : Nat) (l : List UInt8) : Prop := ∀ j, j < l.length → w.cell? ⟨g, off + j, none⟩ = some (.int .u8 (l.getD j 0).toNat)
theorem Byts.below {B : Nat} {w w' : World} {g off : Nat} {l : List UInt8} (h : Byts w g off l) (hb : Below B w w') (hg : g < B) : Byts w' g off l := fun j hj => (hb.cell (p := ⟨g, off + j, none⟩) hg).trans (h j hj)
theorem Nums.below {B : Nat} {w w' : World} {g off : Nat} {l : List (BitVec 32)} (h : Nums w g off l) (hb : Below B w w') (hg : g < B) : Nums w' g off l := fun j hj => (hb.cell (p := ⟨g, off + j, none⟩) hg).trans (h j hj)

/-- The memory while the 64 numbers are laid. -/
def AtR (w : World) (l : List (BitVec 32)) (wr : World) : Prop := Lies wr w.heap.size (B32 (padTo l)) 88 ∧ Below w.heap.size w wr
theorem AtR.store {w : World} {l : List (BitVec 32)} {wr : World} (h : AtR w l wr) (hl : l.length < 64) (k : Nat) (hk : k = l.length) (x : BitVec 32) :
    AtR w (l ++ [x]) (wr.setCell ⟨w.heap.size, k, none⟩ (.int .u32 x.toNat)) := by
  obtain ⟨h3, h4⟩ := h
  subst hk
  refine ⟨?_, h4.setCell (Nat.le_refl _) _⟩
  have := h3.set l.length (.int .u32 x.toNat)
  rwa [B32_set, padTo_set _ _ hl] at this
theorem AtR.drew {w : World} {l : List (BitVec 32)} {wr : World} (h : AtR w l wr) : AtR w l wr.drew := ⟨h.1, h.2.drew⟩
theorem AtR.drewN {w : World} {l : List (BitVec 32)} {wr : World} (h : AtR w l wr) (q : Nat) : AtR w l (wr.drewN q) := ⟨h.1, below_drewN h.2 q⟩
theorem AtR.num {w : World} {l : List (BitVec 32)} {wr : World} (h : AtR w l wr) (j : Nat) (hj : j < l.length) (hl : l.length ≤ 64) : wr.cell? ⟨w.heap.size, j, none⟩ = some (.int .u32 (l.getD j 0).toNat) := by
  rw [← padTo_get l j hj]
  exact h.1.cell j (B32_get _ j (by rw [padTo_length l hl]; omega))
theorem AtR.any {w : World} {l : List (BitVec 32)} {wr : World} (h : AtR w l wr) (j : Nat) (hj : j < 64) (hl : l.length ≤ 64) : ∃ v, wr.cell? ⟨w.heap.size, j, none⟩ = some v :=
  ⟨_, h.1.cell j (B32_get _ j (by rw [padTo_length l hl]; omega))⟩
theorem AtR.start (w : World) (r : List UInt8) : AtR w (words r 0) (w.alloc (.cells zeros64 88)) := by
  refine ⟨?_, (Below.refl _ _).alloc (Nat.le_refl _) _⟩
  have := Lies.new w zeros64 88
  simpa [words, padTo, zeros64] using this

theorem make64 (w : World) : (Instr.makeSlice 135 (.int .i64 64) (.int .i64 64)).run Tryz.prog w = .ok (.slice (some ⟨w.heap.size, 0, none⟩) 64 64) (w.alloc (.cells zeros64 88)) := by kernel_rfl

theorem info45 : (Tryz.prog.info? 88).map (fun i => (i.zero, i.size, i.bytes)) = some (some (.int .u32 0), 1, 4) := by kernel_rfl
theorem empty_own (w : World) : (w.alloc (.cells #[] 88)).ownsRow w.heap.size 88 1 (.slice (some ⟨w.heap.size, 0, none⟩) 0 0) 0 [] := World.ownsRow_made w #[] 0 (Nat.le_refl _) (Nat.zero_le _) rfl
theorem nums_news {w : World} {g off : Nat} {l : List (BitVec 32)} (h : Nums w g off l) : ∀ j u, (B32 l).toList[j]? = some u → w.cell? ((⟨g, off, none⟩ : Addr).add j) = some u := by
  intro j u hu
  rw [Addr.add_mid]
  have hj : j < l.length := by
    have := (List.getElem?_eq_some_iff.1 hu).1
    rwa [Array.length_toList, B32_size] at this
  rw [Array.getElem?_toList, B32_get l j hj] at hu
  rw [h j hj, ← hu]
theorem nums_one (l : List (BitVec 32)) : ∀ u, u ∈ (B32 l).toList → u.oneCell' = true := by
  intro u hu
  exact (Array.all_eq_true_iff_forall_mem.1 (B32_one l)) u (by simpa using hu)
/-- An owned row of numbers, as a slice reads them. -/
theorem own_nums {w : World} {base : Nat} {v : Value} {n : Nat} {l : List (BitVec 32)} (h : w.ownsRow base 88 1 v n (B32 l).toList) (hn : n = l.length) (hpos : 0 < n) :
    ∃ g cap, v = .slice (some ⟨g, 0, none⟩) n cap ∧ base ≤ g ∧ g < w.heap.size ∧ Nums w g 0 l ∧ ∀ j, w.frozen? ⟨g, j, none⟩ = false := by
  have hc := fun g hg => h.cells (g := g) hg
  have hlt := h.lt
  rcases h.2 with ⟨_, h0⟩ | ⟨g, cap, cur, rfl, hb, _⟩
  · omega
  · refine ⟨g, cap, rfl, hb, (hlt g rfl).2, fun j hj => ?_, fun j => h.frozenAt j⟩
    have := hc g rfl j _ (by rw [Array.getElem?_toList, B32_get l j hj])
    rwa [Addr.add_mid] at this

/-- The memory while the rounds go: the eight numbers in a slice of their own. -/
def Seen (w : World) (r : List UInt8) (s st : Eight) (k g : Nat) (wr : World) : Prop := st = rounds (wide r) s k ∧ Nums wr g 0 st.list ∧ w.heap.size < g ∧ AtR w (wide r) wr ∧ ∀ j, wr.frozen? ⟨g, j, none⟩ = false

theorem Seen.drewN {w : World} {r : List UInt8} {s st : Eight} {k g : Nat} {wr : World} (h : Seen w r s st k g wr) (q : Nat) : Seen w r s st k g (wr.drewN q) := ⟨h.1, h.2.1, h.2.2.1, h.2.2.2.1.drewN q, h.2.2.2.2⟩

theorem Seen.next {w : World} {r : List UInt8} {s st : Eight} {k g : Nat} {wz : World} (h : Seen w r s st k g wz) (st2 : Eight) (h2 : rounds (wide r) s (k + 1) = st2) :
    Seen w r s st2 (k + 1) wz.heap.size (wz.drew.alloc (.cells (B32 st2.list) 88)) := by
  obtain ⟨_, _, _, h4, _⟩ := h
  refine ⟨h2.symm, fun j hj => ?_, h4.1.lt, ⟨Lies.alloc h4.1.drew _, h4.2.drew.alloc h4.2.size _⟩, fun j => (Lies.new wz.drew (B32 st2.list) 88).free j⟩
  rw [Nat.zero_add]
  exact (Lies.new wz.drew (B32 st2.list) 88).cell j (B32_get _ j hj)

theorem Nums.set {w : World} {g : Nat} {l : List (BitVec 32)} (h : Nums w g 0 l) (j : Nat) (hj : j < l.length) (x : BitVec 32) : Nums (w.setCell ⟨g, j, none⟩ (.int .u32 x.toNat)) g 0 (l.set j x) := by
  intro i hi
  rw [List.length_set] at hi
  have hc := h i hi
  rw [Nat.zero_add] at hc ⊢
  by_cases e : i = j
  · subst e
    rw [World.cell?_setCell_same _ _ _ hc]; simp [hi]
  · have hne : (⟨g, j, none⟩ : Addr) ≠ ⟨g, i, none⟩ := fun h => e (Addr.mk.inj h).2.1.symm
    rw [World.cell?_setCell_other _ _ _ _ hne, hc]
    simp [List.getElem?_set_ne (fun h => e h.symm)]
theorem add_swap (s t : Eight) : s.add t = t.add s := by unfold Eight.add; simp [BitVec.add_comm]
/-- The memory while the sums are laid. -/
def Fin8 (w : World) (s st : Eight) (g j : Nat) (wr : World) : Prop := Nums wr g 0 (mid st s j) ∧ (∀ i, wr.frozen? ⟨g, i, none⟩ = false) ∧ w.heap.size ≤ g ∧ Below w.heap.size w wr
theorem Fin8.next {w : World} {s st : Eight} {g j : Nat} {wr : World} (h : Fin8 w s st g j wr) (hj : j < 8) (z : BitVec 32) (hz : z = st.list.getD j 0 + s.list.getD j 0) : Fin8 w s st g (j + 1) (wr.setCell ⟨g, j, none⟩ (.int .u32 z.toNat)).drew := by
  obtain ⟨h1, h2, h3, h4⟩ := h
  have := h1.set j (by rw [mid_length _ _ _ (by omega)]; exact hj) z
  rw [hz, mid_set _ _ _ hj, ← hz] at this
  exact ⟨this, fun i => by simp [h2], h3, (h4.setCell h3 _).drew⟩

set_option maxRecDepth 100000 in
set_option maxHeartbeats 2000000 in
theorem row_any (s : Eight) (r : List UInt8) (hr : r.length = 64) (w : World) (gh oh vh gk ok vk gb ob vb : Nat) (h1 : gh < w.heap.size) (h2 : gk < w.heap.size) (h3 : gb < w.heap.size)
    (hh : Nums w gh oh s.list) (hk : Nums w gk ok cubes) (hb : Byts w gb ob r) :
    Calls Tryz.prog 68 #[.slice (some ⟨gh, oh, none⟩) 8 vh, .slice (some ⟨gk, ok, none⟩) 64 vk, .slice (some ⟨gb, ob, none⟩) 64 vb] w fun e w' =>
      ∃ n c, e = .returned (.slice (some ⟨n, 0, none⟩) 8 c) ∧ Nums w' n 0 (mix s r).list ∧ w.heap.size ≤ n ∧ Below w.heap.size w w' := by
  have HH := Lib.hid hh
  have HK := Lib.hid hk
  have HBY := Lib.hid hb
  have HR := Lib.hid hr
  have HS := Lib.hid (AtR.start w r)
  clear hh hk hb hr
  go_enter Tryz.func68, Tryz.ntmps68
  have hmk := make64
  go_wp2_with fail
  clear hmk
  go_loopw [8] (fun i wr => ∃ k : Nat, k ≤ 16 ∧ i = .int .i64 k ∧ AtR w (words r k) wr) (fun i _ => 16 - (intOf i).toNat)
  case atStart => exact ⟨0, by omega, rfl, HS.out⟩
  case round =>
    obtain ⟨k, hk, rfl, hat⟩ := hrel
    have HAT := Lib.hid hat; clear hat HS
    by_cases hlt : k < 16
    · have hrow : ∀ j, j < 64 → wr.cell? ⟨gb, ob + j, none⟩ = some (.int .u8 (r.getD j 0).toNat) := fun j hj => (HBY.out.below HAT.out.2 h3) j (by have := HR.out; omega)
      have c0 := hrow (4 * k) (by omega)
      have c1 := hrow (4 * k + 1) (by omega)
      have c2 := hrow (4 * k + 2) (by omega)
      have c3 := hrow (4 * k + 3) (by omega)
      clear hrow
      obtain ⟨v, cv⟩ := HAT.out.any k (by omega) (by rw [words_length]; omega)
      have fv : wr.frozen? ⟨w.heap.size, k, none⟩ = false := HAT.out.1.free k
      have ho := (HAT.out.store (by rw [words_length]; omega) k (words_length r k).symm (word (r.getD (4 * k) 0) (r.getD (4 * k + 1) 0) (r.getD (4 * k + 2) 0) (r.getD (4 * k + 3) 0))).drew
      rw [← words_succ] at ho
      generalize r.getD (4 * k) 0 = b0 at c0 ho
      generalize r.getD (4 * k + 1) 0 = b1 at c1 ho
      generalize r.getD (4 * k + 2) 0 = b2 at c2 ho
      generalize r.getD (4 * k + 3) 0 = b3 at c3 ho
      have or0 := sum_bytes b0 b1 b2 b3
      generalize word b0 b1 b2 b3 = x at or0 ho
      have HO := Lib.hid ho; clear ho
      have y0 := byte_u32 b0
      have y1 := byte_u32 b1
      have y2 := byte_u32 b2
      have y3 := byte_u32 b3
      have w0 : IntKind.i64.wrap (4 * (k : Int)) = 4 * (k : Int) := IntWalk.i64_in _ (by omega)
      have w1 : IntKind.i64.wrap (4 * (k : Int) + 1) = 4 * (k : Int) + 1 := IntWalk.i64_in _ (by omega)
      have w2 : IntKind.i64.wrap (4 * (k : Int) + 2) = 4 * (k : Int) + 2 := IntWalk.i64_in _ (by omega)
      have w3 : IntKind.i64.wrap (4 * (k : Int) + 3) = 4 * (k : Int) + 3 := IntWalk.i64_in _ (by omega)
      have l0 : (0 : Int) ≤ 4 * (k : Int) := by omega
      have l1 : (0 : Int) ≤ 4 * (k : Int) + 1 := by omega
      have l2 : (0 : Int) ≤ 4 * (k : Int) + 2 := by omega
      have l3 : (0 : Int) ≤ 4 * (k : Int) + 3 := by omega
      have m0 : 4 * (k : Int) < 64 := by omega
      have m1 : 4 * (k : Int) + 1 < 64 := by omega
      have m2 : 4 * (k : Int) + 2 < 64 := by omega
      have m3 : 4 * (k : Int) + 3 < 64 := by omega
      have m4 : (k : Int) < 64 := by omega
      have t0 : (4 * (k : Int)).toNat = 4 * k := by omega
      have t1 : (4 * (k : Int) + 1).toNat = 4 * k + 1 := by omega
      have t2 : (4 * (k : Int) + 2).toNat = 4 * k + 2 := by omega
      have t3 : (4 * (k : Int) + 3).toNat = 4 * k + 3 := by omega
      go_wp2_with fail
      go_still_tail 36, (by kernel_rfl)
      change wpList _ _ _ _ _ wr.drew
      clear w0 w1 w2 w3 l0 l1 l2 l3 m0 m1 m2 m3 m4 t0 t1 t2 t3
      go_wp2
      refine ⟨⟨k + 1, by omega, rfl, HO.out⟩, ?_⟩
      simp [intOf]; omega
    · have hat : AtR w (words r 16) wr := by
        obtain rfl : k = 16 := by omega
        exact HAT.out
      have hd : decide ((k : Int) < 16) = false := by simp; omega
      clear HAT
      have HAT := Lib.hid hat; clear hat
      go_wp2_with fail
      clear hlt hk
      go_loopw [9] (fun i wr => ∃ j : Nat, 16 ≤ j ∧ j ≤ 64 ∧ i = .int .i64 j ∧ AtR w (sched (words r 16) (j - 16)) wr) (fun i _ => 64 - (intOf i).toNat)
      case atStart => exact ⟨16, by omega, by omega, rfl, HAT.out⟩
      case round =>
        obtain ⟨j, hj, hj2, rfl, hat⟩ := hrel
        have HAT := Lib.hid hat; clear hat
        by_cases hlt : j < 64
        · have hL : (sched (words r 16) (j - 16)).length = j := by rw [sched_length, words_length]; omega
          have cx := HAT.out.num (j - 15) (by omega) (by omega)
          have cy := HAT.out.num (j - 2) (by omega) (by omega)
          have ca := HAT.out.num (j - 16) (by omega) (by omega)
          have cb := HAT.out.num (j - 7) (by omega) (by omega)
          obtain ⟨v, cv⟩ := HAT.out.any j (by omega) (by omega)
          have fv : wr.frozen? ⟨w.heap.size, j, none⟩ = false := HAT.out.1.free j
          have ho := fun q => ((HAT.out.drewN q).store (by omega) j hL.symm (next (sched (words r 16) (j - 16)))).drew
          have hnx : next (sched (words r 16) (j - 16)) = (sched (words r 16) (j - 16)).getD (j - 16) 0 + s0 ((sched (words r 16) (j - 16)).getD (j - 15) 0) + (sched (words r 16) (j - 16)).getD (j - 7) 0 + s1 ((sched (words r 16) (j - 16)).getD (j - 2) 0) := by
            unfold next; rw [hL]
          have hsc : sched (words r 16) (j - 16) ++ [next (sched (words r 16) (j - 16))] = sched (words r 16) (j + 1 - 16) := by
            rw [show j + 1 - 16 = (j - 16) + 1 by omega]; rfl
          rw [hsc, hnx] at ho
          clear hnx hL hsc
          generalize (sched (words r 16) (j - 16)).getD (j - 15) 0 = x at cx ho
          generalize (sched (words r 16) (j - 16)).getD (j - 2) 0 = y at cy ho
          generalize (sched (words r 16) (j - 16)).getD (j - 16) 0 = a at ca ho
          generalize (sched (words r 16) (j - 16)).getD (j - 7) 0 = b at cb ho
          have r2 := sum4m a (s0 x) b (s1 y)
          generalize a + s0 x + b + s1 y = z at ho r2
          have HO := Lib.hid ho; clear ho
          have w0 : IntKind.i64.wrap ((j : Int) - 15) = (j : Int) - 15 := IntWalk.i64_in _ (by omega)
          have w1 : IntKind.i64.wrap ((j : Int) - 2) = (j : Int) - 2 := IntWalk.i64_in _ (by omega)
          have w2 : IntKind.i64.wrap ((j : Int) - 16) = (j : Int) - 16 := IntWalk.i64_in _ (by omega)
          have w3 : IntKind.i64.wrap ((j : Int) - 7) = (j : Int) - 7 := IntWalk.i64_in _ (by omega)
          have l0 : (0 : Int) ≤ (j : Int) - 15 := by omega
          have l1 : (0 : Int) ≤ (j : Int) - 2 := by omega
          have l2 : (0 : Int) ≤ (j : Int) - 16 := by omega
          have l3 : (0 : Int) ≤ (j : Int) - 7 := by omega
          have m0 : (j : Int) - 15 < 64 := by omega
          have m1 : (j : Int) - 2 < 64 := by omega
          have m2 : (j : Int) - 16 < 64 := by omega
          have m3 : (j : Int) - 7 < 64 := by omega
          have m4 : (j : Int) < 64 := by omega
          have t0 : ((j : Int) - 15).toNat = j - 15 := by omega
          have t1 : ((j : Int) - 2).toNat = j - 2 := by omega
          have t2 : ((j : Int) - 16).toNat = j - 16 := by omega
          have t3 : ((j : Int) - 7).toNat = j - 7 := by omega
          go_wp2_with fail
          go_quiet (fail)
          have r0 := s0_is x
          have r1 := s1_is y
          go_wp2_with (go_at_call 111; refine (rrot_any _ _ (by decide) (by decide) _).mono ?_; rintro e w' ⟨rfl, rfl⟩)
          have ca2 : (wr.drewN nq).cell? ⟨w.heap.size, j - 16, none⟩ = some (.int .u32 a.toNat) := ca
          have cb2 : (wr.drewN nq).cell? ⟨w.heap.size, j - 7, none⟩ = some (.int .u32 b.toNat) := cb
          have cv2 : (wr.drewN nq).cell? ⟨w.heap.size, j, none⟩ = some v := cv
          have fv2 : (wr.drewN nq).frozen? ⟨w.heap.size, j, none⟩ = false := fv
          have HO2 := Lib.hid (HO.out nq)
          clear HO HAT ca cb cv fv cx cy
          generalize wr.drewN nq = wq at ca2 cb2 cv2 fv2 HO2 ⊢
          have n2 : (16 : Int) ≤ (j : Int) := by omega
          have n3 : (7 : Int) ≤ (j : Int) := by omega
          have n4 : 7 ≤ j := by omega
          have n5 : (j : Int) < 64 + 16 := by omega
          have n6 : (j : Int) < 64 + 7 := by omega
          have n7 : (j : Int) < 80 := by omega
          have n8 : (j : Int) < 71 := by omega
          have n9 : j < 80 := by omega
          have n10 : j < 71 := by omega
          go_still_tail 18, (by kernel_rfl)
          change wpList _ _ _ _ _ wq.drew
          clear w0 w1 w2 w3 l0 l1 l2 l3 m0 m1 m2 m3 m4 t0 t1 t2 t3
          go_wp2
          go_roundw
          case rel => exact ⟨j + 1, by omega, by omega, by go_num, HO2.out⟩
          case measure => simp [intOf]; omega
        · have hd64 : decide ((j : Int) < 64) = false := by simp; omega
          have hj64 : j = 64 := by omega
          have hat := HAT.out
          rw [hj64, show sched (words r 16) (64 - 16) = wide r by rfl] at hat
          have HW := Lib.hid hat
          clear hat HAT hj64 hlt hj hj2
          obtain ⟨i0, hi0, hz0, hz1, hz2⟩ := info_parts info45
          have hm8 : 0 + 8 ≤ maxLen := by unfold maxLen; omega
          have HM8 := Lib.hid hm8
          have hn8 : Nums (wr.alloc (.cells #[] 88)) gh oh s.list := HH.out.below (HW.out.2.alloc HW.out.2.size _) h1
          have HN := Lib.hid hn8
          clear hm8 hn8
          go_wp2_with (at_builtin; refine wpList_append_own _ rfl (.tmp 112) (.tmp 113) 135 rfl wr.heap.size 88 i0 (.int .u32 0) 1 4 Tryz.underlying135 hi0 hz0 hz1 hz2 rfl (by decide) _ 0 [] rfl (empty_own wr) ⟨gh, oh, none⟩ 8 vh (B32 s.list).toList rfl rfl (nums_news HN.out) (nums_one _) HM8.out (by decide) (by simp) ?_; intro v' w2 hown hgrow _)
          obtain ⟨g, cg, hv, hg1, hg2, hnum, hfz⟩ := own_nums (n := 8) (l := s.list) (by simpa using hown) rfl (by decide)
          have hgrow2 : (wr.alloc (.cells #[] 88)).grownBy w2 (some wr.heap.size) := hgrow
          clear hgrow
          have hat2 : AtR w (wide r) w2 := by
            have hla := HW.out.1.alloc (.cells #[] 88)
            have hgr := hgrow2.block w.heap.size hla.lt (fun e => by have := Option.some.inj e; have := HW.out.1.lt; omega)
            refine ⟨hgr.trans hla, (HW.out.2.alloc HW.out.2.size _).grown hgrow2 (by have := HW.out.2.size; simp; omega) (fun j e => ?_)⟩
            have := Option.some.inj e
            have := HW.out.2.size
            have := HW.out.1.lt
            omega
          have hst : Seen w r s s 0 g w2 := ⟨rfl, hnum, by have := HW.out.1.lt; omega, hat2, hfz⟩
          rw [hv]
          have HSEEN := Lib.hid hst
          clear hst hat2 hnum hfz hg1 hg2 hgrow2 hown hv HN HM8 HW HAT hi0 hz0 hz1 hz2 hd hd64
          go_wp2_with fail
          go_loopw [14, 15] (fun v i wr => ∃ (k g c : Nat) (st : Eight), k ≤ 64 ∧ i = .int .i64 k ∧ v = .slice (some ⟨g, 0, none⟩) 8 c ∧ Seen w r s st k g wr) (fun _ i _ => 64 - (intOf i).toNat)
          case atStart => exact ⟨0, g, cg, s, by omega, rfl, rfl, HSEEN.out⟩
          case round =>
            obtain ⟨k, g, c, st, hk, rfl, rfl, hseen⟩ := hrel
            have HR2 := Lib.hid hseen
            clear hseen HSEEN
            by_cases hlt : k < 64
            · have hnx : rounds (wide r) s (k + 1) = st.step (cubes.getD k 0) ((wide r).getD k 0) := by rw [rounds, ← HR2.out.1]
              have d0 := HR2.out.2.1 0 (by show 0 < 8; omega)
              have d1 := HR2.out.2.1 1 (by show 1 < 8; omega)
              have d2 := HR2.out.2.1 2 (by show 2 < 8; omega)
              have d3 := HR2.out.2.1 3 (by show 3 < 8; omega)
              have d4 := HR2.out.2.1 4 (by show 4 < 8; omega)
              have d5 := HR2.out.2.1 5 (by show 5 < 8; omega)
              have d6 := HR2.out.2.1 6 (by show 6 < 8; omega)
              have d7 := HR2.out.2.1 7 (by show 7 < 8; omega)
              have hc := (HK.out.below HR2.out.2.2.2.1.2 h2) k (by show k < 64; omega)
              have hw := HR2.out.2.2.2.1.num k (by rw [wide, sched_length, words_length]; omega) (by rw [wide, sched_length, words_length]; omega)
              simp only [Nat.zero_add] at d0 d1 d2 d3 d4 d5 d6 d7
              generalize cubes.getD k 0 = kk at hc hnx
              generalize (wide r).getD k 0 = ww at hw hnx
              obtain ⟨a, b', c', d, e, f, g', h⟩ := st
              simp only [Eight.list, List.getD_cons_zero, List.getD_cons_succ] at d0 d1 d2 d3 d4 d5 d6 d7
              have q2 := ch_is e f g'
              have q0 := bv_not e
              generalize ~~~e = ne at q0 q2
              have r4 := sum4m h (S1 e) (ch e f g') kk
              have hnx : rounds (wide r) s (k + 1) = ⟨(h + S1 e + ch e f g' + kk) + ww + (S0 a + maj a b' c'), a, b', c', d + ((h + S1 e + ch e f g' + kk) + ww), e, f, g'⟩ := hnx
              generalize h + S1 e + ch e f g' + kk = u at r4 hnx
              have r5 := sum2m u ww
              generalize u + ww = t1 at r5 hnx
              have r6 := sum2m (S0 a) (maj a b' c')
              generalize S0 a + maj a b' c' = t2 at r6 hnx
              have r7 := sum2m d t1
              generalize d + t1 = e2 at r7 hnx
              have r8 := sum2m t1 t2
              generalize t1 + t2 = a2 at r8 hnx
              have r7w : IntKind.u32.wrap ((d.toNat : Int) + (t1.toNat : Int)) = (e2.toNat : Int) := by rw [IntKind.wrap_u32', r7]
              have r8w : IntKind.u32.wrap ((t1.toNat : Int) + (t2.toNat : Int)) = (a2.toNat : Int) := by rw [IntKind.wrap_u32', r8]
              have r9 : ((t1.toNat : Int) + (((S0 a).toNat : Int) + ((maj a b' c').toNat : Int))) % 4294967296 = (a2.toNat : Int) := by omega
              have q1 := S1_is e
              have q3 := S0_is a
              have q4 := maj_is a b' c'
              have HN := Lib.hid hnx
              clear hnx
              have m4 : (k : Int) < 64 := by omega
              go_wp2_with fail
              go_quiet (fail)
              have HR3 := Lib.hid (HR2.out.drewN nq)
              have f3 : (wr.drewN nq).cell? ⟨g, 3, none⟩ = some (.int .u32 d.toNat) := d3
              have f5 : (wr.drewN nq).cell? ⟨g, 5, none⟩ = some (.int .u32 f.toNat) := d5
              have f6 : (wr.drewN nq).cell? ⟨g, 6, none⟩ = some (.int .u32 g'.toNat) := d6
              have f7 : (wr.drewN nq).cell? ⟨g, 7, none⟩ = some (.int .u32 h.toNat) := d7
              have fc : (wr.drewN nq).cell? ⟨gk, ok + k, none⟩ = some (.int .u32 kk.toNat) := hc
              have fw : (wr.drewN nq).cell? ⟨w.heap.size, k, none⟩ = some (.int .u32 ww.toNat) := hw
              clear d0 d1 d2 d3 d4 d5 d6 d7 hc hw HR2
              generalize wr.drewN nq = wq at HR3 f3 f5 f6 f7 fc fw ⊢
              go_wp2_with fail
              go_quiet ((go_at_call 111; exact Calls.quiet_of_same (rrot_q _ _ (by decide) (by decide) _)))
              go_wp2_with (go_at_call 111; refine (rrot_any _ _ (by decide) (by decide) _).mono ?_; rintro e w' ⟨rfl, rfl⟩)
              have HR4 := Lib.hid (HR3.out.drewN nq)
              have g3 : (wq.drewN nq).cell? ⟨g, 3, none⟩ = some (.int .u32 d.toNat) := f3
              have g5 : (wq.drewN nq).cell? ⟨g, 5, none⟩ = some (.int .u32 f.toNat) := f5
              have g6 : (wq.drewN nq).cell? ⟨g, 6, none⟩ = some (.int .u32 g'.toNat) := f6
              clear f3 f5 f6 f7 fc fw HR3 q0 q1 q2 q3 q4 r4 r5 r6
              generalize wq.drewN nq = wz at HR4 g3 g5 g6 ⊢
              go_still_tail 18, (by kernel_rfl)
              change wpList _ _ _ _ _ wz.drew
              go_wp2_with fail
              have hN := Seen.next HR4.out ⟨a2, a, b', c', e2, e, f, g'⟩ HN.out
              have hk1 : k + 1 ≤ 64 := by clear r7 r8 r7w r8w r9; omega
              clear r7 r8 r7w r8w r9 g3 g5 g6
              refine ⟨⟨k + 1, wz.heap.size, 8, _, hk1, rfl, rfl, hN⟩, ?_⟩
              simp [intOf]; omega
            · have hk64 : k = 64 := by omega
              have hst2 : st = rounds (wide r) s 64 := by rw [← hk64]; exact HR2.out.1
              have hmix : mix s r = st.add s := by rw [mix, ← hst2, add_swap]
              have hf8 : Fin8 w s st g 0 wr := ⟨HR2.out.2.1, HR2.out.2.2.2.2, Nat.le_of_lt HR2.out.2.2.1, HR2.out.2.2.2.1.2⟩
              have HMIX := Lib.hid hmix
              have HF8 := Lib.hid hf8
              have hd64 : decide ((k : Int) < 64) = false := by simp; omega
              clear hst2 hmix hf8 hk64 HR2 hk hlt
              go_wp2_with fail
              go_loopw [22] (fun i wr => ∃ j : Nat, j ≤ 8 ∧ i = .int .i64 j ∧ Fin8 w s st g j wr) (fun i _ => 8 - (intOf i).toNat)
              case atStart => exact ⟨0, by omega, rfl, HF8.out⟩
              case round =>
                obtain ⟨j, hj, rfl, hf⟩ := hrel
                have HF := Lib.hid hf
                clear hf HF8
                by_cases hlt : j < 8
                · have hc := HF.out.1 j (by rw [mid_length _ _ _ (by omega)]; exact hlt)
                  rw [mid_get _ _ j hlt, Nat.zero_add] at hc
                  have hh := (HH.out.below HF.out.2.2.2 h1) j (by show j < 8; omega)
                  have hfz : wr.frozen? ⟨g, j, none⟩ = false := HF.out.2.1 j
                  have hnext := fun z hz => HF.out.next hlt z hz
                  have r1 := sum2m (st.list.getD j 0) (s.list.getD j 0)
                  generalize s.list.getD j 0 = x at hh r1 hnext
                  generalize st.list.getD j 0 = y at hc r1 hnext
                  obtain ⟨z, hz⟩ : ∃ z, z = y + x := ⟨_, rfl⟩
                  rw [← hz] at r1
                  have HNEXT := Lib.hid (hnext z hz)
                  clear hnext hz
                  have m4 : (j : Int) < 8 := by omega
                  go_wp2_with fail
                  go_still_tail 12, (by kernel_rfl)
                  change wpList _ _ _ _ _ wr.drew
                  go_wp2_with fail
                  clear hc hh hfz r1
                  refine ⟨⟨j + 1, by omega, rfl, HNEXT.out⟩, ?_⟩
                  simp [intOf]; omega
                · have hd8 : decide ((j : Int) < 8) = false := by simp; omega
                  have hj8 : j = 8 := by omega
                  have hf := HF.out
                  rw [hj8] at hf
                  unfold Fin8 at hf
                  rw [mid_eight, ← HMIX.out] at hf
                  have HX := Lib.hid hf
                  clear hf HF hj8 hlt hj
                  go_wp2_with fail
                  go_ret
                  exact ⟨g, c, rfl, HX.out.1, HX.out.2.2.1, HX.out.2.2.2⟩
end Go.Proofs.YtgempifedhiknaaGreatDoor
