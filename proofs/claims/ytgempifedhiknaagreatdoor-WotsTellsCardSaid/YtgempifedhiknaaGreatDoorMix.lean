/-
  mix: what a row of 64 bytes makes of the eight numbers, in their place.
-/
import Derived.Test.YtgempifedhiknaaGreatDoorMid
import Derived.Deep.Cut
namespace Go.Proofs.YtgempifedhiknaaGreatDoor
set_option maxRecDepth 100000
open Go.RowKit Sha

theorem rot_q (x : BitVec 32) (k : Int) (h1 : 1 ≤ k) (h2 : k ≤ 31) (w : World) :
    Calls Tryz.prog 127 #[.int .u32 x.toNat, .int .i64 k] w fun e w' => e = .returned (.int .u32 (rotr x k.toNat).toNat) ∧ w' = w :=
  (rot_any x k h1 h2 w).mono fun _ _ ⟨he, hw⟩ => ⟨he, hw.symm⟩

def Cubes (w : World) : Prop := Lies w 1 (B32 cubes) 280

theorem wide_length (r : List UInt8) : (wide r).length = 64 := by rw [wide, sched_length, words_length]
/-- The memory while mix is at work: the numbers in their place, the row's 64, the table. -/
def Held (w : World) (b n1 : Nat) (cs : Array Value) (T : TypeId) (r : List UInt8) (wr : World) : Prop :=
  Lies wr b cs T ∧ Lies wr n1 (B32 (wide r)) 280 ∧ Cubes wr ∧ w.grownBy wr (some b)
theorem Held.drewN {w : World} {b n1 : Nat} {cs : Array Value} {T : TypeId} {r : List UInt8} {wr : World} (h : Held w b n1 cs T r wr) (q : Nat) : Held w b n1 cs T r (wr.drewN q) :=
  ⟨h.1, h.2.1, h.2.2.1, ⟨h.2.2.2.os, h.2.2.2.tape, h.2.2.2.output, h.2.2.2.size, h.2.2.2.block⟩⟩

/-- The start of mix: the numbers of the row laid. -/
theorem laid_row (r : List UInt8) (w w1 : World) (hb : Below (w.heap.size + 1) (w.alloc (.cells (B8 r) 91)) w1) (z : Array Value) :
    Below w.heap.size w ((w1.alloc (.cells z 280)).setRow w1.heap.size (B32 (wide r))) ∧ Lies ((w1.alloc (.cells z 280)).setRow w1.heap.size (B32 (wide r))) w1.heap.size (B32 (wide r)) 280 := by
  have hs := hb.size
  simp at hs
  refine ⟨below_setRow (((((Below.refl _ _).alloc (Nat.le_refl _) _)).trans (hb.mono (by omega))).alloc (by omega) _) _ _ (by omega), (Lies.new w1 z 280).setRow _⟩

set_option maxRecDepth 100000 in
set_option maxHeartbeats 4000000 in
theorem mix_any (s : Eight) (r : List UInt8) (hr : r.length = 64) (w : World) (b : Nat) (rest : Array Value) (T : TypeId)
    (hb : Lies w b (B32 s.list ++ rest) T) (hg : Cubes w) :
    Calls Tryz.prog 110 #[.pointer (some ⟨b, 0, none⟩), .agg (B8 r)] w fun e w' => e = .returned (.tuple #[]) ∧ Lies w' b (B32 (mix s r).list ++ rest) T ∧ w.grownBy w' (some b) := by
  have hz : (B8 r).size = 64 := by rw [B8_size, hr]
  have hwl : (B32 (wide r)).size = 64 := by rw [B32_size, wide_length]
  have hbox : Lies (w.alloc (.cells (B8 r) 91)) w.heap.size (B8 r) 91 := Lies.new w _ _
  have HB := Lib.hid hb
  have HG := Lib.hid hg
  clear hb hg
  go_enter Tryz.func110, Tryz.ntmps110
  go_wp2_with (first | (refine wpList_load_row rfl 91 _ rfl w.heap.size rfl 91 _ (0, 0) _ hbox Tryz.underlying91 rfl (by rw [hz]; kernel_rfl) ?_))
  refine (spread_any r hr _).mono ?_
  rintro e w1 ⟨rfl, hbel⟩
  simp only [World.size_alloc] at hbel
  have HBEL := Lib.hid hbel
  clear hbel hbox
  go_wp2_with (first | (refine wpList_store_row rfl 280 _ _ rfl w1.heap.size (B32 (wide r)) rfl rfl 280 zeros64 (Lies.new w1 zeros64 280) (by rw [hwl]; kernel_rfl) (by rw [hwl]; rfl) (B32_one _) ?_))
  change Code.wp _ _ _ _ ((w1.alloc (.cells zeros64 280)).setRow w1.heap.size (B32 (wide r)))
  obtain ⟨hB, hL⟩ := laid_row r w w1 HBEL.out zeros64
  have hg : Cubes ((w1.alloc (.cells zeros64 280)).setRow w1.heap.size (B32 (wide r))) := HG.out.below hB HG.out.lt
  have hb : Lies ((w1.alloc (.cells zeros64 280)).setRow w1.heap.size (B32 (wide r))) b (B32 s.list ++ rest) T := HB.out.below hB HB.out.lt
  have hbn : b < w1.heap.size := by have h1 := HB.out.lt; have h2 := HBEL.out.size; simp at h2; omega
  have h1n : 1 < w1.heap.size := by have h1 := HG.out.lt; have h2 := HBEL.out.size; simp at h2; omega
  have hn : w.heap.size < w1.heap.size := by have h2 := HBEL.out.size; simp at h2; omega
  generalize (w1.alloc (.cells zeros64 280)).setRow w1.heap.size (B32 (wide r)) = W1 at hB hL hg hb ⊢
  generalize w1.heap.size = n1 at hL hbn h1n hn ⊢
  have HL := Lib.hid hL
  have HW := Lib.hid hB
  have hh : Held w b n1 (B32 s.list ++ rest) T r W1 := ⟨hb, hL, hg, grown_below hB _⟩
  clear hL hB HBEL HB HG HL HW
  have HH := Lib.hid hh
  have HB := Lib.hid hb
  clear hb hg hh
  have c0 : W1.cell? ⟨b, 0, none⟩ = some (.int .u32 s.a.toNat) := HB.out.cell 0 (E0 _ _)
  have c1 : W1.cell? ⟨b, 1, none⟩ = some (.int .u32 s.b.toNat) := HB.out.cell 1 (E1 _ _)
  have c2 : W1.cell? ⟨b, 2, none⟩ = some (.int .u32 s.c.toNat) := HB.out.cell 2 (E2 _ _)
  have c3 : W1.cell? ⟨b, 3, none⟩ = some (.int .u32 s.d.toNat) := HB.out.cell 3 (E3 _ _)
  have c4 : W1.cell? ⟨b, 4, none⟩ = some (.int .u32 s.e.toNat) := HB.out.cell 4 (E4 _ _)
  have c5 : W1.cell? ⟨b, 5, none⟩ = some (.int .u32 s.f.toNat) := HB.out.cell 5 (E5 _ _)
  have c6 : W1.cell? ⟨b, 6, none⟩ = some (.int .u32 s.g.toNat) := HB.out.cell 6 (E6 _ _)
  have c7 : W1.cell? ⟨b, 7, none⟩ = some (.int .u32 s.h.toNat) := HB.out.cell 7 (E7 _ _)
  go_quiet (fail)
  go_wp2_with fail
  clear c0 c1 c2 c3 c4 c5 c6 c7
  go_loopw [5, 6, 7, 8, 9, 10, 11, 12, 52] (fun va vb vc vd ve vf vg vh i wr => ∃ (k : Nat) (st : Eight), k ≤ 64 ∧ i = .int .i64 k ∧ st = rounds (wide r) s k ∧ va = .int .u32 st.a.toNat ∧ vb = .int .u32 st.b.toNat ∧ vc = .int .u32 st.c.toNat ∧ vd = .int .u32 st.d.toNat ∧ ve = .int .u32 st.e.toNat ∧ vf = .int .u32 st.f.toNat ∧ vg = .int .u32 st.g.toNat ∧ vh = .int .u32 st.h.toNat ∧ Held w b n1 (B32 s.list ++ rest) T r wr) (fun _ _ _ _ _ _ _ _ i _ => 64 - (intOf i).toNat)
  case atStart => exact ⟨0, s, by omega, rfl, rfl, rfl, rfl, rfl, rfl, rfl, rfl, rfl, rfl, HH.out.drewN nq⟩
  case round =>
    obtain ⟨k, st, hk, rfl, hst, rfl, rfl, rfl, rfl, rfl, rfl, rfl, rfl, hh⟩ := hrel
    have HR := Lib.hid hh
    clear hh HH HB
    by_cases hlt : k < 64
    · have hc := HR.out.2.2.1.cell k (B32_get cubes k (by show k < 64; omega))
      have hw := HR.out.2.1.cell k (B32_get (wide r) k (by rw [wide_length]; omega))
      have hnext : rounds (wide r) s (k + 1) = st.step (cubes.getD k 0) ((wide r).getD k 0) := by rw [rounds, ← hst]
      generalize cubes.getD k 0 = kk at hc hnext
      generalize (wide r).getD k 0 = ww at hw hnext
      clear hst
      obtain ⟨a, b', c, d, e, f, g, h⟩ := st
      have q0 := not_is e
      have q2 := ch_is e f g
      generalize ~~~e = ne at q0 q2
      have r4 := sum4m h (S1 e) (ch e f g) kk
      have hnext : rounds (wide r) s (k + 1) = ⟨(h + S1 e + ch e f g + kk) + ww + (S0 a + maj a b' c), a, b', c, d + ((h + S1 e + ch e f g + kk) + ww), e, f, g⟩ := hnext
      generalize h + S1 e + ch e f g + kk = u at r4 hnext
      have r5 := sum2m u ww
      generalize u + ww = t1 at r5 hnext
      have r6 := sum2m (S0 a) (maj a b' c)
      generalize S0 a + maj a b' c = t2 at r6 hnext
      have r7 := sum2m d t1
      generalize d + t1 = e2 at r7 hnext
      have r8 := sum2m t1 t2
      generalize t1 + t2 = a2 at r8 hnext
      have q3 := S0_is a
      have q4 := maj_is a b' c
      have HN := Lib.hid hnext
      clear hnext
      have hm4 : (k : Int) < 64 := by omega
      have q1 := S1_is e
      go_wp2_with fail
      go_quiet ((go_at_call 127; exact Calls.quiet_of_same (rot_q _ _ (by decide) (by decide) _)))
      go_wp2_with (go_at_call 127; refine (rot_any _ _ (by decide) (by decide) _).mono ?_; rintro e w' ⟨rfl, rfl⟩)
      have x8 : Value.int .u32 (((t1.toNat : Int) + (t2.toNat : Int)) % 4294967296) = Value.int .u32 (a2.toNat : Int) := congrArg _ r8
      have x7 : Value.int .u32 (((d.toNat : Int) + (t1.toNat : Int)) % 4294967296) = Value.int .u32 (e2.toNat : Int) := congrArg _ r7
      have hk1 : k + 1 ≤ 64 := by clear q0 q1 q2 q3 q4 r4 r5 r6 r7 r8 x7 x8; omega
      have hki : Value.int .i64 ((k : Int) + 1) = Value.int .i64 ((k + 1 : Nat) : Int) := rfl
      have hdr := HR.out.drewN nq
      have hHN := HN.out.symm
      clear q0 q1 q2 q3 q4 r4 r5 r6 r7 r8 HR HN hc hw hm4
      refine ⟨⟨k + 1, ⟨a2, a, b', c, e2, e, f, g⟩, hk1, hki, hHN, x8, rfl, rfl, rfl, x7, rfl, rfl, rfl, hdr⟩, ?_⟩
      simp [intOf]; omega
    · have hk64 : k = 64 := by omega
      have hst2 : st = rounds (wide r) s 64 := by rw [← hk64]; exact hst
      have hmix : mix s r = s.add st := by rw [mix, hst2]
      have HMIX := Lib.hid hmix
      clear hst hst2 hmix hk64
      have hd : decide ((k : Int) < 64) = false := by simp; omega
      have hh := HR.out
      clear HR
      have HR := Lib.hid hh
      clear hh hk hlt hz hwl hr hbn h1n hn
      obtain ⟨a, b', c, d, e, f, g, h⟩ := st
      go_wp2_with fail
      have hst : Lies wr b (B32 (mid s ⟨a, b', c, d, e, f, g, h⟩ 0) ++ rest) T ∧ w.grownBy wr (some b) := ⟨HR.out.1, HR.out.2.2.2⟩
      have HST := Lib.hid hst
      clear HR hst hd
      go_loopw [124] (fun i wr => ∃ j : Nat, j ≤ 8 ∧ i = .int .i64 j ∧ Lies wr b (B32 (mid s ⟨a, b', c, d, e, f, g, h⟩ j) ++ rest) T ∧ w.grownBy wr (some b)) (fun i _ => 8 - (intOf i).toNat)
      case atStart => exact ⟨0, by omega, rfl, HST.out⟩
      case round =>
        obtain ⟨j, hj, rfl, hl⟩ := hrel
        by_cases hlt : j < 8
        · have hx := idx8 a b' c d e f g h j hlt
          have hc := hl.1.cell j (front_get _ _ j (by rw [mid_length _ _ _ (by omega)]; exact hlt))
          have hf : wr.frozen? ⟨b, j, none⟩ = false := hl.1.free j
          have hset := hl.1.set j (.int .u32 (s.list.getD j 0 + [a, b', c, d, e, f, g, h].getD j 0).toNat)
          rw [front_set _ _ j (by rw [mid_length _ _ _ (by omega)]; exact hlt)] at hset
          rw [show (mid s ⟨a, b', c, d, e, f, g, h⟩ j).set j (s.list.getD j 0 + [a, b', c, d, e, f, g, h].getD j 0) = mid s ⟨a, b', c, d, e, f, g, h⟩ (j + 1) from mid_set _ _ j hlt] at hset
          rw [mid_get _ _ j hlt] at hc
          have hgr := hl.2
          have r1 := sum2m (s.list.getD j 0) ([a, b', c, d, e, f, g, h].getD j 0)
          generalize [a, b', c, d, e, f, g, h].getD j 0 = x at hx r1 hset
          generalize s.list.getD j 0 = y at hc r1 hset
          generalize y + x = z at r1 hset
          have HSET := Lib.hid hset
          have HGR := Lib.hid hgr
          have m4 : (j : Int) < 8 := by omega
          clear hl hset hgr HST
          go_wp2_with fail
          go_still_tail 9, (by kernel_rfl)
          change wpList _ _ _ _ _ wr.drew
          go_wp2
          clear hc hf r1
          refine ⟨⟨j + 1, by omega, rfl, HSET.out.drew, grown_drew (grown_set HGR.out _ _)⟩, ?_⟩
          simp [intOf]; omega
        · have hd8 : decide ((j : Int) < 8) = false := by simp; omega
          have hj8 : j = 8 := by omega
          rw [hj8, mid_eight, ← HMIX.out] at hl
          have HL := Lib.hid hl
          clear hl hj8 hlt HST HMIX
          go_wp2_with fail
          go_end0
          exact ⟨rfl, HL.out⟩
end Go.Proofs.YtgempifedhiknaaGreatDoor
