/-
  pack: refs, outputs, entries as they come in.
-/
import Derived.Test.YtilbbemdinpjcaaGreatJPp
import Derived.Test.YtilbbemdinpjcaaGreatJVt
import Derived.Test.YtilbbemdinpjcaaGreatJPb
import Derived.WalkKit
import Derived.ProofKit
import Derived.OpenShut
import Derived.Carry
import Derived.SizedLaws
import Derived.Deep.Slices
import Derived.ChangeSlices
import Derived.Test.YtilbbemdinpjcaaGreatJWFault
namespace Go.Proofs.YtilbbemdinpjcaaGreat.P
set_option maxRecDepth 100000
open Go.RowKit

/-- A kind's closure. -/
def KindP (x : T.Nd) (K : Nat) : Prop :=
  (∀ V b p, V.heap[b]? = some (.map (kindsP p) 6) → (Instr.lookup 247 (.map (some b)) (.int .i64 x.kind) false).run Tryz.prog V = .ok (.func (Fn.func K) #[] #[.pointer (some ⟨p, 0, none⟩)]) V) ∧
  (∀ cap V, (callFunc K cap).run Tryz.prog V = .ok (.enter K cap) V) ∧
  ∀ (w : World) (B g : Nat) (v : Value) (st : Option (List UInt8)) (p : Nat), w.cell? ⟨p, 0, none⟩ = some (.pointer (some ⟨g, 0, none⟩)) → Off w g v p → WrO W.WSt w B g v st → sz st ≤ 800000 → Calls Tryz.prog K #[.agg x.cells, .pointer (some ⟨p, 0, none⟩)] w (PutR W.WSt w B g v (ndT st x))
theorem kindP_at (x : T.Nd) (hk : 1 ≤ x.kind ∧ x.kind ≤ 6) (hi : NdIn x) : ∃ K, KindP x K := by
  unfold KindP
  by_cases e1 : x.kind = 1
  · refine ⟨246, fun V b p hb => ?_, fun cap V => T.callK 246 Tryz.f246 Tryz.func246 (by kernel_rfl) (by kernel_rfl) cap V, fun w B g v st p hp hl h hx => ?_⟩
    · rw [e1]; exact run_foundP V b _ 6 1 0 _ hb rfl
    · have := cl2_any w p x hp hl.lt h (by omega)
      rwa [show ndT st x = W.stepN st (W.low64 x.num) 8 by unfold ndT; rw [if_pos e1]]
  by_cases e2 : x.kind = 2
  · refine ⟨247, fun V b p hb => ?_, fun cap V => T.callK 247 Tryz.f247 Tryz.func247 (by kernel_rfl) (by kernel_rfl) cap V, fun w B g v st p hp hl h hx => ?_⟩
    · rw [e2]; exact run_foundP V b _ 6 2 1 _ hb rfl
    · have := cl3_any w p x hp hl.lt hi.txt h (by omega)
      rwa [show ndT st x = W.stepText st x.txt by unfold ndT; rw [if_neg e1, if_pos e2]]
  by_cases e3 : x.kind = 3
  · refine ⟨248, fun V b p hb => ?_, fun cap V => T.callK 248 Tryz.f248 Tryz.func248 (by kernel_rfl) (by kernel_rfl) cap V, fun w B g v st p hp hl h hx => ?_⟩
    · rw [e3]; exact run_foundP V b _ 6 3 2 _ hb rfl
    · have := cl4_any w p x hp hl.lt hi.bits h (by omega)
      rwa [show ndT st x = W.stepN st x.bits 8 by unfold ndT; rw [if_neg e1, if_neg e2, if_pos e3]]
  by_cases e5 : x.kind = 5
  · refine ⟨249, fun V b p hb => ?_, fun cap V => T.callK 249 Tryz.f249 Tryz.func249 (by kernel_rfl) (by kernel_rfl) cap V, fun w B g v st p hp hl h hx => ?_⟩
    · rw [e5]; exact run_foundP V b _ 6 5 4 _ hb rfl
    · have := cl5_any w p x hp hl h hx
      rwa [show ndT st x = W.stepN (W.stepN st (W.low64 x.num) 4) (W.low64 x.kids) 2 by unfold ndT; rw [if_neg e1, if_neg e2, if_neg e3, if_pos e5]]
  refine ⟨245, fun V b p hb => ?_, fun cap V => T.callK 245 Tryz.f245 Tryz.func245 (by kernel_rfl) (by kernel_rfl) cap V, fun w B g v st p hp hl h hx => ?_⟩
  · by_cases e4 : x.kind = 4
    · rw [e4]; exact run_foundP V b _ 6 4 3 _ hb rfl
    · rw [show x.kind = 6 by omega]; exact run_foundP V b _ 6 6 5 _ hb rfl
  · have := cl1_any w p x hp hl.lt h (by omega)
    rwa [show ndT st x = W.stepN st (W.low64 x.kids) 2 by unfold ndT; rw [if_neg e1, if_neg e2, if_neg e3, if_neg e5]]
theorem cost_le {xs : List T.Nd} {k : Nat} : T.cost (xs.take k) ≤ T.cost xs := by
  conv => rhs; rw [← List.take_append_drop k xs, T.cost_app]
  omega
set_option maxHeartbeats 4000000 in
theorem putterTerm_any (w : World) {B g : Nat} {v : Value} {st : Option (List UInt8)} (a : Option Addr) (nc : Nat) (xs : List T.Nd) (hT : Stays g w v fun W => T.TAt W a xs) (hk : ∀ x ∈ xs, 1 ≤ x.kind ∧ x.kind ≤ 6) (hi : ∀ x ∈ xs, NdIn x) (h : WrO W.WSt w B g v st) (hx : sz st + 26 * T.cost xs ≤ 700000) :
    Calls Tryz.prog 119 #[.agg #[.pointer (some ⟨g, 0, none⟩)], .agg #[.slice a xs.length nc]] w (PutR W.WSt w B g v (termS st xs)) := by
  have hn := hT.now.2.1
  have hA : Lies ((w.alloc (.cells #[.pointer (some ⟨g, 0, none⟩)] 170)).alloc (.cells #[.slice a xs.length nc] 24)) w.heap.size #[.pointer (some ⟨g, 0, none⟩)] 170 := (Lies.new _ _ _).alloc _
  have hB : Lies ((w.alloc (.cells #[.pointer (some ⟨g, 0, none⟩)] 170)).alloc (.cells #[.slice a xs.length nc] 24)) (w.heap.size + 1) #[.slice a xs.length nc] 24 := by
    have := Lies.new (w.alloc (.cells #[.pointer (some ⟨g, 0, none⟩)] 170)) #[.slice a xs.length nc] 24
    simpa using this
  have hb0 : Below w.heap.size w ((w.alloc (.cells #[.pointer (some ⟨g, 0, none⟩)] 170)).alloc (.cells #[.slice a xs.length nc] 24)) := ((Below.refl _ _).alloc (Nat.le_refl _) _).alloc (by simp) _
  have H := Lib.hid (And.intro hT (And.intro hk (And.intro hi (And.intro h hx))))
  have HK := Lib.hid (fun V => kindsP_any V g)
  clear hT hk hi h hx
  go_enter Tryz.func119, Tryz.ntmps119
  go_upto_region 1 with fail
  generalize ((w.alloc (.cells #[.pointer (some ⟨g, 0, none⟩)] 170)).alloc (.cells #[.slice a xs.length nc] 24)) = W0 at hA hB hb0 ⊢
  have c0 := hA.cell 0 (v := .pointer (some ⟨g, 0, none⟩)) rfl
  have c1 := hB.cell 0 (v := .slice a xs.length nc) rfl
  have HA := Lib.hid (And.intro hA (And.intro hB hb0))
  clear hA hB hb0
  go_wp2_with fail
  refine (HK.out _).mono ?_
  rintro e W1 ⟨rfl, l1, l2, hb1, hs1⟩
  clear c0 c1
  have hA1 := HA.out.1.below hb1 HA.out.1.lt
  have hB1 := HA.out.2.1.below hb1 HA.out.2.1.lt
  have c1 := hB1.cell 0 (v := .slice a xs.length nc) rfl
  have hbw1 := HA.out.2.2.trans (hb1.mono HA.out.2.2.size)
  have hW1 := H.out.2.2.2.1.belowW hbw1
  have HW := Lib.hid (And.intro hA1 (And.intro hB1 (And.intro hbw1 (And.intro hW1 (And.intro l1 (And.intro l2 hs1))))))
  have hof : ∀ q, w.heap.size ≤ q → q < W1.heap.size → Off W1 g v q := fun q h1 h2 => H.out.2.2.2.1.off h1 h2
  have HO := Lib.hid hof
  have hsz : w.heap.size ≤ W0.heap.size := HA.out.2.2.size
  have HZ := Lib.hid (And.intro hsz (And.intro HA.out.1.lt HA.out.2.1.lt))
  generalize W0.heap.size = z at hs1 l1 l2 hsz HW HZ ⊢
  clear l1 l2 hb1 hbw1 hA1 hB1 hW1 hs1 hof hsz
  go_wp2_with fail
  go_loopw [12] (fun i Z => ∃ (k : Nat) (u : Value), k ≤ xs.length ∧ i = .int .i64 k ∧ WrO W.WSt Z B g u (termS st (xs.take k)) ∧ Lk g W1 v Z u) (fun i _ => (xs.length - intOf i).toNat)
  case atStart => exact ⟨0, v, by omega, by go_num, HW.out.2.2.2.1, Lk.refl _ _ _⟩
  case round =>
    obtain ⟨k, u, hk, rfl, hwr, hlk⟩ := hrel
    by_cases hlt : k < xs.length
    · have hmem : xs[k] ∈ xs := List.getElem_mem hlt
      obtain ⟨K, hK⟩ := kindP_at xs[k] (H.out.2.1 _ hmem) (H.out.2.2.1 _ hmem)
      have hfull : Lk g w v wr u := (Lk.of_below HW.out.2.2.1).trans hlk
      obtain ⟨gx, off, rfl, hat⟩ := (H.out.1 _ _ hfull).1 (by omega)
      have hxc := hat.2 k hlt
      have hst : termS st (xs.take (k + 1)) = ndT (W.stepN (termS st (xs.take k)) (W.low64 xs[k].kind) 1) xs[k] := termS_take hlt st
      have hs0 := sz_term (xs.take k) st
      have hs1 := cost_le (xs := xs) (k := k)
      have hs2 := sz_N (termS st (xs.take k)) (W.low64 xs[k].kind) 1
      have hxx := H.out.2.2.2.2
      obtain ⟨x, ex⟩ : ∃ x, x = xs[k] := ⟨_, rfl⟩
      rw [← ex] at hK hxc hst hs2
      obtain ⟨k1, n1, b1, t1, d1⟩ := x
      have x0 : wr.cell? ⟨gx, off + k * 5, none⟩ = some (.int .i64 k1) := hxc 0 _ rfl
      have x1 : wr.cell? ⟨gx, off + k * 5 + 1, none⟩ = some (.int .i64 n1) := hxc 1 _ rfl
      have x2 : wr.cell? ⟨gx, off + k * 5 + 2, none⟩ = some (.int .u64 b1) := hxc 2 _ rfl
      have x3 : wr.cell? ⟨gx, off + k * 5 + 3, none⟩ = some (.string t1) := hxc 3 _ rfl
      have x4 : wr.cell? ⟨gx, off + k * 5 + 4, none⟩ = some (.int .i64 d1) := hxc 4 _ rfl
      have q0 : (0 : Int) ≤ (k : Int) := by omega
      have q1 : (k : Int) < (xs.length : Int) := by omega
      have hB := (Lies.new wr #[.int .i64 k1, .int .i64 n1, .int .u64 b1, .string t1, .int .i64 d1] 72)
      have hbA : Below wr.heap.size wr (wr.alloc (.cells #[.int .i64 k1, .int .i64 n1, .int .u64 b1, .string t1, .int .i64 d1] 72)) := (Below.refl _ _).alloc (Nat.le_refl _) _
      have hqq := hwr.off (w' := wr.alloc (.cells #[.int .i64 k1, .int .i64 n1, .int .u64 b1, .string t1, .int .i64 d1] 72)) (Nat.le_refl _) (by simp)
      have p0 := (hlk.cell (o := 0) (HO.out w.heap.size (Nat.le_refl _) (Nat.lt_of_lt_of_le HW.out.1.lt (Nat.le_refl _))).lt (HO.out w.heap.size (Nat.le_refl _) HW.out.1.lt).ne (HO.out w.heap.size (Nat.le_refl _) HW.out.1.lt).own).trans (HW.out.1.cell 0 (v := .pointer (some ⟨g, 0, none⟩)) rfl)
      have HQ := Lib.hid (And.intro hqq (And.intro hs0 (And.intro hs1 (And.intro hs2 (And.intro hxx (And.intro hst hK))))))
      have HRD := Lib.hid (And.intro hwr hlk)
      clear hwr hlk hqq hs0 hs1 hs2 hxx hst hK ex hxc hat hfull hmem
      go_upto_region 5 with fail
      generalize wr.alloc (.cells #[.int .i64 k1, .int .i64 n1, .int .u64 b1, .string t1, .int .i64 d1] 72) = W5 at hB hbA HQ ⊢
      clear x0 x1 x2 x3 x4
      have y0 := hB.cell 0 (v := .int .i64 k1) rfl
      have p5 := (hbA.cell (p := ⟨w.heap.size, 0, none⟩) (HO.out w.heap.size (Nat.le_refl _) HW.out.1.lt |>.on HRD.out.2).lt).trans p0
      have HC1 := Lib.hid (wU8 W5 k1 (HRD.out.1.belowW hbA) (by have := HQ.out; omega))
      have HB5 := Lib.hid (And.intro hbA hB)
      clear hbA hB p0
      go_wp2_with fail
      refine HC1.out.mono ?_
      rintro e W6 ⟨rfl, u6, hw6, hk6⟩
      have hl6 : Lk g W1 v W6 u6 := (HRD.out.2.below HB5.out.1).trans hk6
      have hmp : W6.heap[z + 1]? = some (.map (kindsP z) 6) := by
        have hlt1 := (Array.getElem?_eq_some_iff.1 HW.out.2.2.2.2.2.1).1
        have ho := HO.out (z + 1) (by have := HZ.out.1; omega) hlt1
        exact (hl6.block hlt1 ho.ne ho.own).trans HW.out.2.2.2.2.2.1
      have hzl : z < W1.heap.size := by have := HW.out.2.2.2.2.2.2; omega
      have hoz := HO.out z HZ.out.1 hzl
      have hpz := (hl6.cell (o := 0) hoz.lt hoz.ne hoz.own).trans HW.out.2.2.2.2.1
      have hlk6 := HQ.out.2.2.2.2.2.2.1 W6 (z + 1) z hmp
      have hcf := HQ.out.2.2.2.2.2.2.2.1
      have hq6 := HQ.out.1
      have hb6 := hk6.lies HB5.out.2 hq6.ne hq6.own
      have y0 := hb6.cell 0 (v := .int .i64 k1) rfl
      have y1 := hb6.cell 1 (v := .int .i64 n1) rfl
      have y2 := hb6.cell 2 (v := .int .u64 b1) rfl
      have y3 := hb6.cell 3 (v := .string t1) rfl
      have y4 := hb6.cell 4 (v := .int .i64 d1) rfl
      have HC2 := Lib.hid (HQ.out.2.2.2.2.2.2.2.2 W6 B g u6 _ z hpz (hoz.on hl6) hw6 (by have := HQ.out; omega))
      have HL6 := Lib.hid hl6
      clear hw6 hk6 hl6 hmp hzl hoz hpz hq6 hb6 HC1 p5
      dsimp only at hlk6
      unfold T.Nd.cells at HC2
      go_wp2_with fail
      refine HC2.out.mono ?_
      rintro e W7 ⟨rfl, u7, hw7, hk7⟩
      have HN := Lib.hid (And.intro hw7 (HL6.out.trans hk7))
      clear hw7 hk7 hlk6 y0 y1 y2 y3 y4 HC2
      go_wp2_with fail
      go_roundw
      case rel => exact ⟨k + 1, u7, by omega, by go_num, by rw [HQ.out.2.2.2.2.2.1]; exact HN.out.1, HN.out.2⟩
      case measure => simp [intOf]; omega
    · have hke : k = xs.length := by omega
      have HN := Lib.hid (And.intro hwr hlk)
      clear hwr hlk
      go_wp2_with fail
      go_end0
      have hw := HN.out.1
      rw [hke, List.take_of_length_le (Nat.le_refl _)] at hw
      exact PutR.end_ hw ((Lk.of_below HW.out.2.2.1).trans HN.out.2)
end Go.Proofs.YtilbbemdinpjcaaGreat.P
namespace Go.Proofs.YtilbbemdinpjcaaGreat.P
set_option maxRecDepth 100000
open Go.RowKit

theorem right_kinds {xs : List T.Nd} (h : T.rightB xs = true) : ∀ x ∈ xs, 1 ≤ x.kind ∧ x.kind ≤ 6 := by
  intro x hx
  unfold T.rightB T.fitsB at h
  simp only [Bool.and_eq_true] at h
  obtain ⟨i, hi, rfl⟩ := List.mem_iff_getElem.1 hx
  have hk := (T.kindsB_iff.1 h.2.2.2) i hi
  unfold T.kindB at hk
  split at hk
  · omega
  · split at hk
    · omega
    · split at hk
      · omega
      · split at hk
        · omega
        · split at hk
          · omega
          · split at hk
            · omega
            · cases hk
theorem putTermG_any (w : World) {B g : Nat} {v : Value} {st : Option (List UInt8)} (a : Option Addr) (nc : Nat) (xs : List T.Nd) (hT : Stays g w v fun W => T.TAt W a xs) (hc : xs.length ≤ nc) (hi : ∀ x ∈ xs, NdIn x) (h : WrO W.WSt w B g v st) (hx : sz st + 26 * T.cost xs ≤ 700000) :
    Calls Tryz.prog 117 #[.pointer (some ⟨g, 0, none⟩), .agg #[.slice a xs.length nc], .func (Fn.func 118) #[] #[], .func (Fn.func 119) #[] #[]] w (PutR W.WSt w B g v (if T.rightB xs then termS st xs else none)) := by
  obtain ⟨r, hr⟩ : ∃ r, r = T.rightB xs := ⟨_, rfl⟩
  have hA := Lies.new w #[.slice a xs.length nc] 24
  have hb : Below w.heap.size w (w.alloc (.cells #[.slice a xs.length nc] 24)) := (Below.refl _ _).alloc (Nat.le_refl _) _
  have hf1 := T.callK 118 Tryz.f118 Tryz.func118 (by kernel_rfl) (by kernel_rfl)
  have hf2 := T.callK 119 Tryz.f119 Tryz.func119 (by kernel_rfl) (by kernel_rfl)
  have hk : r = true → ∀ x ∈ xs, 1 ≤ x.kind ∧ x.kind ≤ 6 := fun e => right_kinds (hr ▸ e)
  have hR : ∀ W, T.TAt W a xs → Calls Tryz.prog 118 #[.agg #[.slice a xs.length nc]] W fun e w' => e = .returned (.bool r) ∧ Below W.heap.size W w' := fun W hW => by rw [hr]; exact T.rightT_any W a nc xs hW hc
  have HR := Lib.hid (hR _ ((hT.on (Lk.of_below hb)).now))
  obtain ⟨s2, hs2⟩ : ∃ s, s = (if r then termS st xs else none) := ⟨_, rfl⟩
  rw [← hr, ← hs2]
  have H := Lib.hid (And.intro hT (And.intro hi (And.intro h (And.intro hx (And.intro hr hk)))))
  have HS := Lib.hid hs2
  clear hT hi h hx hr hk hR hc hs2
  go_enter Tryz.func117, Tryz.ntmps117
  go_upto_region 1 with fail
  generalize w.alloc (.cells #[.slice a xs.length nc] 24) = W0 at hA hb HR ⊢
  have c0 := hA.cell 0 (v := .slice a xs.length nc) rfl
  have HB := Lib.hid (And.intro hb hA)
  clear hA hb
  go_wp2_with fail
  refine HR.out.mono ?_
  rintro e W1 ⟨rfl, hb1⟩
  have hbw := HB.out.1.trans (hb1.mono HB.out.1.size)
  have hw1 := H.out.2.2.1.belowW hbw
  have hA1 := HB.out.2.below hb1 HB.out.2.lt
  have hT1 := H.out.1.on (Lk.of_below hbw)
  clear c0 hb1 HR
  cases r with
  | true =>
    have c0 := hA1.cell 0 (v := .slice a xs.length nc) rfl
    have HC := Lib.hid (putterTerm_any W1 a nc xs hT1 (H.out.2.2.2.2.2 rfl) H.out.2.1 hw1 H.out.2.2.2.1)
    have HW := Lib.hid hbw
    clear hbw hw1 hA1 hT1
    go_wp2_with fail
    refine HC.out.mono ?_
    rintro e W2 hr2
    obtain ⟨rfl, hr2⟩ := hr2
    have HE := Lib.hid hr2
    clear hr2 c0 HC
    go_wp2_with fail
    go_end0
    rw [HS.out]
    exact PutR.after HW.out ⟨rfl, HE.out⟩
  | false =>
    have HC := Lib.hid (wSpoil W1 hw1)
    have HW := Lib.hid hbw
    clear hbw hw1 hA1 hT1
    go_wp2_with fail
    refine HC.out.mono ?_
    rintro e W2 hr2
    obtain ⟨rfl, hr2⟩ := hr2
    have HE := Lib.hid hr2
    clear hr2 HC
    go_wp2_with fail
    first
      | go_end0
      | refine bodyPost_ret (results_none rfl _ _ _) rfl ?_
    rw [HS.out]
    exact PutR.after HW.out ⟨rfl, HE.out⟩
theorem putTerm_any (w : World) {B g : Nat} {v : Value} {st : Option (List UInt8)} (a : Option Addr) (nc : Nat) (xs : List T.Nd) (hT : Stays g w v fun W => T.TAt W a xs) (hc : xs.length ≤ nc) (hi : ∀ x ∈ xs, NdIn x) (h : WrO W.WSt w B g v st) (hx : sz st + 26 * T.cost xs ≤ 700000) :
    Calls Tryz.prog 47 #[.pointer (some ⟨g, 0, none⟩), .agg #[.slice a xs.length nc]] w (PutR W.WSt w B g v (if T.rightB xs then termS st xs else none)) := by
  have hA := Lies.new w #[.slice a xs.length nc] 24
  have hb : Below w.heap.size w (w.alloc (.cells #[.slice a xs.length nc] 24)) := (Below.refl _ _).alloc (Nat.le_refl _) _
  obtain ⟨s2, hs2⟩ : ∃ s, s = (if T.rightB xs then termS st xs else none) := ⟨_, rfl⟩
  have hC := putTermG_any _ a nc xs (hT.on (Lk.of_below hb)) hc hi (h.belowW hb) hx
  rw [← hs2] at hC ⊢
  have HC := Lib.hid hC
  clear hT hi h hx hs2 hC hc
  go_enter Tryz.func47, Tryz.ntmps47
  go_upto_region 1 with fail
  generalize w.alloc (.cells #[.slice a xs.length nc] 24) = W0 at hA hb HC ⊢
  have c0 := hA.cell 0 (v := .slice a xs.length nc) rfl
  have HB := Lib.hid hb
  clear hA hb
  go_wp2_with fail
  refine HC.out.mono ?_
  rintro e W2 hr2
  obtain ⟨rfl, hr2⟩ := hr2
  have HE := Lib.hid hr2
  clear hr2 HC
  go_wp2_with fail
  go_end0
  exact PutR.after HB.out ⟨rfl, HE.out⟩
end Go.Proofs.YtilbbemdinpjcaaGreat.P
namespace Go.Proofs.YtilbbemdinpjcaaGreat.P
set_option maxRecDepth 100000
open Go.RowKit

def zAsP : Array Value := Array.replicate 32 (.int .u8 0) ++ #[.string ⟨#[]⟩, .int .i64 0]
theorem alloc_assetP (w : World) : (Instr.alloc 146 true (.tuple #[])).run Tryz.prog w = .ok (.pointer (some ⟨w.heap.size, 0, none⟩)) (w.alloc (.cells zAsP 146)) := by kernel_rfl
theorem info_hashP : (Tryz.prog.info? 30).map (·.size) = some 32 := by kernel_rfl
theorem asC_polP {U : World} {b : Nat} {a : As} (h : a.nm.1.length = 32) (hL : Lies U b (asC a) 146) : U.rangeAt b 0 (B8 a.nm.1).toList := fun j v hv => by
  rw [Array.getElem?_toList] at hv
  have hj : j < 32 := by
    have := (Array.getElem?_eq_some_iff.1 hv).1
    rw [B8_size, h] at this
    exact this
  rw [Nat.zero_add]
  refine hL.cell j ?_
  rw [asC_get a h j hj, ← B8_get a.nm.1 j (by omega)]
  exact hv
theorem cntA_le {l : List As} {k : Nat} : cntA (l.take k) ≤ cntA l := by
  unfold cntA
  conv => rhs; rw [← List.take_append_drop k l, List.map_append, List.sum_append]
  rw [List.map_take]
  have : (l.map fun a => 1 + a.nm.2.length / 16).take k = (l.take k).map fun a => 1 + a.nm.2.length / 16 := by rw [List.map_take]
  rw [this]
  omega
theorem box_one (w : World) (v : Value) (t : TypeId) : Lies (w.alloc (.cells #[v] t)) w.heap.size #[v] t ∧ Below w.heap.size w (w.alloc (.cells #[v] t)) := ⟨Lies.new _ _ _, (Below.refl _ _).alloc (Nat.le_refl _) _⟩
set_option maxHeartbeats 4000000 in
theorem putterAssets_any (w : World) {B g : Nat} {v : Value} {st : Option (List UInt8)} (pa : Option Addr) (nc : Nat) (l : List As) (hT : Stays g w v fun W => Row W pa l) (h : WrO W.WSt w B g v st) (hx : sz st + 57 * cntA l ≤ 700000) :
    Calls Tryz.prog 182 #[.agg #[.pointer (some ⟨g, 0, none⟩)], .slice pa l.length nc] w (PutR W.WSt w B g v (asListS st l)) := by
  have hn : (l.length : Int) ≤ 9223372036854775807 := by have := hT.now.1; unfold maxLen at this; omega
  have hok := hT.now.2.1
  have hal := alloc_assetP
  obtain ⟨hA, hb0⟩ := box_one w (.pointer (some ⟨g, 0, none⟩)) 170
  have hpo := h.off (w' := w.alloc (.cells #[.pointer (some ⟨g, 0, none⟩)] 170)) (Nat.le_refl _) (by simp)
  have H := Lib.hid (And.intro hT (And.intro hok (And.intro h hx)))
  clear hT hok h hx
  go_enter Tryz.func182, Tryz.ntmps182
  go_upto_region 1 with fail
  generalize w.alloc (.cells #[.pointer (some ⟨g, 0, none⟩)] 170) = W0 at hA hb0 hpo ⊢
  obtain ⟨p, hpe⟩ : ∃ p, p = w.heap.size := ⟨_, rfl⟩
  rw [← hpe] at hA hpo ⊢
  have c0 := hA.cell 0 (v := .pointer (some ⟨g, 0, none⟩)) rfl
  have HC := Lib.hid (wU16 W0 l.length (H.out.2.2.1.belowW hb0) (by have := H.out.2.2.2; omega))
  have HA := Lib.hid (And.intro hA (And.intro hpo hb0))
  clear hA hpo hb0 hpe
  go_wp2_with fail
  refine HC.out.mono ?_
  rintro e W1 ⟨rfl, u1, hw1, hk1⟩
  have hp1 : ∀ W u, Lk g W1 u1 W u → W.cell? ⟨p, 0, none⟩ = some (.pointer (some ⟨g, 0, none⟩)) := fun W u hl => by
    have ho := HA.out.2.1.on hk1
    rw [hl.cell (o := 0) ho.lt ho.ne ho.own, hk1.cell (o := 0) HA.out.2.1.lt HA.out.2.1.ne HA.out.2.1.own]
    exact HA.out.1.cell 0 rfl
  have HW := Lib.hid (And.intro hw1 (And.intro ((Lk.of_below HA.out.2.2).trans hk1) hp1))
  clear hw1 hk1 hp1 c0 HC
  go_wp2_with fail
  go_loopw [13] (fun i Z => ∃ (k : Nat) (u : Value), k ≤ l.length ∧ i = .int .i64 k ∧ WrO W.WSt Z B g u ((l.take k).foldl asS (W.stepN st (W.low64 l.length) 2)) ∧ Lk g W1 u1 Z u) (fun i _ => (l.length - intOf i).toNat)
  case atStart => exact ⟨0, u1, by omega, by go_num, HW.out.1, Lk.refl _ _ _⟩
  case round =>
    obtain ⟨k, u, hk, rfl, hwr, hlk⟩ := hrel
    by_cases hlt : k < l.length
    · have hfull : Lk g w v wr u := HW.out.2.1.trans hlk
      obtain ⟨gx, off, rfl, hgl, hat⟩ := (H.out.1 _ _ hfull).2.2 (by omega)
      obtain ⟨a, hka⟩ : ∃ a, l[k]? = some a := ⟨l[k], List.getElem?_eq_getElem hlt⟩
      have haok := H.out.2.1 a (List.mem_of_getElem? hka)
      have hra := hat k a hka
      obtain ⟨s0, hs0⟩ : ∃ s, s = (l.take k).foldl asS (W.stepN st (W.low64 l.length) 2) := ⟨_, rfl⟩
      have hst : (l.take (k + 1)).foldl asS (W.stepN st (W.low64 l.length) 2) = asS s0 a := by rw [hs0]; exact foldl_take _ _ _ _ _ hka
      have hsz0 : sz s0 + 57 * (1 + a.nm.2.length / 16) ≤ 700010 := by
        have h1 := sz_asF (l.take k) (W.stepN st (W.low64 l.length) 2) (fun x hx => (H.out.2.1 x (List.mem_of_mem_take hx)).1)
        have h2 := cntA_le (l := l) (k := k + 1)
        rw [cntA_take hka] at h2
        have h3 := H.out.2.2.2
        have h4 := sz_N st (W.low64 l.length) 2
        rw [← hs0] at h1
        omega
      rw [← hs0] at hwr
      obtain ⟨av, hav⟩ : ∃ x, x = asC a := ⟨_, rfl⟩
      have hL := Lies.new wr av 146
      have hbA : Below wr.heap.size wr (wr.alloc (.cells av 146)) := (Below.refl _ _).alloc (Nat.le_refl _) _
      have hqq := hwr.off (w' := wr.alloc (.cells av 146)) (Nat.le_refl _) (by simp)
      have q0 : (0 : Int) ≤ (k : Int) := by omega
      have q1 : (k : Int) < (l.length : Int) := by omega
      have HE := Lib.hid (And.intro (show wr.rangeAt gx (off + k * 34) av.toList by rw [hav]; exact hra) (And.intro (show (Tryz.prog.info? 146).map (·.size) = some av.toList.length by rw [Array.length_toList, hav, asC_size a haok.1]; exact info_asset) (And.intro (show (Tryz.prog.info? 146).map (·.size) = some av.size by rw [hav, asC_size a haok.1]; exact info_asset) (And.intro (show av.size = 34 by rw [hav, asC_size a haok.1]) (show av.all (·.oneCell') = true by rw [hav]; exact asC_one a)))))
      have HR := Lib.hid (And.intro hwr (And.intro hlk (And.intro hst (And.intro hsz0 (And.intro haok hav)))))
      clear hs0 hwr hlk hst hsz0 haok hav hra hat hfull hgl
      go_upto_region 5 with (first
        | (refine wpList_load_mid rfl 146 _ rfl gx (off + k * 34) rfl av.toList _ HE.out.1 Tryz.underlying146 rfl HE.out.2.1 ?_)
        | (refine wpList_store_row rfl 146 _ _ rfl wr.heap.size av rfl rfl 146 zAsP (Lies.new wr zAsP 146) HE.out.2.2.1 (by rw [HE.out.2.2.2.1]; kernel_rfl) HE.out.2.2.2.2 ?_))
      rw [World.setRow_alloc_new]
      generalize wr.alloc (.cells av 146) = W5 at hL hbA hqq ⊢
      obtain ⟨q, hq⟩ : ∃ q, q = wr.heap.size := ⟨_, rfl⟩
      rw [← hq] at hL hqq ⊢
      clear hq
      have hl5 : Lk g W1 u1 W5 u := HR.out.2.1.below hbA
      have cp := HW.out.2.2 W5 u hl5
      have HC1 := Lib.hid (wHash W5 a.nm.1 HR.out.2.2.2.2.1.1 (HR.out.1.belowW hbA) (by have := HR.out.2.2.2.1; omega))
      have HQ := Lib.hid (And.intro hl5 (And.intro hqq hL))
      have hpol : W5.rangeAt q 0 (B8 a.nm.1).toList := asC_polP HR.out.2.2.2.2.1.1 (by rw [← HR.out.2.2.2.2.2]; exact hL)
      have HP := Lib.hid (And.intro hpol (show (Tryz.prog.info? 30).map (·.size) = some (B8 a.nm.1).toList.length by rw [Array.length_toList, B8_size, HR.out.2.2.2.2.1.1]; exact info_hashP))
      clear hpol hl5 hqq hL hbA
      go_wp2_with (first
        | (at_builtin; fail)
        | (refine wpList_load_mid rfl 30 _ rfl q 0 rfl (B8 a.nm.1).toList _ HP.out.1 Tryz.underlying30 rfl HP.out.2 ?_))
      refine HC1.out.mono ?_
      rintro e W6 ⟨rfl, u6, hw6, hk6⟩
      have hl6 := HQ.out.1.trans hk6
      have cp := HW.out.2.2 W6 u6 hl6
      have hL6 := hk6.lies HQ.out.2.2 HQ.out.2.1.ne HQ.out.2.1.own
      have hs1 := sz_B s0 a.nm.1
      have c32 := (show Lies W6 q (asC a) 146 by rw [← HR.out.2.2.2.2.2]; exact hL6).cell 32 (asC_txt a HR.out.2.2.2.2.1.1)
      have HC2 := Lib.hid (wText W6 (txt a.nm.2) (by rw [txt_size]; have := HR.out.2.2.2.1; omega) hw6 (by have := HR.out.2.2.2.1; have := HR.out.2.2.2.2.1.1; omega))
      have HQ6 := Lib.hid (And.intro hl6 (And.intro (HQ.out.2.1.on hk6) (And.intro hL6 hs1)))
      clear hl6 hL6 hk6 hw6 hs1 HC1
      go_wp2_with fail
      refine HC2.out.mono ?_
      rintro e W7 ⟨rfl, u7, hw7, hk7⟩
      have hl7 := HQ6.out.1.trans hk7
      have cp := HW.out.2.2 W7 u7 hl7
      have hL7 := hk7.lies HQ6.out.2.2.1 HQ6.out.2.1.ne HQ6.out.2.1.own
      have hs2 := sz_T (W.stepB s0 a.nm.1) (txt a.nm.2)
      rw [txt_size] at hs2
      have c33 := (show Lies W7 q (asC a) 146 by rw [← HR.out.2.2.2.2.2]; exact hL7).cell 33 (asC_amt a HR.out.2.2.2.2.1.1)
      have HC3 := Lib.hid (wI64 W7 a.amt hw7 (by have := HR.out.2.2.2.1; have := HR.out.2.2.2.2.1.1; have := HQ6.out.2.2.2; omega))
      have HQ7 := Lib.hid hl7
      clear hl7 hL7 hk7 hw7 hs2 HC2 c32
      go_wp2_with fail
      refine HC3.out.mono ?_
      rintro e W8 ⟨rfl, u8, hw8, hk8⟩
      have HN := Lib.hid (And.intro hw8 (HQ7.out.trans hk8))
      clear hw8 hk8 c33 cp HC3
      go_wp2_with fail
      go_roundw
      case rel => exact ⟨k + 1, u8, by omega, by go_num, by rw [HR.out.2.2.1]; exact HN.out.1, HN.out.2⟩
      case measure => simp [intOf]; omega
    · have hke : k = l.length := by omega
      have HN := Lib.hid (And.intro hwr hlk)
      clear hwr hlk
      go_wp2_with fail
      go_end0
      have hw := HN.out.1
      rw [hke, List.take_of_length_le (Nat.le_refl _)] at hw
      exact PutR.end_ hw (HW.out.2.1.trans HN.out.2)
end Go.Proofs.YtilbbemdinpjcaaGreat.P
namespace Go.Proofs.YtilbbemdinpjcaaGreat.P
set_option maxRecDepth 100000
open Go.RowKit

theorem box_two (w : World) (A C : Array Value) (t s : TypeId) : Lies ((w.alloc (.cells A t)).alloc (.cells C s)) w.heap.size A t ∧ Lies ((w.alloc (.cells A t)).alloc (.cells C s)) (w.heap.size + 1) C s ∧ Below w.heap.size w ((w.alloc (.cells A t)).alloc (.cells C s)) ∧ ((w.alloc (.cells A t)).alloc (.cells C s)).heap.size = w.heap.size + 2 := by
  have h2 := Lies.new (w.alloc (.cells A t)) C s
  rw [show (w.alloc (.cells A t)).heap.size = w.heap.size + 1 by simp] at h2
  exact ⟨(Lies.new _ _ _).alloc _, h2, ((Below.refl _ _).alloc (Nat.le_refl _) _).alloc (by simp) _, by simp⟩
/-- The putter's box, and another one. -/
structure Bx (w W : World) (g : Nat) (v : Value) (p q : Nat) (cs : Array Value) (t : TypeId) : Prop where
  lp : Lies W p #[.pointer (some ⟨g, 0, none⟩)] 170
  lq : Lies W q cs t
  b : Below w.heap.size w W
  op : Off W g v p
  oq : Off W g v q
theorem bx_of {w : World} {B g : Nat} {v : Value} {st : Option (List UInt8)} {S : World → Nat → Nat → Value → Option (List UInt8) → Prop} (h : WrO S w B g v st) (cs : Array Value) (t : TypeId) : Bx w ((w.alloc (.cells #[.pointer (some ⟨g, 0, none⟩)] 170)).alloc (.cells cs t)) g v w.heap.size (w.heap.size + 1) cs t := by
  obtain ⟨h1, h2, h3, h4⟩ := box_two w #[.pointer (some ⟨g, 0, none⟩)] cs 170 t
  exact ⟨h1, h2, h3, h.off (Nat.le_refl _) (by rw [h4]; omega), h.off (by omega) (by rw [h4]; omega)⟩
theorem Bx.on {w W W' : World} {g : Nat} {v v' : Value} {p q : Nat} {cs : Array Value} {t : TypeId} (h : Bx w W g v p q cs t) (k : Lk g W v W' v') : Lies W' p #[.pointer (some ⟨g, 0, none⟩)] 170 ∧ Lies W' q cs t := ⟨k.lies h.lp h.op.ne h.op.own, k.lies h.lq h.oq.ne h.oq.own⟩
set_option maxHeartbeats 4000000 in
theorem putterValue_any (w : World) {B g : Nat} {v : Value} {st : Option (List UInt8)} (x : Va) (hT : Stays g w v fun W => Row W x.pa x.l) (h : WrO W.WSt w B g v st) (hx : sz st + 57 * cntV x ≤ 700000) :
    Calls Tryz.prog 184 #[.agg #[.pointer (some ⟨g, 0, none⟩)], .agg (vaC x)] w (PutR W.WSt w B g v (valS st x)) := by
  have hB := bx_of h #[.int .i64 x.coin, .slice x.pa x.l.length x.c] 27
  have H := Lib.hid (And.intro hT (And.intro h (show sz st + 57 + 57 * cntA x.l ≤ 700000 by unfold cntV at hx; omega)))
  clear hT h hx
  unfold vaC vC
  go_enter Tryz.func184, Tryz.ntmps184
  go_upto_region 1 with fail
  generalize ((w.alloc (.cells #[.pointer (some ⟨g, 0, none⟩)] 170)).alloc (.cells #[.int .i64 x.coin, .slice x.pa x.l.length x.c] 27)) = W0 at hB ⊢
  obtain ⟨p, hp⟩ : ∃ p, p = w.heap.size := ⟨_, rfl⟩
  obtain ⟨q, hq⟩ : ∃ q, q = w.heap.size + 1 := ⟨_, rfl⟩
  rw [← hq, ← hp] at hB ⊢
  clear hp hq
  have c0 := hB.lp.cell 0 (v := .pointer (some ⟨g, 0, none⟩)) rfl
  have c1 := hB.lq.cell 0 (v := .int .i64 x.coin) rfl
  have HC := Lib.hid (wI64 W0 x.coin (H.out.2.1.belowW hB.b) (by have := H.out.2.2; omega))
  have HB := Lib.hid hB
  clear hB
  go_wp2_with fail
  refine HC.out.mono ?_
  rintro e W1 ⟨rfl, u1, hw1, hk1⟩
  obtain ⟨l1, l2⟩ := HB.out.on hk1
  have hl1 := (Lk.of_below HB.out.b (v := v) (g := g)).trans hk1
  have c0 := l1.cell 0 (v := .pointer (some ⟨g, 0, none⟩)) rfl
  have c1 := l2.cell 1 (v := .slice x.pa x.l.length x.c) rfl
  have HC1 := Lib.hid (putterAssets_any W1 x.pa x.c x.l (H.out.1.on hl1) hw1 (by have := H.out.2.2; have := sz_N st (W.low64 x.coin) 8; omega))
  have HL := Lib.hid hl1
  clear hw1 hk1 l1 l2 hl1 HC
  go_wp2_with fail
  refine HC1.out.mono ?_
  rintro e W2 hr
  obtain ⟨rfl, hr⟩ := hr
  have HE := Lib.hid hr
  clear hr c0 c1 HC1
  go_wp2_with fail
  go_end0
  exact PutR.on HL.out ⟨rfl, HE.out⟩
/-- An address. -/
def adC (b : Bool) (ah : List UInt8) : Array Value := #[.bool b] ++ B8 ah
theorem info_address : (Tryz.prog.info? 32).map (·.size) = some 33 := by kernel_rfl
theorem adC_hash {W : World} {q : Nat} {b : Bool} {ah : List UInt8} {t : TypeId} (h : Lies W q (adC b ah) t) : W.rangeAt q 1 (B8 ah).toList := fun j v hj => by
  refine h.cell (1 + j) ?_
  unfold adC
  rw [Array.getElem?_append_right (by simp)]
  rw [Array.getElem?_toList] at hj
  simpa using hj
set_option maxHeartbeats 4000000 in
theorem putterAddress_any (w : World) {B g : Nat} {v : Value} {st : Option (List UInt8)} (b : Bool) (ah : List UInt8) (hl : ah.length = 32) (h : WrO W.WSt w B g v st) (hx : sz st ≤ 700000) :
    Calls Tryz.prog 211 #[.agg #[.pointer (some ⟨g, 0, none⟩)], .agg (adC b ah)] w (PutR W.WSt w B g v (W.stepB (W.stepB st [if b then 1 else 0]) ah)) := by
  obtain ⟨av, hav⟩ : ∃ x, x = adC b ah := ⟨_, rfl⟩
  obtain ⟨x0, hx0⟩ : ∃ x : List UInt8, x = [if b then 1 else 0] := ⟨_, rfl⟩
  have hx1 : x0.length = 1 := by rw [hx0]; rfl
  have HX := Lib.hid (And.intro (show ∀ W0, WrO W.WSt W0 B g v st → sz st ≤ 900000 → Calls Tryz.prog 266 #[.pointer (some ⟨g, 0, none⟩), .bool b] W0 (PutR W.WSt W0 B g v (W.stepB st x0)) from fun W0 h hx => by rw [hx0]; exact wFlag W0 b h hx) hx1)
  rw [← hav, ← hx0]
  clear hx0 hx1
  have hB := bx_of h av 32
  have H := Lib.hid (And.intro hav (And.intro h (And.intro hl hx)))
  have HP := Lib.hid (show (Tryz.prog.info? 30).map (·.size) = some (B8 ah).toList.length by rw [Array.length_toList, B8_size, hl]; exact info_hashP)
  clear hav h hx hl
  obtain ⟨W0, HW⟩ : ∃ W0, (w.alloc (.cells #[.pointer (some ⟨g, 0, none⟩)] 170)).alloc (.cells av 32) = W0 := ⟨_, rfl⟩
  go_enter Tryz.func211, Tryz.ntmps211
  go_upto_region 1 with fail
  rw [HW] at hB
  clear HW
  obtain ⟨p, hp⟩ : ∃ p, p = w.heap.size := ⟨_, rfl⟩
  obtain ⟨q, hq⟩ : ∃ q, q = w.heap.size + 1 := ⟨_, rfl⟩
  rw [← hq, ← hp] at hB ⊢
  clear hp hq
  have c0 := hB.lp.cell 0 (v := .pointer (some ⟨g, 0, none⟩)) rfl
  have c1 := (show Lies W0 q (adC b ah) _ by rw [← H.out.1]; exact hB.lq).cell 0 (v := .bool b) (by unfold adC; rw [Array.getElem?_append_left (by simp)]; rfl)
  have HC := Lib.hid (HX.out.1 W0 (H.out.2.1.belowW hB.b) (by have := H.out.2.2.2; omega))
  have HB := Lib.hid hB
  clear hB
  go_wp2_with fail
  refine HC.out.mono ?_
  rintro e W1 ⟨rfl, u1, hw1, hk1⟩
  obtain ⟨l1, l2⟩ := HB.out.on hk1
  have hl1 := (Lk.of_below HB.out.b (v := v) (g := g)).trans hk1
  have c0 := l1.cell 0 (v := .pointer (some ⟨g, 0, none⟩)) rfl
  have HR := Lib.hid (adC_hash (show Lies W1 q (adC b ah) _ by rw [← H.out.1]; exact l2))
  have HC1 := Lib.hid (wHash W1 ah H.out.2.2.1 hw1 (by have := H.out.2.2.2; have := sz_B st x0; have := HX.out.2; omega))
  have HL := Lib.hid hl1
  clear hw1 hk1 l1 l2 hl1 HC c1
  go_wp2_with (first
    | (at_builtin; fail)
    | (refine wpList_load_mid rfl 30 _ rfl q 1 rfl (B8 ah).toList _ HR.out Tryz.underlying30 rfl HP.out ?_))
  refine HC1.out.mono ?_
  rintro e W2 hr
  obtain ⟨rfl, hr⟩ := hr
  have HE := Lib.hid hr
  clear hr c0 HC1
  go_wp2_with fail
  go_end0
  exact PutR.on HL.out ⟨rfl, HE.out⟩
set_option maxHeartbeats 4000000 in
theorem putterRef_any (w : World) {B g : Nat} {v : Value} {st : Option (List UInt8)} (r : Rf) (hl : r.tx.length = 32) (h : WrO W.WSt w B g v st) (hx : sz st ≤ 700000) :
    Calls Tryz.prog 188 #[.agg #[.pointer (some ⟨g, 0, none⟩)], .agg (refC r)] w (PutR W.WSt w B g v (refS st r)) := by
  obtain ⟨av, hav⟩ : ∃ x, x = refC r := ⟨_, rfl⟩
  rw [← hav]
  have hB := bx_of h av 37
  have H := Lib.hid (And.intro hav (And.intro h (And.intro hl hx)))
  have HP := Lib.hid (show (Tryz.prog.info? 30).map (·.size) = some (B8 r.tx).toList.length by rw [Array.length_toList, B8_size, hl]; exact info_hashP)
  clear hav h hx hl
  obtain ⟨W0, HW⟩ : ∃ W0, (w.alloc (.cells #[.pointer (some ⟨g, 0, none⟩)] 170)).alloc (.cells av 37) = W0 := ⟨_, rfl⟩
  go_enter Tryz.func188, Tryz.ntmps188
  go_upto_region 1 with fail
  rw [HW] at hB
  clear HW
  obtain ⟨p, hp⟩ : ∃ p, p = w.heap.size := ⟨_, rfl⟩
  obtain ⟨q, hq⟩ : ∃ q, q = w.heap.size + 1 := ⟨_, rfl⟩
  rw [← hq, ← hp] at hB ⊢
  clear hp hq
  have c0 := hB.lp.cell 0 (v := .pointer (some ⟨g, 0, none⟩)) rfl
  have hlr := show Lies W0 q (refC r) _ by rw [← H.out.1]; exact hB.lq
  have HR := Lib.hid (show W0.rangeAt q 0 (B8 r.tx).toList from fun j v hj => by
    rw [Nat.zero_add]
    refine hlr.cell j ?_
    rw [Array.getElem?_toList] at hj
    unfold refC
    rw [Array.getElem?_append_left (by have := (Array.getElem?_eq_some_iff.1 hj).1; exact this)]
    exact hj)
  have HC := Lib.hid (wHash W0 r.tx H.out.2.2.1 (H.out.2.1.belowW hB.b) (by have := H.out.2.2.2; omega))
  have HB := Lib.hid hB
  clear hB hlr
  go_wp2_with (first
    | (at_builtin; fail)
    | (refine wpList_load_mid rfl 30 _ rfl q 0 rfl (B8 r.tx).toList _ HR.out Tryz.underlying30 rfl HP.out ?_))
  refine HC.out.mono ?_
  rintro e W1 ⟨rfl, u1, hw1, hk1⟩
  obtain ⟨l1, l2⟩ := HB.out.on hk1
  have hl1 := (Lk.of_below HB.out.b (v := v) (g := g)).trans hk1
  have c0 := l1.cell 0 (v := .pointer (some ⟨g, 0, none⟩)) rfl
  have c1 := (show Lies W1 q (refC r) _ by rw [← H.out.1]; exact l2).cell 32 (v := .int .i64 r.place) (refC_place r H.out.2.2.1)
  have HC1 := Lib.hid (wU16 W1 r.place hw1 (by have := H.out.2.2.2; have := sz_B st r.tx; have := H.out.2.2.1; omega))
  have HL := Lib.hid hl1
  clear hw1 hk1 l1 l2 hl1 HC
  go_wp2_with fail
  refine HC1.out.mono ?_
  rintro e W2 hr
  obtain ⟨rfl, hr⟩ := hr
  have HE := Lib.hid hr
  clear hr c0 c1 HC1
  go_wp2_with fail
  go_end0
  exact PutR.on HL.out ⟨rfl, HE.out⟩
end Go.Proofs.YtilbbemdinpjcaaGreat.P
namespace Go.Proofs.YtilbbemdinpjcaaGreat.P
set_option maxRecDepth 100000
open Go.ChangeShapes Go.WideShapes Go.ChangeAt Go.RowKit Go.Deep

theorem list_of {α : Type} (z : α) (P : Nat → α → Prop) : ∀ n, (∀ j, j < n → ∃ b, P j b) → ∃ l : List α, l.length = n ∧ ∀ j, j < n → P j (l.getD j z)
  | 0, _ => ⟨[], rfl, fun j hj => absurd hj (by omega)⟩
  | n + 1, h => by
    obtain ⟨l, hl, hp⟩ := list_of z P n (fun j hj => h j (by omega))
    obtain ⟨b, hb⟩ := h n (by omega)
    refine ⟨l ++ [b], by simp [hl], fun j hj => ?_⟩
    by_cases hjn : j < n
    · have := hp j hjn
      rw [List.getD_eq_getElem?_getD, List.getElem?_append_left (by omega), ← List.getD_eq_getElem?_getD]
      exact this
    · obtain rfl : j = n := by omega
      rw [List.getD_eq_getElem?_getD, List.getElem?_append_right (by omega), hl]
      simpa using hb
theorem byte_of {z : Int} (h : (Lit.int .u8 z).wf = true) : ∃ b : UInt8, z = (b.toNat : Int) := by
  have hmin : IntKind.u8.min = 0 := rfl
  have hmax : IntKind.u8.max = 255 := rfl
  simp only [Lit.wf, Bool.and_eq_true, decide_eq_true_eq] at h
  refine ⟨UInt8.ofNat z.toNat, ?_⟩
  have : (UInt8.ofNat z.toNat).toNat = z.toNat := by simp; omega
  rw [this]
  omega
theorem int_of {a : Int} (h : (Lit.int .i64 a).wf = true) : -9223372036854775808 ≤ a ∧ a < 9223372036854775808 := by
  have hmin : IntKind.i64.min = -9223372036854775808 := rfl
  have hmax : IntKind.i64.max = 9223372036854775807 := rfl
  simp only [Lit.wf, Bool.and_eq_true, decide_eq_true_eq] at h
  omega
theorem args_stay {H : Type} {enc : TypeId × Value → H} {W W' : World} {t : TypeId} {v : Value} {d : DataW H} {ps : List MemPlace} (hr : Tryz.prog.readableRec t = true) (hrow : t < Tryz.prog.types.size)
    (h : DataW.Trod enc Tryz.prog W 0 (fun _ => true) true t v d ps) (hb : Below W.heap.size W W') (hlt : ∀ x ∈ ps, x.block < W.heap.size) : DataW.Trod enc Tryz.prog W' 0 (fun b => decide (b < W.heap.size)) true t v d ps :=
  Below.trod (by kernel_rfl) hr hrow h hb hlt
theorem dc26 : Tryz.prog.cellsOf 30 = 32 := by kernel_rfl
theorem dc5 : Tryz.prog.cellsOf 5 = 1 := by kernel_rfl
theorem dc54 : Tryz.prog.cellsOf 146 = 34 := by kernel_rfl
theorem dc24 : Tryz.prog.cellsOf 27 = 2 := by kernel_rfl
theorem dc9 : Tryz.prog.cellsOf 9 = 1 := by kernel_rfl
theorem dc2 : Tryz.prog.cellsOf 2 = 1 := by kernel_rfl
theorem dc22 : Tryz.prog.cellsOf 25 = 1 := by kernel_rfl
theorem txt_of (s : ByteArray) : s = txt s.data.toList := by
  show s = ⟨s.data.toList.toArray⟩
  rw [Array.toArray_toList]
section
variable {H : Type} {enc : TypeId × Value → H} {W : World}
theorem hash_in {fuel : Nat} {cs : List Value} {x : DataW H × List MemPlace} (hf : DataW.trod enc Tryz.prog W 0 (fun _ => true) true fuel 30 cs = some x) :
    ∃ m : List UInt8, m.length = 32 ∧ cs = (B8 m).toList := by
  obtain ⟨ys, k, _, _, hlen, hyl, hy⟩ := DataW.trod_array Tryz.underlying30 hf
  rw [dc26] at hlen
  have hcell : ∀ j, j < 32 → ∃ b : UInt8, cs[j]? = some (.int .u8 b.toNat) := by
    intro j hj
    have h1 := hy j hj
    rw [dc5, Nat.mul_one] at h1
    have hone : (cs.drop j).take 1 = [cs[j]'(by omega)] := by
      rw [List.drop_eq_getElem_cons (by omega)]; rfl
    rw [hone, List.getElem?_eq_getElem (by omega)] at h1
    obtain ⟨z, hz, _, hwf⟩ := DataW.trod_int Tryz.underlying5 h1
    obtain ⟨b, hb⟩ := byte_of hwf
    refine ⟨b, ?_⟩
    rw [← hb, List.getElem?_eq_getElem (by omega), (List.cons.inj hz).1]
  obtain ⟨m, hm, hms⟩ := list_of (0 : UInt8) (fun j x => cs[j]? = some (.int .u8 x.toNat)) 32 hcell
  refine ⟨m, hm, List.ext_getElem? fun j => ?_⟩
  by_cases hj : j < 32
  · rw [hms j hj, Array.getElem?_toList, B8_get m j (by omega)]
  · rw [List.getElem?_eq_none (by omega), List.getElem?_eq_none (by rw [Array.length_toList, B8_size]; omega)]
theorem cut34 (l : List Value) (h : l.length = 34) : l = (l.drop 0).take 32 ++ ((l.drop 32).take 1 ++ (l.drop 33).take 1) := by
  rw [List.drop_zero]
  have h1 : (l.drop 33).take 1 = l.drop 33 := List.take_of_length_le (by rw [List.length_drop]; omega)
  have h2 : l.drop 33 = (l.drop 32).drop 1 := by rw [List.drop_drop]
  rw [h1, h2, List.take_append_drop, List.take_append_drop]
/-- An asset as it comes in. -/
theorem asset_in {fuel : Nat} {cs : List Value} {x : DataW H × List MemPlace} (hf : DataW.trod enc Tryz.prog W 0 (fun _ => true) true fuel 146 cs = some x) :
    ∃ a : As, cs = (asC a).toList ∧ AsOk a := by
  obtain ⟨ys, n, _, hx, hlen, hyl, hg⟩ := DataW.trod_struct Tryz.underlying146 hf
  rw [dc54] at hlen
  have hyl3 : ys.length = 3 := hyl
  have at_ := fun (j : Nat) (f : Field) (hj : j < 3) hfj => (hg j f hfj).trans (List.getElem?_eq_getElem (show j < ys.length by omega))
  obtain ⟨hs, hl, e0⟩ := hash_in (at_ 0 _ (by omega) rfl)
  obtain ⟨s, e1, _, hsl⟩ := DataW.trod_string Tryz.underlying9 (at_ 1 _ (by omega) rfl)
  obtain ⟨n2, e2, _, w2⟩ := DataW.trod_int Tryz.underlying2 (at_ 2 _ (by omega) rfl)
  obtain ⟨hlo, hhi⟩ := int_of w2
  have f0 : (cs.drop 0).take (Tryz.prog.cellsOf 30) = (B8 hs).toList := e0
  have f1 : (cs.drop 32).take (Tryz.prog.cellsOf 9) = [.string s] := e1
  have f2 : (cs.drop 33).take (Tryz.prog.cellsOf 2) = [.int .i64 n2] := e2
  rw [dc26] at f0
  rw [dc9] at f1
  rw [dc2] at f2
  refine ⟨⟨(hs, s.data.toList), n2⟩, ?_, hl, ?_, hlo, hhi⟩
  · rw [cut34 cs hlen, f0, f1, f2]
    show _ = (B8 hs ++ (#[Value.string (txt s.data.toList), Value.int .i64 n2] : Array Value)).toList
    rw [← txt_of s]
    simp
  · show s.data.toList.length ≤ maxLen
    have : s.data.toList.length = s.size := by simp
    omega
/-- Assets in a row as they come in. -/
theorem assets_in {fuel : Nat} {cs : List Value} {x : DataW H × List MemPlace} (hf : DataW.trod enc Tryz.prog W 0 (fun _ => true) true fuel 25 cs = some x) :
    ∃ (pa : Option Addr) (l : List As) (c : Nat), cs = [.slice pa l.length c] ∧ Row W pa l := by
  rcases open_slice Tryz.underlying25 hf with ⟨hcs, _⟩ | ⟨a, len, cap, m, n, D, Pl, hcs, hle, hl, hm, hmm, hx, hi⟩
  · exact ⟨none, [], 0, hcs, ⟨Nat.zero_le _, fun a ha => absurd ha (by simp), fun h => absurd h (by simp)⟩⟩
  · simp only [if_true] at hmm
    subst hmm
    have each : ∀ i, i < len → ∃ q : As, AsOk q ∧ ∀ j v, (asC q)[j]? = some v → W.cell? (a.add (i * 34 + j)) = some v := by
      intro i hil
      obtain ⟨cs', hc, ht⟩ := hi i (by omega)
      rw [dc54] at hc
      obtain ⟨_, hcl, hat⟩ := World.cells?_some hc
      obtain ⟨q, rfl, hq⟩ := asset_in ht
      refine ⟨q, hq, fun j v hj => ?_⟩
      have hj34 : j < 34 := by
        have := (Array.getElem?_eq_some_iff.1 hj).1
        rwa [asC_size q hq.1] at this
      rw [← Go.Deep.add_add, hat j hj34, Array.getElem?_toList, hj]
    obtain ⟨xs, hpl, hps⟩ := list_of (⟨([], []), 0⟩ : As) (fun i q => AsOk q ∧ ∀ j v, (asC q)[j]? = some v → W.cell? (a.add (i * 34 + j)) = some v) len each
    subst hpl
    have hget : ∀ i q, xs[i]? = some q → AsOk q ∧ ∀ j v, (asC q)[j]? = some v → W.cell? (a.add (i * 34 + j)) = some v := fun i q hq => by
      have h1 := hps i (List.getElem?_eq_some_iff.1 hq).1
      rw [List.getD_eq_getElem?_getD, hq] at h1
      exact h1
    refine ⟨some a, xs, m, hcs, by omega, fun q hq => ?_, fun hpos => ?_⟩
    · obtain ⟨i, hi2⟩ := List.getElem?_of_mem hq
      exact (hget i q hi2).1
    · obtain ⟨b, off, spot⟩ := a
      obtain ⟨hok0, h00⟩ := hget 0 _ (List.getElem?_eq_getElem hpos)
      have h0 := h00 0 _ (asC_get _ hok0.1 0 (by decide))
      have hspot : spot = none := by simpa [Addr.add] using World.cell?_spot h0
      subst hspot
      refine ⟨b, off, rfl, block_lt_of_cell h0, fun i q hi2 j v hj => ?_⟩
      rw [Array.getElem?_toList] at hj
      have h2 := (hget i q hi2).2 j v hj
      rw [Addr.add_lit] at h2
      rw [show off + i * 34 + j = off + (i * 34 + j) by omega]
      exact h2
theorem cut2 {l : List Value} (h : l.length = 2) : l = (l.drop 0).take 1 ++ (l.drop 1).take 1 := by
  match l, h with
  | [a, b], _ => rfl
/-- A bundle as it comes in. -/
theorem open_value {b0 : Nat} {v : Value} {d : DataW H} {p : List MemPlace} (hv : Value.okWide Tryz.prog W .any b0 27 v) (h : DataW.Trod enc Tryz.prog W 0 (fun _ => true) true 27 v d p) :
    ∃ x : Va, v = .agg #[.int .i64 x.coin, .slice x.pa x.l.length x.c] ∧ VaOk W x := by
  simp only [Value.okWide, Tryz.underlying27] at hv
  obtain ⟨cs, rfl, hsz, -⟩ := hv
  rw [dc24] at hsz
  obtain ⟨fuel, hf⟩ := h
  obtain ⟨ys, m, _, hx, hlen, hyl, hg⟩ := DataW.trod_struct Tryz.underlying27 hf
  have hyl2 : ys.length = 2 := hyl
  have at_ := fun (j : Nat) (f : Field) (hj : j < 2) hfj => (hg j f hfj).trans (List.getElem?_eq_getElem (show j < ys.length by omega))
  obtain ⟨n0, e0, _, w0⟩ := DataW.trod_int Tryz.underlying2 (at_ 0 _ (by omega) rfl)
  obtain ⟨pa, l, c, e1, hr⟩ := assets_in (at_ 1 _ (by omega) rfl)
  obtain ⟨hlo, hhi⟩ := int_of w0
  have f0 : (cs.toList.drop 0).take (Tryz.prog.cellsOf 2) = [.int .i64 n0] := e0
  have f1 : (cs.toList.drop 1).take (Tryz.prog.cellsOf 25) = [.slice pa l.length c] := e1
  rw [dc2] at f0
  rw [dc22] at f1
  refine ⟨⟨n0, pa, l, c⟩, ?_, hlo, hhi, hr⟩
  have h2 := cut2 (l := cs.toList) (by simpa using hsz)
  rw [f0, f1] at h2
  exact congrArg Value.agg (Array.toList_inj.1 h2)
theorem open_hash {b0 : Nat} {v : Value} {d : DataW H} {p : List MemPlace} (hv : Value.okWide Tryz.prog W .any b0 30 v) (h : DataW.Trod enc Tryz.prog W 0 (fun _ => true) true 30 v d p) :
    ∃ m : List UInt8, v = .agg (B8 m) ∧ m.length = 32 := by
  simp only [Value.okWide, Tryz.underlying30] at hv
  obtain ⟨cs, rfl, -⟩ := hv
  obtain ⟨fuel, hf⟩ := h
  obtain ⟨m, hm, e⟩ := hash_in hf
  have e2 : cs.toList = (B8 m).toList := e
  exact ⟨m, congrArg Value.agg (Array.toList_inj.1 e2), hm⟩
theorem open_text {b0 : Nat} {v : Value} {d : DataW H} {p : List MemPlace} (hv : Value.okWide Tryz.prog W .any b0 9 v) (h : DataW.Trod enc Tryz.prog W 0 (fun _ => true) true 9 v d p) : ∃ t : List UInt8, v = .string (txt t) ∧ t.length ≤ maxLen := by
  obtain ⟨s, rfl⟩ := okWide_string Tryz.underlying9 hv
  obtain ⟨fuel, hf⟩ := h
  obtain ⟨s', e, _, hsl⟩ := DataW.trod_string Tryz.underlying9 hf
  have e2 : s = s' := by simpa [Value.cells] using e
  subst e2
  refine ⟨s.data.toList, by rw [← txt_of s], ?_⟩
  have : s.data.toList.length = s.size := by simp
  omega
end
open Go.RowKit Go.Sort Go.Maps Go.ChangeShapes Go.WideShapes Go.ChangeAt Go.Deep

section
variable {H : Type} {enc : TypeId × Value → H} {W : World}
/-- A row that is nil has no room. -/
theorem assetsC_in {fuel : Nat} {cs : List Value} {x : DataW H × List MemPlace} (hf : DataW.trod enc Tryz.prog W 0 (fun _ => true) true fuel 25 cs = some x) :
    ∃ (pa : Option Addr) (l : List As) (c : Nat), cs = [.slice pa l.length c] ∧ Row W pa l ∧ (pa = none → c = 0) := by
  obtain ⟨pa, l, c, e, hr⟩ := assets_in hf
  refine ⟨pa, l, c, e, hr, fun hn => ?_⟩
  rcases open_slice Tryz.underlying25 hf with ⟨hcs, _⟩ | ⟨a, len, cap, m, n, D, Pl, hcs, _⟩
  · rw [e] at hcs
    simp only [List.cons.injEq, Value.slice.injEq, and_true] at hcs
    exact hcs.2.2
  · rw [e, hn] at hcs
    simp at hcs
/-- What is asked of a bundle that is copied. -/
def Room (v : Va) : Prop := v.pa = none → v.c = 0
theorem value_in {fuel : Nat} {cs : List Value} {x : DataW H × List MemPlace} (hf : DataW.trod enc Tryz.prog W 0 (fun _ => true) true fuel 27 cs = some x) :
    ∃ v : Va, cs = (vaC v).toList ∧ VaOk W v ∧ Room v := by
  obtain ⟨ys, m, _, hx, hlen, hyl, hg⟩ := DataW.trod_struct Tryz.underlying27 hf
  rw [dc24] at hlen
  have hyl2 : ys.length = 2 := hyl
  have at_ := fun (j : Nat) (f : Field) (hj : j < 2) hfj => (hg j f hfj).trans (List.getElem?_eq_getElem (show j < ys.length by omega))
  obtain ⟨n0, e0, _, w0⟩ := DataW.trod_int Tryz.underlying2 (at_ 0 _ (by omega) rfl)
  obtain ⟨pa, l, c, e1, hr, hc⟩ := assetsC_in (at_ 1 _ (by omega) rfl)
  obtain ⟨hlo, hhi⟩ := int_of w0
  have f0 : (cs.drop 0).take (Tryz.prog.cellsOf 2) = [.int .i64 n0] := e0
  have f1 : (cs.drop 1).take (Tryz.prog.cellsOf 25) = [.slice pa l.length c] := e1
  rw [dc2] at f0
  rw [dc22] at f1
  refine ⟨⟨n0, pa, l, c⟩, ?_, ⟨hlo, hhi, hr⟩, hc⟩
  have h2 := cut2 (l := cs) hlen
  rw [f0, f1] at h2
  exact h2
/-- A bundle as it comes in. -/
theorem open_valueC {b0 : Nat} {v : Value} {d : DataW H} {p : List MemPlace} (hv : Value.okWide Tryz.prog W .any b0 27 v) (h : DataW.Trod enc Tryz.prog W 0 (fun _ => true) true 27 v d p) :
    ∃ x : Va, v = .agg #[.int .i64 x.coin, .slice x.pa x.l.length x.c] ∧ VaOk W x ∧ Room x := by
  simp only [Value.okWide, Tryz.underlying27] at hv
  obtain ⟨cs, rfl, -⟩ := hv
  obtain ⟨fuel, hf⟩ := h
  obtain ⟨x, e, hx, hc⟩ := value_in hf
  have e2 : cs.toList = (vaC x).toList := e
  exact ⟨x, congrArg Value.agg (Array.toList_inj.1 e2), hx, hc⟩
/-- A row of assets as it comes in. -/
theorem open_assets {b0 : Nat} {v : Value} {d : DataW H} {p : List MemPlace} (hv : Value.okWide Tryz.prog W .any b0 25 v) (h : DataW.Trod enc Tryz.prog W 0 (fun _ => true) true 25 v d p) :
    ∃ (pa : Option Addr) (l : List As) (c : Nat), v = .slice pa l.length c ∧ Row W pa l ∧ (pa = none → c = 0) := by
  obtain ⟨a0, len, cap, rfl⟩ := okWide_slice Tryz.underlying25 hv
  obtain ⟨fuel, hf⟩ := h
  obtain ⟨pa, l, c, e, hr⟩ := assetsC_in hf
  exact ⟨pa, l, c, by simpa [Value.cells] using e, hr⟩
theorem open_num {b0 : Nat} {v : Value} {d : DataW H} {p : List MemPlace} (hv : Value.okWide Tryz.prog W .any b0 2 v) (h : DataW.Trod enc Tryz.prog W 0 (fun _ => true) true 2 v d p) : ∃ n : Int, v = .int .i64 n ∧ -9223372036854775808 ≤ n ∧ n < 9223372036854775808 := by
  obtain ⟨z, rfl⟩ := okWide_int Tryz.underlying2 hv
  obtain ⟨fuel, hf⟩ := h
  obtain ⟨n, e, _, w⟩ := DataW.trod_int Tryz.underlying2 hf
  obtain ⟨h1, h2⟩ := int_of w
  have e2 : z = n := by simpa [Value.cells] using e
  subst e2
  exact ⟨z, rfl, h1, h2⟩
end
end Go.Proofs.YtilbbemdinpjcaaGreat.P
namespace Go.Proofs.YtilbbemdinpjcaaGreat.P
set_option maxRecDepth 100000
open Go.ChangeShapes Go.WideShapes Go.ChangeAt Go.RowKit Go.Deep

section
variable {H : Type} {enc : TypeId × Value → H} {W : World}
theorem weights_in {P : Program} {e : TypeId} {d : DataW H} {n : Nat} (hn : n ∈ d.weights P e) : ∀ {l : List (DataW H)}, d ∈ l → n ∈ DataW.weightsAll P e l
  | [], h => by cases h
  | x :: l, h => by
    unfold DataW.weightsAll
    rcases List.mem_cons.1 h with rfl | h
    · exact List.mem_append_left _ hn
    · exact List.mem_append_right _ (weights_in hn h)
theorem cut5 (l : List Value) (h : l.length = 5) : l = (l.drop 0).take 1 ++ ((l.drop 1).take 1 ++ ((l.drop 2).take 1 ++ ((l.drop 3).take 1 ++ (l.drop 4).take 1))) := by
  match l, h with
  | [a, b, c, d, e], _ => rfl
theorem word_of {a : Int} (h : (Lit.int .u64 a).wf = true) : ∃ n : Nat, a = (n : Int) ∧ n < 18446744073709551616 := by
  have hmin : IntKind.u64.min = 0 := rfl
  have hmax : IntKind.u64.max = 18446744073709551615 := rfl
  simp only [Lit.wf, Bool.and_eq_true, decide_eq_true_eq] at h
  exact ⟨a.toNat, by omega, by omega⟩
theorem pc_node : Tryz.prog.cellsOf 72 = 5 := by kernel_rfl
theorem pb_node : Tryz.prog.bytesOf 72 = 48 := by kernel_rfl
theorem pc_kind : Tryz.prog.cellsOf 67 = 1 := by kernel_rfl
theorem pc_u64 : Tryz.prog.cellsOf 69 = 1 := by kernel_rfl
theorem pc_int : Tryz.prog.cellsOf 3 = 1 := by kernel_rfl
/-- A node as it comes in. -/
theorem node_in {fuel : Nat} {cs : List Value} {x : DataW H × List MemPlace} (hf : DataW.trod enc Tryz.prog W 0 (fun _ => true) true fuel 72 cs = some x) (hreach : ∀ n ∈ x.1.weights Tryz.prog 72, n ≤ reachBytes) :
    ∃ n : T.Nd, cs = n.cells.toList ∧ NdIn n := by
  obtain ⟨ys, m, _, hx, hlen, hyl, hg⟩ := DataW.trod_struct Tryz.underlying72 hf
  rw [pc_node] at hlen
  have hyl5 : ys.length = 5 := hyl
  have at_ := fun (j : Nat) (f : Field) (hj : j < 5) hfj => (hg j f hfj).trans (List.getElem?_eq_getElem (show j < ys.length by omega))
  obtain ⟨n0, e0, _, w0⟩ := DataW.trod_int Tryz.underlying67 (at_ 0 _ (by omega) rfl)
  obtain ⟨n1, e1, _, w1⟩ := DataW.trod_int Tryz.underlying2 (at_ 1 _ (by omega) rfl)
  obtain ⟨n2, e2, _, w2⟩ := DataW.trod_int Tryz.underlying69 (at_ 2 _ (by omega) rfl)
  obtain ⟨s, e3, ed, hsl⟩ := DataW.trod_string Tryz.underlying9 (at_ 3 _ (by omega) rfl)
  obtain ⟨n4, e4, _, w4⟩ := DataW.trod_int Tryz.underlying3 (at_ 4 _ (by omega) rfl)
  obtain ⟨m2, rfl, hm2⟩ := word_of w2
  have hxl : s.size ≤ 140737488355328 := by
    have hw : s.data.toList.length ∈ (ys[3].1).weights Tryz.prog 9 := by
      rw [ed, DataW.weights]
      exact List.mem_cons_self
    have := hreach _ (by
      rw [hx, DataW.weights, Tryz.underlying72]
      exact DataW.weights_mem_each (j := 3) rfl (by rw [List.getElem?_map, List.getElem?_eq_getElem (by omega)]; rfl) _ hw)
    have hr : reachBytes = 140737488351232 := rfl
    rw [hr] at this
    have e : s.data.toList.length = s.size := by simp
    omega
  refine ⟨⟨n0, n1, m2, s, n4⟩, ?_, ⟨int_of w0, int_of w1, hm2, hxl, int_of w4⟩⟩
  have f0 : (cs.drop 0).take (Tryz.prog.cellsOf 67) = [.int .i64 n0] := e0
  have f1 : (cs.drop 1).take (Tryz.prog.cellsOf 2) = [.int .i64 n1] := e1
  have f2 : (cs.drop 2).take (Tryz.prog.cellsOf 69) = [.int .u64 m2] := e2
  have f3 : (cs.drop 3).take (Tryz.prog.cellsOf 9) = [.string s] := e3
  have f4 : (cs.drop 4).take (Tryz.prog.cellsOf 3) = [.int .i64 n4] := e4
  rw [pc_kind] at f0
  rw [dc2] at f1
  rw [pc_u64] at f2
  rw [dc9] at f3
  rw [pc_int] at f4
  rw [cut5 cs hlen, f0, f1, f2, f3, f4]
  rfl
/-- The nodes of a term as they come in. -/
structure NsIn (W : World) (a : Option Addr) (ns : List T.Nd) (c : Nat) : Prop where
  raw : T.TRaw W a ns
  ins : ∀ x ∈ ns, NdIn x
  len : ns.length ≤ 140737488355328
  cap : ns.length ≤ c
  room : a = none → c = 0
theorem nodes_in {fuel : Nat} {cs : List Value} {x : DataW H × List MemPlace} (hf : DataW.trod enc Tryz.prog W 0 (fun _ => true) true fuel 22 cs = some x) (hreach : ∀ n ∈ x.1.weights Tryz.prog 22, n ≤ reachBytes) :
    ∃ (a : Option Addr) (ns : List T.Nd) (c : Nat), cs = [.slice a ns.length c] ∧ NsIn W a ns c := by
  rcases open_slice Tryz.underlying22 hf with ⟨hcs, _⟩ | ⟨a, len, cap, m, n, D, Pl, hcs, _, hl, hm, hmm, hx, hi⟩
  · exact ⟨none, [], 0, hcs, ⟨fun h => absurd h (by simp), fun x hx => absurd hx (by simp), by simp, by simp, fun _ => rfl⟩⟩
  · simp only [if_true] at hmm
    subst hmm
    have hd : x.1 = .slice ((List.range len).map D) ((List.range (m - len)).map fun j => D (len + j)) := by rw [hx]
    have hr : reachBytes = 140737488351232 := rfl
    have hcapr : m * 48 ≤ 140737488351232 := by
      have := hreach ((((List.range len).map D).length + ((List.range (m - len)).map fun j => D (len + j)).length) * 48) (by
        rw [hd, DataW.weights, Tryz.underlying22]
        simp only [pb_node]
        exact List.mem_cons_self)
      simp only [List.length_map, List.length_range] at this
      rw [hr] at this
      have e : len + (m - len) = m := by omega
      rw [e] at this
      exact this
    have each : ∀ i, i < len → ∃ q : T.Nd, NdIn q ∧ ∀ j v, q.cells[j]? = some v → W.cell? (a.add (i * 5 + j)) = some v := by
      intro i hil
      obtain ⟨cs', hc, ht⟩ := hi i (by omega)
      rw [pc_node] at hc
      obtain ⟨_, hcl, hat⟩ := World.cells?_some hc
      obtain ⟨q, rfl, h1⟩ := node_in ht (fun n hn => hreach n (by
        rw [hd, DataW.weights, Tryz.underlying22]
        exact List.mem_cons_of_mem _ (List.mem_append_left _ (weights_in hn (List.mem_map.2 ⟨i, List.mem_range.2 hil, rfl⟩)))))
      refine ⟨q, h1, fun j v hj => ?_⟩
      have hj5 : j < 5 := by
        have := (Array.getElem?_eq_some_iff.1 hj).1
        simpa [T.Nd.cells] using this
      rw [← Go.Deep.add_add, hat j hj5, Array.getElem?_toList, hj]
    obtain ⟨xs, hpl, hps⟩ := list_of (⟨0, 0, 0, ⟨#[]⟩, 0⟩ : T.Nd) (fun i q => NdIn q ∧ ∀ j v, q.cells[j]? = some v → W.cell? (a.add (i * 5 + j)) = some v) len each
    subst hpl
    have hget : ∀ i q, xs[i]? = some q → NdIn q ∧ ∀ j v, q.cells[j]? = some v → W.cell? (a.add (i * 5 + j)) = some v := fun i q hq => by
      have h1 := hps i (List.getElem?_eq_some_iff.1 hq).1
      rw [List.getD_eq_getElem?_getD, hq] at h1
      exact h1
    refine ⟨some a, xs, m, hcs, ⟨fun hpos => ?_, fun x hx => ?_, by omega, hl, fun h => by cases h⟩⟩
    · obtain ⟨b, off, spot⟩ := a
      have h0 := (hget 0 _ (List.getElem?_eq_getElem hpos)).2 0 _ rfl
      have hspot : spot = none := by simpa [Addr.add] using World.cell?_spot h0
      subst hspot
      refine ⟨b, off, rfl, block_lt_of_cell h0, fun i hi2 j v hj => ?_⟩
      have h2 := (hget i _ (List.getElem?_eq_getElem hi2)).2 j v hj
      rw [Addr.add_lit] at h2
      rw [show off + i * 5 + j = off + (i * 5 + j) by omega]
      exact h2
    · obtain ⟨i, hi2⟩ := List.getElem?_of_mem hx
      exact (hget i x hi2).1
end
end Go.Proofs.YtilbbemdinpjcaaGreat.P
