/-
  pack: the document's own order of refs, and its right refs.
-/
import Derived.Test.YtilbbemdinpjcaaGreatJPr
import Derived.Test.YtilbbemdinpjcaaGreatJPi
import Derived.Test.YtilbbemdinpjcaaGreatJPe
import Derived.Deep.QuietTactic
import Derived.BigQuiet
set_option maxHeartbeats 16000000
namespace Go.Proofs.YtilbbemdinpjcaaGreat.P
set_option maxRecDepth 100000
open Go.RowKit
def zAsP : Array Value := Array.replicate 32 (.int .u8 0) ++ #[.string ⟨#[]⟩, .int .i64 0]
theorem alloc_assetP (w : World) : (Instr.alloc 146 true (.tuple #[])).run Tryz.prog w = .ok (.pointer (some ⟨w.heap.size, 0, none⟩)) (w.alloc (.cells zAsP 146)) := by kernel_rfl
theorem info_hashP : (Tryz.prog.info? 30).map (·.size) = some 32 := by kernel_rfl
theorem asC_polP {U : World} {b : Nat} {a : As} (h : a.nm.1.length = 32) (hL : Lies U b (asC a) 146) : U.rangeAt b 0 (B8 a.nm.1).toList := fun j v hv => by
 rw [Array.getElem?_toList] at hv
 have hj : j < 32 := by
  have := (Array.getElem?_eq_some_iff.1 hv).1
  rw [B8_size, h] at this
  exact this
 rw [Nat.zero_add]
 refine hL.cell j ?_
 rw [asC_get a h j hj, ← B8_get a.nm.1 j (by omega)]
 exact hv
theorem cntA_le {l : List As} {k : Nat} : cntA (l.take k) ≤ cntA l := by
 unfold cntA
 conv => rhs; rw [← List.take_append_drop k l, List.map_append, List.sum_append]
 rw [List.map_take]
 have : (l.map fun a => 1 + a.nm.2.length / 16).take k = (l.take k).map fun a => 1 + a.nm.2.length / 16 := by rw [List.map_take]
 rw [this]
 omega
theorem box_one (w : World) (v : Value) (t : TypeId) : Lies (w.alloc (.cells #[v] t)) w.heap.size #[v] t ∧ Below w.heap.size w (w.alloc (.cells #[v] t)) := ⟨Lies.new _ _ _, (Below.refl _ _).alloc (Nat.le_refl _) _⟩
theorem putterAssets_any (w : World) {B g : Nat} {v : Value} {st : Option (List UInt8)} (pa : Option Addr) (nc : Nat) (l : List As) (hT : Stays g w v fun W => Row W pa l) (h : WrO W.WSt w B g v st) (hx : sz st + 57 * cntA l ≤ 700000) :
  Calls Tryz.prog 182 #[.agg #[.pointer (some ⟨g, 0, none⟩)], .slice pa l.length nc] w (PutR W.WSt w B g v (asListS st l)) := by
 have hn : (l.length : Int) ≤ 9223372036854775807 := by have := hT.now.1; unfold maxLen at this; omega
 have hok := hT.now.2.1
 have hal := alloc_assetP
 obtain ⟨hA, hb0⟩ := box_one w (.pointer (some ⟨g, 0, none⟩)) 170
 have hpo := h.off (w' := w.alloc (.cells #[.pointer (some ⟨g, 0, none⟩)] 170)) (Nat.le_refl _) (by simp)
 have H := Lib.hid (And.intro hT (And.intro hok (And.intro h hx)))
 clear hT hok h hx
 go_enter Tryz.func182, Tryz.ntmps182
 go_upto_region 1 with fail
 generalize w.alloc (.cells #[.pointer (some ⟨g, 0, none⟩)] 170) = W0 at hA hb0 hpo ⊢
 obtain ⟨p, hpe⟩ : ∃ p, p = w.heap.size := ⟨_, rfl⟩
 rw [← hpe] at hA hpo ⊢
 have c0 := hA.cell 0 (v := .pointer (some ⟨g, 0, none⟩)) rfl
 have HC := Lib.hid (wU16 W0 l.length (H.out.2.2.1.belowW hb0) (by have := H.out.2.2.2; omega))
 have HA := Lib.hid (And.intro hA (And.intro hpo hb0))
 clear hA hpo hb0 hpe
 go_wp2_with fail
 refine HC.out.mono ?_
 rintro e W1 ⟨rfl, u1, hw1, hk1⟩
 have hp1 : ∀ W u, Lk g W1 u1 W u → W.cell? ⟨p, 0, none⟩ = some (.pointer (some ⟨g, 0, none⟩)) := fun W u hl => by
  have ho := HA.out.2.1.on hk1
  rw [hl.cell (o := 0) ho.lt ho.ne ho.own, hk1.cell (o := 0) HA.out.2.1.lt HA.out.2.1.ne HA.out.2.1.own]
  exact HA.out.1.cell 0 rfl
 have HW := Lib.hid (And.intro hw1 (And.intro ((Lk.of_below HA.out.2.2).trans hk1) hp1))
 clear hw1 hk1 hp1 c0 HC
 go_wp2_with fail
 go_loopw [13] (fun i Z => ∃ (k : Nat) (u : Value), k ≤ l.length ∧ i = .int .i64 k ∧ WrO W.WSt Z B g u ((l.take k).foldl asS (W.stepN st (W.low64 l.length) 2)) ∧ Lk g W1 u1 Z u) (fun i _ => (l.length - intOf i).toNat)
 case atStart => exact ⟨0, u1, by omega, by go_num, HW.out.1, Lk.refl _ _ _⟩
 case round =>
  obtain ⟨k, u, hk, rfl, hwr, hlk⟩ := hrel
  by_cases hlt : k < l.length
  ·
   have hfull : Lk g w v wr u := HW.out.2.1.trans hlk
   obtain ⟨gx, off, rfl, hgl, hat⟩ := (H.out.1 _ _ hfull).2.2 (by omega)
   obtain ⟨a, hka⟩ : ∃ a, l[k]? = some a := ⟨l[k], List.getElem?_eq_getElem hlt⟩
   have haok := H.out.2.1 a (List.mem_of_getElem? hka)
   have hra := hat k a hka
   obtain ⟨s0, hs0⟩ : ∃ s, s = (l.take k).foldl asS (W.stepN st (W.low64 l.length) 2) := ⟨_, rfl⟩
   have hst : (l.take (k + 1)).foldl asS (W.stepN st (W.low64 l.length) 2) = asS s0 a := by rw [hs0]; exact foldl_take _ _ _ _ _ hka
   have hsz0 : sz s0 + 57 * (1 + a.nm.2.length / 16) ≤ 700010 := by
    have h1 := sz_asF (l.take k) (W.stepN st (W.low64 l.length) 2) (fun x hx => (H.out.2.1 x (List.mem_of_mem_take hx)).1)
    have h2 := cntA_le (l := l) (k := k + 1)
    rw [cntA_take hka] at h2
    have h3 := H.out.2.2.2
    have h4 := sz_N st (W.low64 l.length) 2
    rw [← hs0] at h1
    omega
   rw [← hs0] at hwr
   obtain ⟨av, hav⟩ : ∃ x, x = asC a := ⟨_, rfl⟩
   have hL := Lies.new wr av 146
   have hbA : Below wr.heap.size wr (wr.alloc (.cells av 146)) := (Below.refl _ _).alloc (Nat.le_refl _) _
   have hqq := hwr.off (w' := wr.alloc (.cells av 146)) (Nat.le_refl _) (by simp)
   have q0 : (0 : Int) ≤ (k : Int) := by omega
   have q1 : (k : Int) < (l.length : Int) := by omega
   have HE := Lib.hid (And.intro (show wr.rangeAt gx (off + k * 34) av.toList by rw [hav]; exact hra) (And.intro (show (Tryz.prog.info? 146).map (·.size) = some av.toList.length by rw [Array.length_toList, hav, asC_size a haok.1]; exact info_asset) (And.intro (show (Tryz.prog.info? 146).map (·.size) = some av.size by rw [hav, asC_size a haok.1]; exact info_asset) (And.intro (show av.size = 34 by rw [hav, asC_size a haok.1]) (show av.all (·.oneCell') = true by rw [hav]; exact asC_one a)))))
   have HR := Lib.hid (And.intro hwr (And.intro hlk (And.intro hst (And.intro hsz0 (And.intro haok hav)))))
   clear hs0 hwr hlk hst hsz0 haok hav hra hat hfull hgl
   go_upto_region 5 with (first
    | (refine wpList_load_mid rfl 146 _ rfl gx (off + k * 34) rfl av.toList _ HE.out.1 Tryz.underlying146 rfl HE.out.2.1 ?_)
    | (refine wpList_store_row rfl 146 _ _ rfl wr.heap.size av rfl rfl 146 zAsP (Lies.new wr zAsP 146) HE.out.2.2.1 (by rw [HE.out.2.2.2.1]; kernel_rfl) HE.out.2.2.2.2 ?_))
   rw [World.setRow_alloc_new]
   generalize wr.alloc (.cells av 146) = W5 at hL hbA hqq ⊢
   obtain ⟨q, hq⟩ : ∃ q, q = wr.heap.size := ⟨_, rfl⟩
   rw [← hq] at hL hqq ⊢
   clear hq
   have hl5 : Lk g W1 u1 W5 u := HR.out.2.1.below hbA
   have cp := HW.out.2.2 W5 u hl5
   have HC1 := Lib.hid (wHash W5 a.nm.1 HR.out.2.2.2.2.1.1 (HR.out.1.belowW hbA) (by have := HR.out.2.2.2.1; omega))
   have HQ := Lib.hid (And.intro hl5 (And.intro hqq hL))
   have hpol : W5.rangeAt q 0 (B8 a.nm.1).toList := asC_polP HR.out.2.2.2.2.1.1 (by rw [← HR.out.2.2.2.2.2]; exact hL)
   have HP := Lib.hid (And.intro hpol (show (Tryz.prog.info? 30).map (·.size) = some (B8 a.nm.1).toList.length by rw [Array.length_toList, B8_size, HR.out.2.2.2.2.1.1]; exact info_hashP))
   clear hpol hl5 hqq hL hbA
   go_wp2_with (first
    | (at_builtin; fail)
    | (refine wpList_load_mid rfl 30 _ rfl q 0 rfl (B8 a.nm.1).toList _ HP.out.1 Tryz.underlying30 rfl HP.out.2 ?_))
   refine HC1.out.mono ?_
   rintro e W6 ⟨rfl, u6, hw6, hk6⟩
   have hl6 := HQ.out.1.trans hk6
   have cp := HW.out.2.2 W6 u6 hl6
   have hL6 := hk6.lies HQ.out.2.2 HQ.out.2.1.ne HQ.out.2.1.own
   have hs1 := sz_B s0 a.nm.1
   have c32 := (show Lies W6 q (asC a) 146 by rw [← HR.out.2.2.2.2.2]; exact hL6).cell 32 (asC_txt a HR.out.2.2.2.2.1.1)
   have HC2 := Lib.hid (wText W6 (txt a.nm.2) (by rw [txt_size]; have := HR.out.2.2.2.1; omega) hw6 (by have := HR.out.2.2.2.1; have := HR.out.2.2.2.2.1.1; omega))
   have HQ6 := Lib.hid (And.intro hl6 (And.intro (HQ.out.2.1.on hk6) (And.intro hL6 hs1)))
   clear hl6 hL6 hk6 hw6 hs1 HC1
   go_wp2_with fail
   refine HC2.out.mono ?_
   rintro e W7 ⟨rfl, u7, hw7, hk7⟩
   have hl7 := HQ6.out.1.trans hk7
   have cp := HW.out.2.2 W7 u7 hl7
   have hL7 := hk7.lies HQ6.out.2.2.1 HQ6.out.2.1.ne HQ6.out.2.1.own
   have hs2 := sz_T (W.stepB s0 a.nm.1) (txt a.nm.2)
   rw [txt_size] at hs2
   have c33 := (show Lies W7 q (asC a) 146 by rw [← HR.out.2.2.2.2.2]; exact hL7).cell 33 (asC_amt a HR.out.2.2.2.2.1.1)
   have HC3 := Lib.hid (wI64 W7 a.amt hw7 (by have := HR.out.2.2.2.1; have := HR.out.2.2.2.2.1.1; have := HQ6.out.2.2.2; omega))
   have HQ7 := Lib.hid hl7
   clear hl7 hL7 hk7 hw7 hs2 HC2 c32
   go_wp2_with fail
   refine HC3.out.mono ?_
   rintro e W8 ⟨rfl, u8, hw8, hk8⟩
   have HN := Lib.hid (And.intro hw8 (HQ7.out.trans hk8))
   clear hw8 hk8 c33 cp HC3
   go_wp2_with fail
   go_roundw
   case rel => exact ⟨k + 1, u8, by omega, by go_num, by rw [HR.out.2.2.1]; exact HN.out.1, HN.out.2⟩
   case measure => simp [intOf]; omega
  ·
   have hke : k = l.length := by omega
   have HN := Lib.hid (And.intro hwr hlk)
   clear hwr hlk
   go_wp2_with fail
   go_end0
   have hw := HN.out.1
   rw [hke, List.take_of_length_le (Nat.le_refl _)] at hw
   exact PutR.end_ hw (HW.out.2.1.trans HN.out.2)
end Go.Proofs.YtilbbemdinpjcaaGreat.P
namespace Go.Proofs.YtilbbemdinpjcaaGreat.P
set_option maxRecDepth 100000
open Go.RowKit
theorem box_two (w : World) (A C : Array Value) (t s : TypeId) : Lies ((w.alloc (.cells A t)).alloc (.cells C s)) w.heap.size A t ∧ Lies ((w.alloc (.cells A t)).alloc (.cells C s)) (w.heap.size + 1) C s ∧ Below w.heap.size w ((w.alloc (.cells A t)).alloc (.cells C s)) ∧ ((w.alloc (.cells A t)).alloc (.cells C s)).heap.size = w.heap.size + 2 := by
 have h2 := Lies.new (w.alloc (.cells A t)) C s
 rw [show (w.alloc (.cells A t)).heap.size = w.heap.size + 1 by simp] at h2
 exact ⟨(Lies.new _ _ _).alloc _, h2, ((Below.refl _ _).alloc (Nat.le_refl _) _).alloc (by simp) _, by simp⟩
structure Bx (w W : World) (g : Nat) (v : Value) (p q : Nat) (cs : Array Value) (t : TypeId) : Prop where
 lp : Lies W p #[.pointer (some ⟨g, 0, none⟩)] 170
 lq : Lies W q cs t
 b : Below w.heap.size w W
 op : Off W g v p
 oq : Off W g v q
theorem bx_of {w : World} {B g : Nat} {v : Value} {st : Option (List UInt8)} {S : World → Nat → Nat → Value → Option (List UInt8) → Prop} (h : WrO S w B g v st) (cs : Array Value) (t : TypeId) : Bx w ((w.alloc (.cells #[.pointer (some ⟨g, 0, none⟩)] 170)).alloc (.cells cs t)) g v w.heap.size (w.heap.size + 1) cs t := by
 obtain ⟨h1, h2, h3, h4⟩ := box_two w #[.pointer (some ⟨g, 0, none⟩)] cs 170 t
 exact ⟨h1, h2, h3, h.off (Nat.le_refl _) (by rw [h4]; omega), h.off (by omega) (by rw [h4]; omega)⟩
theorem Bx.on {w W W' : World} {g : Nat} {v v' : Value} {p q : Nat} {cs : Array Value} {t : TypeId} (h : Bx w W g v p q cs t) (k : Lk g W v W' v') : Lies W' p #[.pointer (some ⟨g, 0, none⟩)] 170 ∧ Lies W' q cs t := ⟨k.lies h.lp h.op.ne h.op.own, k.lies h.lq h.oq.ne h.oq.own⟩
theorem putterValue_any (w : World) {B g : Nat} {v : Value} {st : Option (List UInt8)} (x : Va) (hT : Stays g w v fun W => Row W x.pa x.l) (h : WrO W.WSt w B g v st) (hx : sz st + 57 * cntV x ≤ 700000) :
  Calls Tryz.prog 184 #[.agg #[.pointer (some ⟨g, 0, none⟩)], .agg (vaC x)] w (PutR W.WSt w B g v (valS st x)) := by
 have hB := bx_of h #[.int .i64 x.coin, .slice x.pa x.l.length x.c] 27
 have H := Lib.hid (And.intro hT (And.intro h (show sz st + 57 + 57 * cntA x.l ≤ 700000 by unfold cntV at hx; omega)))
 clear hT h hx
 unfold vaC vC
 go_enter Tryz.func184, Tryz.ntmps184
 go_upto_region 1 with fail
 generalize ((w.alloc (.cells #[.pointer (some ⟨g, 0, none⟩)] 170)).alloc (.cells #[.int .i64 x.coin, .slice x.pa x.l.length x.c] 27)) = W0 at hB ⊢
 obtain ⟨p, hp⟩ : ∃ p, p = w.heap.size := ⟨_, rfl⟩
 obtain ⟨q, hq⟩ : ∃ q, q = w.heap.size + 1 := ⟨_, rfl⟩
 rw [← hq, ← hp] at hB ⊢
 clear hp hq
 have c0 := hB.lp.cell 0 (v := .pointer (some ⟨g, 0, none⟩)) rfl
 have c1 := hB.lq.cell 0 (v := .int .i64 x.coin) rfl
 have HC := Lib.hid (wI64 W0 x.coin (H.out.2.1.belowW hB.b) (by have := H.out.2.2; omega))
 have HB := Lib.hid hB
 clear hB
 go_wp2_with fail
 refine HC.out.mono ?_
 rintro e W1 ⟨rfl, u1, hw1, hk1⟩
 obtain ⟨l1, l2⟩ := HB.out.on hk1
 have hl1 := (Lk.of_below HB.out.b (v := v) (g := g)).trans hk1
 have c0 := l1.cell 0 (v := .pointer (some ⟨g, 0, none⟩)) rfl
 have c1 := l2.cell 1 (v := .slice x.pa x.l.length x.c) rfl
 have HC1 := Lib.hid (putterAssets_any W1 x.pa x.c x.l (H.out.1.on hl1) hw1 (by have := H.out.2.2; have := sz_N st (W.low64 x.coin) 8; omega))
 have HL := Lib.hid hl1
 clear hw1 hk1 l1 l2 hl1 HC
 go_wp2_with fail
 refine HC1.out.mono ?_
 rintro e W2 hr
 obtain ⟨rfl, hr⟩ := hr
 have HE := Lib.hid hr
 clear hr c0 c1 HC1
 go_wp2_with fail
 go_end0
 exact PutR.on HL.out ⟨rfl, HE.out⟩
def adC (b : Bool) (ah : List UInt8) : Array Value := #[.bool b] ++ B8 ah
theorem info_address : (Tryz.prog.info? 32).map (·.size) = some 33 := by kernel_rfl
theorem adC_hash {W : World} {q : Nat} {b : Bool} {ah : List UInt8} {t : TypeId} (h : Lies W q (adC b ah) t) : W.rangeAt q 1 (B8 ah).toList := fun j v hj => by
 refine h.cell (1 + j) ?_
 unfold adC
 rw [Array.getElem?_append_right (by simp)]
 rw [Array.getElem?_toList] at hj
 simpa using hj
theorem putterAddress_any (w : World) {B g : Nat} {v : Value} {st : Option (List UInt8)} (b : Bool) (ah : List UInt8) (hl : ah.length = 32) (h : WrO W.WSt w B g v st) (hx : sz st ≤ 700000) :
  Calls Tryz.prog 211 #[.agg #[.pointer (some ⟨g, 0, none⟩)], .agg (adC b ah)] w (PutR W.WSt w B g v (W.stepB (W.stepB st [if b then 1 else 0]) ah)) := by
 obtain ⟨av, hav⟩ : ∃ x, x = adC b ah := ⟨_, rfl⟩
 obtain ⟨x0, hx0⟩ : ∃ x : List UInt8, x = [if b then 1 else 0] := ⟨_, rfl⟩
 have hx1 : x0.length = 1 := by rw [hx0]; rfl
 have HX := Lib.hid (And.intro (show ∀ W0, WrO W.WSt W0 B g v st → sz st ≤ 900000 → Calls Tryz.prog 266 #[.pointer (some ⟨g, 0, none⟩), .bool b] W0 (PutR W.WSt W0 B g v (W.stepB st x0)) from fun W0 h hx => by rw [hx0]; exact wFlag W0 b h hx) hx1)
 rw [← hav, ← hx0]
 clear hx0 hx1
 have hB := bx_of h av 32
 have H := Lib.hid (And.intro hav (And.intro h (And.intro hl hx)))
 have HP := Lib.hid (show (Tryz.prog.info? 30).map (·.size) = some (B8 ah).toList.length by rw [Array.length_toList, B8_size, hl]; exact info_hashP)
 clear hav h hx hl
 obtain ⟨W0, HW⟩ : ∃ W0, (w.alloc (.cells #[.pointer (some ⟨g, 0, none⟩)] 170)).alloc (.cells av 32) = W0 := ⟨_, rfl⟩
 go_enter Tryz.func211, Tryz.ntmps211
 go_upto_region 1 with fail
 rw [HW] at hB
 clear HW
 obtain ⟨p, hp⟩ : ∃ p, p = w.heap.size := ⟨_, rfl⟩
 obtain ⟨q, hq⟩ : ∃ q, q = w.heap.size + 1 := ⟨_, rfl⟩
 rw [← hq, ← hp] at hB ⊢
 clear hp hq
 have c0 := hB.lp.cell 0 (v := .pointer (some ⟨g, 0, none⟩)) rfl
 have c1 := (show Lies W0 q (adC b ah) _ by rw [← H.out.1]; exact hB.lq).cell 0 (v := .bool b) (by unfold adC; rw [Array.getElem?_append_left (by simp)]; rfl)
 have HC := Lib.hid (HX.out.1 W0 (H.out.2.1.belowW hB.b) (by have := H.out.2.2.2; omega))
 have HB := Lib.hid hB
 clear hB
 go_wp2_with fail
 refine HC.out.mono ?_
 rintro e W1 ⟨rfl, u1, hw1, hk1⟩
 obtain ⟨l1, l2⟩ := HB.out.on hk1
 have hl1 := (Lk.of_below HB.out.b (v := v) (g := g)).trans hk1
 have c0 := l1.cell 0 (v := .pointer (some ⟨g, 0, none⟩)) rfl
 have HR := Lib.hid (adC_hash (show Lies W1 q (adC b ah) _ by rw [← H.out.1]; exact l2))
 have HC1 := Lib.hid (wHash W1 ah H.out.2.2.1 hw1 (by have := H.out.2.2.2; have := sz_B st x0; have := HX.out.2; omega))
 have HL := Lib.hid hl1
 clear hw1 hk1 l1 l2 hl1 HC c1
 go_wp2_with (first
  | (at_builtin; fail)
  | (refine wpList_load_mid rfl 30 _ rfl q 1 rfl (B8 ah).toList _ HR.out Tryz.underlying30 rfl HP.out ?_))
 refine HC1.out.mono ?_
 rintro e W2 hr
 obtain ⟨rfl, hr⟩ := hr
 have HE := Lib.hid hr
 clear hr c0 HC1
 go_wp2_with fail
 go_end0
 exact PutR.on HL.out ⟨rfl, HE.out⟩
theorem putterRef_any (w : World) {B g : Nat} {v : Value} {st : Option (List UInt8)} (r : Rf) (hl : r.tx.length = 32) (h : WrO W.WSt w B g v st) (hx : sz st ≤ 700000) :
  Calls Tryz.prog 188 #[.agg #[.pointer (some ⟨g, 0, none⟩)], .agg (refC r)] w (PutR W.WSt w B g v (refS st r)) := by
 obtain ⟨av, hav⟩ : ∃ x, x = refC r := ⟨_, rfl⟩
 rw [← hav]
 have hB := bx_of h av 37
 have H := Lib.hid (And.intro hav (And.intro h (And.intro hl hx)))
 have HP := Lib.hid (show (Tryz.prog.info? 30).map (·.size) = some (B8 r.tx).toList.length by rw [Array.length_toList, B8_size, hl]; exact info_hashP)
 clear hav h hx hl
 obtain ⟨W0, HW⟩ : ∃ W0, (w.alloc (.cells #[.pointer (some ⟨g, 0, none⟩)] 170)).alloc (.cells av 37) = W0 := ⟨_, rfl⟩
 go_enter Tryz.func188, Tryz.ntmps188
 go_upto_region 1 with fail
 rw [HW] at hB
 clear HW
 obtain ⟨p, hp⟩ : ∃ p, p = w.heap.size := ⟨_, rfl⟩
 obtain ⟨q, hq⟩ : ∃ q, q = w.heap.size + 1 := ⟨_, rfl⟩
 rw [← hq, ← hp] at hB ⊢
 clear hp hq
 have c0 := hB.lp.cell 0 (v := .pointer (some ⟨g, 0, none⟩)) rfl
 have hlr := show Lies W0 q (refC r) _ by rw [← H.out.1]; exact hB.lq
 have HR := Lib.hid (show W0.rangeAt q 0 (B8 r.tx).toList from fun j v hj => by
  rw [Nat.zero_add]
  refine hlr.cell j ?_
  rw [Array.getElem?_toList] at hj
  unfold refC
  rw [Array.getElem?_append_left (by have := (Array.getElem?_eq_some_iff.1 hj).1; exact this)]
  exact hj)
 have HC := Lib.hid (wHash W0 r.tx H.out.2.2.1 (H.out.2.1.belowW hB.b) (by have := H.out.2.2.2; omega))
 have HB := Lib.hid hB
 clear hB hlr
 go_wp2_with (first
  | (at_builtin; fail)
  | (refine wpList_load_mid rfl 30 _ rfl q 0 rfl (B8 r.tx).toList _ HR.out Tryz.underlying30 rfl HP.out ?_))
 refine HC.out.mono ?_
 rintro e W1 ⟨rfl, u1, hw1, hk1⟩
 obtain ⟨l1, l2⟩ := HB.out.on hk1
 have hl1 := (Lk.of_below HB.out.b (v := v) (g := g)).trans hk1
 have c0 := l1.cell 0 (v := .pointer (some ⟨g, 0, none⟩)) rfl
 have c1 := (show Lies W1 q (refC r) _ by rw [← H.out.1]; exact l2).cell 32 (v := .int .i64 r.place) (refC_place r H.out.2.2.1)
 have HC1 := Lib.hid (wU16 W1 r.place hw1 (by have := H.out.2.2.2; have := sz_B st r.tx; have := H.out.2.2.1; omega))
 have HL := Lib.hid hl1
 clear hw1 hk1 l1 l2 hl1 HC
 go_wp2_with fail
 refine HC1.out.mono ?_
 rintro e W2 hr
 obtain ⟨rfl, hr⟩ := hr
 have HE := Lib.hid hr
 clear hr c0 c1 HC1
 go_wp2_with fail
 go_end0
 exact PutR.on HL.out ⟨rfl, HE.out⟩
end Go.Proofs.YtilbbemdinpjcaaGreat.P
namespace Go.Proofs.YtilbbemdinpjcaaGreat.P
set_option maxRecDepth 100000
open Go.RowKit
theorem ot_ad {W : World} {q : Nat} {o : Ot} {t : TypeId} (h : Lies W q (otC o) t) : W.rangeAt q 0 (adC o.prog o.ah).toList := fun j v hj => by
 rw [Nat.zero_add]
 refine h.cell j ?_
 rw [Array.getElem?_toList] at hj
 have hlt := (Array.getElem?_eq_some_iff.1 hj).1
 have e : otC o = adC o.prog o.ah ++ (#[.int .i64 o.v.coin, .slice o.v.pa o.v.l.length o.v.c, .int .i64 o.kind] ++ B8 o.dh ++ #[.slice o.tp o.ns.length o.tc]) := by
  unfold otC adC
  simp only [Array.append_assoc]
 rw [e, Array.getElem?_append_left hlt]
 exact hj
theorem putterOutput_any (w : World) {B g : Nat} {v : Value} {st : Option (List UInt8)} (o : Ot) (hT : Stays g w v fun W => OtOk W o) (hk : o.kind = 2 → ∀ x ∈ o.ns, 1 ≤ x.kind ∧ x.kind ≤ 6) (hi : ∀ x ∈ o.ns, NdIn x) (h : WrO W.WSt w B g v st) (hx : sz st + 123 * cntO o ≤ 700000) :
  Calls Tryz.prog 139 #[.agg #[.pointer (some ⟨g, 0, none⟩)], .agg (otC o)] w (PutR W.WSt w B g v (outS st o)) := by
 have hah := hT.now.ah
 have hdh := hT.now.dh
 have hpol : ∀ a ∈ o.v.l, a.nm.1.length = 32 := fun a ha => (hT.now.v.2.2.2.1 a ha).1
 obtain ⟨ov, hov⟩ : ∃ x, x = otC o := ⟨_, rfl⟩
 rw [← hov]
 have hB := bx_of h ov 35
 obtain ⟨s1, hs1⟩ : ∃ s, s = W.stepB (W.stepB st [if o.prog then 1 else 0]) o.ah := ⟨_, rfl⟩
 have hz1 : sz s1 ≤ sz st + 33 := by
  have k1 := sz_B st [if o.prog then 1 else 0]
  have k2 := sz_B (W.stepB st [if o.prog then 1 else 0]) o.ah
  rw [List.length_singleton] at k1
  rw [hs1]
  omega
 have hO : outS st o = if o.kind = 1 then W.stepB (W.stepN (valS s1 o.v) (W.low64 o.kind) 1) o.dh else if o.kind = 2 then termS (W.stepN (valS s1 o.v) (W.low64 o.kind) 1) o.ns else W.stepN (valS s1 o.v) (W.low64 o.kind) 1 := by rw [hs1]; rfl
 have hz2 := sz_val o.v s1 hpol
 have hz3 := sz_N (valS s1 o.v) (W.low64 o.kind) 1
 have hc1 : 1 ≤ cntV o.v := by unfold cntV; omega
 have hcO : cntO o = cntV o.v + T.cost o.ns := rfl
 have HA : Hid (∀ W0, WrO W.WSt W0 B g v st → Calls Tryz.prog 211 #[.agg #[.pointer (some ⟨g, 0, none⟩)], .agg (adC o.prog o.ah)] W0 (PutR W.WSt W0 B g v s1)) := Lib.hid fun W0 hw => by rw [hs1]; exact putterAddress_any W0 o.prog o.ah hah hw (by omega)
 have HI := Lib.hid (And.intro (show (Tryz.prog.info? 32).map (·.size) = some (adC o.prog o.ah).toList.length by rw [Array.length_toList]; unfold adC; rw [Array.size_append, B8_size, hah]; exact info_address) (show (Tryz.prog.info? 30).map (·.size) = some (B8 o.dh).toList.length by rw [Array.length_toList, B8_size, hdh]; exact info_hashP))
 have H := Lib.hid (And.intro hov (And.intro hT (And.intro hk (And.intro hi (And.intro h (And.intro (show sz s1 + 57 * cntV o.v ≤ 699990 ∧ sz (W.stepN (valS s1 o.v) (W.low64 o.kind) 1) + 26 * T.cost o.ns ≤ 700000 by omega) hO))))))
 have HLL := Lib.hid (And.intro hah hdh)
 obtain ⟨s9, hs9⟩ : ∃ s, s = outS st o := ⟨_, rfl⟩
 rw [← hs9] at H ⊢
 clear hov hT hk hi h hx hah hdh hpol hs1 hz1 hz2 hz3 hc1 hcO hO hs9
 obtain ⟨W0, HW⟩ : ∃ W0, (w.alloc (.cells #[.pointer (some ⟨g, 0, none⟩)] 170)).alloc (.cells ov 35) = W0 := ⟨_, rfl⟩
 go_enter Tryz.func139, Tryz.ntmps139
 go_upto_region 1 with fail
 rw [HW] at hB
 clear HW
 obtain ⟨p, hp⟩ : ∃ p, p = w.heap.size := ⟨_, rfl⟩
 obtain ⟨q, hq⟩ : ∃ q, q = w.heap.size + 1 := ⟨_, rfl⟩
 rw [← hq, ← hp] at hB ⊢
 clear hp hq
 have c0 := hB.lp.cell 0 (v := .pointer (some ⟨g, 0, none⟩)) rfl
 have HR := Lib.hid (ot_ad (show Lies W0 q (otC o) _ by rw [← H.out.1]; exact hB.lq))
 have HC := Lib.hid (HA.out W0 (H.out.2.2.2.2.1.belowW hB.b))
 have HB := Lib.hid hB
 clear hB HA
 go_wp2_with (first
  | (at_builtin; fail)
  | (refine wpList_load_mid rfl 32 _ rfl q 0 rfl (adC o.prog o.ah).toList _ HR.out Tryz.underlying32 rfl HI.out.1 ?_))
 refine HC.out.mono ?_
 rintro e W1 ⟨rfl, u1, hw1, hk1⟩
 obtain ⟨l1, l2⟩ := HB.out.on hk1
 have hl1 := (Lk.of_below HB.out.b (v := v) (g := g)).trans hk1
 have hat := lies_at (show Lies W1 q (otC o) _ by rw [← H.out.1]; exact l2) HLL.out.1 HLL.out.2
 have c0 := l1.cell 0 (v := .pointer (some ⟨g, 0, none⟩)) rfl
 have c33 := hat.coin
 have c34 := hat.assets
 simp only [Nat.zero_add] at c33 c34
 have HC1 := Lib.hid (putterValue_any W1 o.v ((H.out.2.1.on hl1).imp fun W hW => hW.v.2.2) hw1 (by have := H.out.2.2.2.2.2.1; omega))
 unfold vaC vC at HC1
 have HL := Lib.hid (And.intro hk1 hl1)
 clear hw1 hk1 l1 l2 hl1 HC hat HR
 go_wp2_with fail
 refine HC1.out.mono ?_
 rintro e W2 ⟨rfl, u2, hw2, hk2⟩
 have hl2 := HL.out.1.trans hk2
 obtain ⟨l1, l2⟩ := HB.out.on hl2
 have hat := lies_at (show Lies W2 q (otC o) _ by rw [← H.out.1]; exact l2) HLL.out.1 HLL.out.2
 have c0 := l1.cell 0 (v := .pointer (some ⟨g, 0, none⟩)) rfl
 have c35 := hat.kind
 simp only [Nat.zero_add] at c35
 have hz2 := sz_val o.v s1 (fun a ha => (H.out.2.1.now.v.2.2.2.1 a ha).1)
 have HC2 := Lib.hid (wU8 W2 o.kind hw2 (by have := H.out.2.2.2.2.2.1; omega))
 have HL2 := Lib.hid (And.intro hl2 (HL.out.2.trans hk2))
 clear hw2 hk2 l1 l2 hl2 HC1 hat c33 c34 hz2
 go_wp2_with fail
 refine HC2.out.mono ?_
 rintro e W3 ⟨rfl, u3, hw3, hk3⟩
 have hl3 := HL2.out.1.trans hk3
 have hf3 := HL2.out.2.trans hk3
 obtain ⟨l1, l2⟩ := HB.out.on hl3
 have hat := lies_at (show Lies W3 q (otC o) _ by rw [← H.out.1]; exact l2) HLL.out.1 HLL.out.2
 have c0 := l1.cell 0 (v := .pointer (some ⟨g, 0, none⟩)) rfl
 have c35 := hat.kind
 have c68 := hat.term
 have HD := Lib.hid hat.dh
 simp only [Nat.zero_add] at c35 c68
 have HW3 := Lib.hid (And.intro hw3 hf3)
 obtain ⟨kd, hkd⟩ : ∃ k, k = o.kind := ⟨_, rfl⟩
 rw [← hkd] at c35
 have HKD := Lib.hid hkd
 clear hw3 hk3 l1 l2 hl3 hf3 HC2 hat hkd
 by_cases k1 : kd = 1
 ·
  have HC3 := Lib.hid (wHash W3 o.dh HLL.out.2 HW3.out.1 (by have := H.out.2.2.2.2.2.1; omega))
  have HS := Lib.hid (show s9 = W.stepB (W.stepN (valS s1 o.v) (W.low64 o.kind) 1) o.dh by have := H.out.2.2.2.2.2.2; rw [this, if_pos (by rw [← HKD.out]; exact k1)])
  go_wp2_with (first
   | (at_builtin; fail)
   | (refine wpList_load_mid rfl 30 _ rfl q 36 rfl (B8 o.dh).toList _ HD.out Tryz.underlying30 rfl HI.out.2 ?_))
  refine HC3.out.mono ?_
  rintro e W4 hr
  obtain ⟨rfl, hr⟩ := hr
  have HE := Lib.hid hr
  clear hr c0 c35 c68 HC3
  go_wp2_with fail
  go_end0
  rw [HS.out]
  exact PutR.on HW3.out.2 ⟨rfl, HE.out⟩
 ·
  by_cases k2 : kd = 2
  ·
   have HC3 := Lib.hid (putterTerm_any W3 o.tp o.tc o.ns ((H.out.2.1.on HW3.out.2).imp fun W hW => hW.t) (H.out.2.2.1 (by rw [← HKD.out]; exact k2)) H.out.2.2.2.1 HW3.out.1 H.out.2.2.2.2.2.1.2)
   have HS := Lib.hid (show s9 = termS (W.stepN (valS s1 o.v) (W.low64 o.kind) 1) o.ns by have := H.out.2.2.2.2.2.2; rw [this, if_neg (by rw [← HKD.out]; exact k1), if_pos (by rw [← HKD.out]; exact k2)])
   go_wp2_with fail
   refine HC3.out.mono ?_
   rintro e W4 hr
   obtain ⟨rfl, hr⟩ := hr
   have HE := Lib.hid hr
   clear hr c0 c35 c68 HC3
   go_wp2_with fail
   go_end0
   rw [HS.out]
   exact PutR.on HW3.out.2 ⟨rfl, HE.out⟩
  ·
   have HS := Lib.hid (show s9 = W.stepN (valS s1 o.v) (W.low64 o.kind) 1 by have := H.out.2.2.2.2.2.2; rw [this, if_neg (by rw [← HKD.out]; exact k1), if_neg (by rw [← HKD.out]; exact k2)])
   go_wp2_with fail
   go_end0
   rw [HS.out]
   exact PutR.end_ HW3.out.1 HW3.out.2
end Go.Proofs.YtilbbemdinpjcaaGreat.P
namespace Go.Proofs.YtilbbemdinpjcaaGreat.P
set_option maxRecDepth 100000
open Go.RowKit Go.Sort
end Go.Proofs.YtilbbemdinpjcaaGreat.P
