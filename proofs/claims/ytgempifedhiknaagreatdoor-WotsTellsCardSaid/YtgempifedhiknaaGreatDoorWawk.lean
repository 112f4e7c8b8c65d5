/-
  The chapter's examples hold (7).
  WotsSigned: the owner of what a seed signs is its key, whatever the message.
-/
import Derived.Test.YtgempifedhiknaaGreatDoorWsame
import Derived.Deep.RegionHeld3
import Derived.Deep.CutRange
import Derived.Lib.SlBytesConst
namespace Go.Proofs.YtgempifedhiknaaGreatDoor
set_option maxRecDepth 100000
open Go.RowKit Go.Shelf Sha

def seedB : List UInt8 := [115, 101, 101, 100]
theorem src_marked {w : World} {g : Nat} {l : List UInt8} {t : TypeId} {fr : Nat × Nat} (h : w.heap[g]? = some (.cells (B8 l) t fr)) : Src w g 0 l := fun j hj => by
  rw [Nat.zero_add, cell_of_row w g j (B8 l) t fr h]
  exact B8_get l j hj
theorem conv_new (W : World) (C : Array Value) (n c : Nat) : (convert 22 22 (.slice (some ⟨W.heap.size, 0, none⟩) n c)).run Tryz.prog (W.alloc (.cells C 5)) = .ok (.slice (some ⟨W.heap.size, 0, none⟩) n c) (W.alloc (.cells C 5 (C.size, C.size + 1))) :=
  Go.Lib.run_convert_bytes_const W 22 5 C n c Tryz.underlying22 Tryz.underlying5
theorem conv_newD (W : World) (C : Array Value) (n c : Nat) : (convert 22 22 (.slice (some ⟨W.heap.size, 0, none⟩) n c)).run Tryz.prog (W.alloc (.cells C 5)).drew = .ok (.slice (some ⟨W.heap.size, 0, none⟩) n c) (W.alloc (.cells C 5 (C.size, C.size + 1))).drew :=
  conv_new W.drew C n c
/-- The hash of the seed's bytes and one more, in a region that draws its order. -/
theorem of_text (w : World) (k : UInt8) (hs : Starts w) (hc : Cubes w) :
    Calls Tryz.prog 12 #[.slice (some ⟨w.heap.size + 1, 0, none⟩) 1 1] ((w.alloc (.cells #[.int .u8 115, .int .u8 101, .int .u8 101, .int .u8 100, .int .u8 k.toNat] 5 (5, 6))).alloc (.cells #[.slice (some ⟨w.heap.size, 0, none⟩) 5 5] 22))
      fun e w' => e = .returned (.agg (B8 (firstH seedB k.toNat))) ∧ Below w.heap.size w w' := by
  have hb : Below w.heap.size w ((w.alloc (.cells #[.int .u8 115, .int .u8 101, .int .u8 101, .int .u8 100, .int .u8 k.toNat] 5 (5, 6))).alloc (.cells #[.slice (some ⟨w.heap.size, 0, none⟩) 5 5] 22)) := ((Below.refl _ _).alloc (Nat.le_refl _) _).alloc (by simp) _
  have t0 : ((w.alloc (.cells #[.int .u8 115, .int .u8 101, .int .u8 101, .int .u8 100, .int .u8 k.toNat] 5 (5, 6))).alloc (.cells #[.slice (some ⟨w.heap.size, 0, none⟩) 5 5] 22)).heap[w.heap.size]? = some (.cells (B8 (seedB ++ [k])) 5 (5, 6)) := (Below.heap_alloc _ _ _ (by simp)).trans (heap_alloc_new w _)
  have t2 : Lies ((w.alloc (.cells #[.int .u8 115, .int .u8 101, .int .u8 101, .int .u8 100, .int .u8 k.toNat] 5 (5, 6))).alloc (.cells #[.slice (some ⟨w.heap.size, 0, none⟩) 5 5] 22)) (w.heap.size + 1) #[.slice (some ⟨w.heap.size, 0, none⟩) 5 5] 22 := by
    have := Lies.new (w.alloc (.cells #[.int .u8 115, .int .u8 101, .int .u8 101, .int .u8 100, .int .u8 k.toNat] 5 (5, 6))) #[.slice (some ⟨w.heap.size, 0, none⟩) 5 5] 22
    simpa using this
  have h1n : 1 < w.heap.size := Lies.lt hc
  generalize (w.alloc (.cells #[.int .u8 115, .int .u8 101, .int .u8 101, .int .u8 100, .int .u8 k.toNat] 5 (5, 6))).alloc (.cells #[.slice (some ⟨w.heap.size, 0, none⟩) 5 5] 22) = W at hb t0 t2 ⊢
  have t1 := src_marked t0
  have hj : joined [⟨some ⟨w.heap.size, 0, none⟩, seedB ++ [k], 5⟩] = seedB ++ [k] := by simp [joined]
  have main := of_any [⟨some ⟨w.heap.size, 0, none⟩, seedB ++ [k], 5⟩] W (some ⟨w.heap.size + 1, 0, none⟩) 1 (by simp [maxLen]) ?_ ?_ (by rw [hj]; simp [seedB]) (hs.below hb (by omega)) (hc.below hb h1n)
  · rw [hj] at main
    refine main.mono ?_
    rintro e w3 ⟨rfl, hb3⟩
    refine ⟨?_, hb.trans (hb3.mono hb.size)⟩
    unfold firstH
    rw [UInt8.ofNat_toNat]
  · intro p hp
    rw [List.mem_singleton] at hp
    subst hp
    refine ⟨by simp [seedB], by simp [maxLen], fun _ => ⟨_, _, rfl, (Array.getElem?_eq_some_iff.1 t0).1, t1⟩⟩
  · intro _
    refine ⟨_, _, rfl, t2.lt, fun j hj => ?_⟩
    obtain rfl : j = 0 := by simp at hj; omega
    exact t2.cell 0 rfl
theorem sig_34 : sigH seedB (fullM 255) 34 = firstH seedB 34 := by
  have : digit (fullM 255) 34 = 0 := by decide +kernel
  unfold sigH
  rw [this]; rfl
theorem sig_0 : sigH seedB (fullM 0) 0 = firstH seedB 0 := by
  have : digit (fullM 0) 0 = 0 := by decide +kernel
  unfold sigH
  rw [this]; rfl
theorem sig_32 : sigH seedB (fullM 0) 32 = nextH 32 1 (firstH seedB 32) := by
  have : digit (fullM 0) 32 = 1 := by decide +kernel
  unfold sigH
  rw [this]; rfl
/-- The hash i of a row stands there. -/
theorem range_row {W : World} {g : Nat} {F : List UInt8} (hs : Src W g 0 F) (hF : F.length = 1120) (i : Nat) (hi : i < 35) : W.rangeAt g (i * 32) (B8 (hashAt F i)).toList := fun j v hv => by
  rw [Array.getElem?_toList] at hv
  have hj : j < 32 := by
    have := (Array.getElem?_eq_some_iff.1 hv).1
    rw [B8_size, hashAt_length F hF i] at this
    exact this
  have h1 := hs (i * 32 + j) (by omega)
  rw [Nat.zero_add] at h1
  rw [h1, ← hv, B8_get _ j (by rw [hashAt_length F hF i]; exact hj)]
  unfold hashAt
  rw [if_pos hi]
  simp only [List.getD_eq_getElem?_getD]
  rw [List.getElem?_take_of_lt hj, List.getElem?_drop]
theorem full255 (w : World) : Calls Tryz.prog 11 #[.int .u8 255] w fun e w' => e = .returned (.agg (B8 (fullM 255))) ∧ Below w.heap.size w w' := full_any 255 w
theorem full0 (w : World) : Calls Tryz.prog 11 #[.int .u8 0] w fun e w' => e = .returned (.agg (B8 (fullM 0))) ∧ Below w.heap.size w w' := full_any 0 w
theorem of_textD (w : World) (k : UInt8) (hs : Starts w) (hc : Cubes w) :
    Calls Tryz.prog 12 #[.slice (some ⟨w.heap.size + 1, 0, none⟩) 1 1] ((w.alloc (.cells #[.int .u8 115, .int .u8 101, .int .u8 101, .int .u8 100, .int .u8 k.toNat] 5 (5, 6))).alloc (.cells #[.slice (some ⟨w.heap.size, 0, none⟩) 5 5] 22)).drew
      fun e w' => e = .returned (.agg (B8 (firstH seedB k.toNat))) ∧ Below w.heap.size w w' :=
  (of_text w.drew k hs.drew hc.drew).mono fun _ _ h => ⟨h.1, ((Below.refl w.heap.size w).drew).trans h.2⟩
theorem sign_seed (W : World) (g : Nat) (hl : Src W g 0 seedB) (hgl : g < W.heap.size) (M : List UInt8) (hM : M.length = 32) (hs : Starts W) (hc : Cubes W) :
    Calls Tryz.prog 5 #[.slice (some ⟨g, 0, none⟩) 4 4, .agg (B8 M)] W fun e w' => ∃ g1 c1, e = .returned (.agg #[.slice (some ⟨g1, 0, none⟩) 35 c1]) ∧ Src w' g1 0 (signL seedB M) ∧ g1 < w'.heap.size ∧ Below W.heap.size W w' := by
  have hg : Good W ⟨some ⟨g, 0, none⟩, seedB, 4⟩ := ⟨Nat.le_refl _, by simp [maxLen], fun _ => ⟨g, 0, rfl, hgl, hl⟩⟩
  refine (sign_any W (some ⟨g, 0, none⟩) seedB 4 M hM (by simp [seedB]) hg hs hc).mono ?_
  rintro e w' ⟨v, rfl, hrow, hb⟩
  obtain ⟨g1, c1, rfl, _⟩ := hrow.shape (by omega)
  exact ⟨g1, c1, rfl, hrow.src, (hrow.block g1 rfl).2.1, hb⟩
theorem key_seed (W : World) (g : Nat) (hl : Src W g 0 seedB) (hgl : g < W.heap.size) (hs : Starts W) (hc : Cubes W) :
    Calls Tryz.prog 8 #[.slice (some ⟨g, 0, none⟩) 4 4] W fun e w' => e = .returned (.agg (B8 (keyH seedB))) ∧ Below W.heap.size W w' :=
  key_any W (some ⟨g, 0, none⟩) seedB 4 (by simp [seedB]) ⟨Nat.le_refl _, by simp [maxLen], fun _ => ⟨g, 0, rfl, hgl, hl⟩⟩ hs hc
theorem range_lies0 {w : World} {b : Nat} {cs : Array Value} {t : TypeId} (hl : Lies w b cs t) : w.rangeAt b 0 cs.toList := range_lies hl
section
variable {P : Program} {ops : Array Oper} {Q : Exit → Act → World → Prop} {md : Region.Mode} {S : World → Prop}
theorem held_take {i : Nat} {oi : Oper} {v : Value} {fuel : Nat} {listed : Array Bool} {a : Act} {w : World} (hi : ops[i]? = some oi) (d : Tmp) (hd : oi.dst = some d)
    (hs : Region.noSelect ops = true) (hf : Region.free md ops listed i = true) (hr : (Region.ready md ops listed).contains i = true) (hQ : ∀ c a w, Q (.panic c) (a.put (some d) v) w → Q (.panic c) a w)
    (hw : Region.wanted oi (yielded ops a.tmps) = true) (hy : ∀ w, S w → (execOp a.eval oi).run P w = .ok (.value v) w) (hS : S w) (l2 : Array Bool) (hl : listed.setIfInBounds i true = l2)
    (h : wpAnyH P md ops Q S fuel l2 (a.put (some d) v) w) : wpAnyH P md ops Q S (fuel + 1) listed a w := by
  subst hl
  rw [← hd] at h hQ
  exact wpAnyH_take hi hs hf hr hQ (.inl ⟨hw, hy⟩) hS h
theorem held_one {i : Nat} {fuel : Nat} {listed : Array Bool} {a : Act} {w : World} (hr : Region.ready md ops listed = [i]) (l2 : Array Bool) (hl : listed.setIfInBounds i true = l2)
    (h : wpOp P ops Q i (fun a' w' => S w' ∧ wpAnyH P md ops Q S fuel l2 a' w') a w) : wpAnyH P md ops Q S (fuel + 1) listed a w := by
  subst hl
  refine wpAnyH_all hr (by simp) ?_
  intro j hj
  obtain rfl : j = i := by simpa using hj
  exact h
theorem wpOp_valG {i : Nat} {o : Oper} {a : Act} {w w' : World} {K : Act → World → Prop} {v : Value} (hi : ops[i]? = some o) (hw : Region.wanted o (yielded ops a.tmps) = true) (d : Tmp) (hd : o.dst = some d)
    (hr : (execOp a.eval o).run P w = .ok (.value v) w') (h : K (a.put (some d) v) w') : wpOp P ops Q i K a w := by
  unfold wpOp
  rw [hi]
  show if Region.wanted o (yielded ops a.tmps) = true then _ else _
  rw [if_pos hw]
  refine .inl ?_
  unfold Oper.wp
  rw [hr, Oper.upon_value, hd]
  exact h
theorem wpOp_callG {i : Nat} {o : Oper} {a : Act} {w : World} {K : Act → World → Prop} (hi : ops[i]? = some o) (hw : Region.wanted o (yielded ops a.tmps) = true) (d : Tmp) (hd : o.dst = some d) (f : FuncId) (args : Array Value)
    (hr : (execOp a.eval o).run P w = .ok (.enter f args) w) (R : Value → World → Prop) (hc : Calls P f args w fun e w' => ∃ v, e = .returned v ∧ R v w') (h : ∀ v w', R v w' → K (a.put (some d) v) w') : wpOp P ops Q i K a w := by
  unfold wpOp
  rw [hi]
  show if Region.wanted o (yielded ops a.tmps) = true then _ else _
  rw [if_pos hw]
  refine .inl ?_
  unfold Oper.wp
  rw [hr, Oper.upon_enter]
  refine hc.mono fun e w' hh => ?_
  obtain ⟨v, rfl, hR⟩ := hh
  rw [hd]
  exact h v w' hR
theorem ret_of {f : FuncId} {args : Array Value} {w : World} {v : Value} {B : Nat} {w0 : World} (h : Calls P f args w fun e w' => e = .returned v ∧ Below B w0 w') : Calls P f args w fun e w' => ∃ v2, e = .returned v2 ∧ (v2 = v ∧ Below B w0 w') :=
  h.mono fun _ _ h => ⟨v, h.1, rfl, h.2⟩
end
theorem exec_loadA {o : Oper} {a : Act} {w : World} (x : Operand) (ho : o.op = .load 24 x) (b p : Nat) (hx : a.eval x = .pointer (some ⟨b, p, none⟩)) {cs : Array Value} (hc : w.rangeAt b p cs.toList) (hi : (Tryz.prog.info? 24).map (·.size) = some cs.toList.length) :
    (execOp a.eval o).run Tryz.prog w = .ok (.value (.agg cs)) w := by
  have h := run_loadAt_mid (P := Tryz.prog) w b p 24 cs.toList _ hc Tryz.underlying24 rfl hi
  unfold execOp
  rw [Array.toArray_toList] at h
  simp only [ho, hx, Sem.run_bind, h, Result.andThen_ok]
  rfl
set_option maxRecDepth 100000 in
set_option maxHeartbeats 2000000 in
theorem awake_any (w : World) (hs : Starts w) (hc : Cubes w) : Calls Tryz.prog 4 #[] w fun e w' => e = .returned (.bool true) ∧ Below w.heap.size w w' := by
  have HSC := Lib.hid (And.intro hs hc)
  clear hs hc
  go_enter Tryz.func4, Tryz.ntmps4
  have hcv := conv_new w #[.int .u8 115, .int .u8 101, .int .u8 101, .int .u8 100] 4 4
  rw [show (#[Value.int .u8 115, .int .u8 101, .int .u8 101, .int .u8 100] : Array Value).size = 4 from rfl] at hcv
  obtain ⟨M1, hM1⟩ : ∃ M, M = fullM 255 := ⟨_, rfl⟩
  obtain ⟨M0, hM0⟩ : ∃ M, M = fullM 0 := ⟨_, rfl⟩
  have HM := Lib.hid (And.intro hM1 hM0)
  have hl1 : M1.length = 32 := by rw [hM1]; rfl
  have hl0 : M0.length = 32 := by rw [hM0]; rfl
  have HL := Lib.hid (And.intro hl1 hl0)
  have hf1 : ∀ V, Calls Tryz.prog 11 #[.int .u8 255] V fun e w' => e = .returned (.agg (B8 M1)) ∧ Below V.heap.size V w' := fun V => by rw [hM1]; exact full255 V
  have hf0 : ∀ V, Calls Tryz.prog 11 #[.int .u8 0] V fun e w' => e = .returned (.agg (B8 M0)) ∧ Below V.heap.size V w' := fun V => by rw [hM0]; exact full0 V
  have HF1 := Lib.hid hf1
  have HF0 := Lib.hid hf0
  clear hM1 hM0 hl1 hl0 hf1 hf0
  go_upto_region 2 with fail
  clear hcv
  have hA : Src (w.alloc (.cells #[.int .u8 115, .int .u8 101, .int .u8 101, .int .u8 100] 5 (4, 4 + 1))) w.heap.size 0 seedB := src_marked (l := seedB) (heap_alloc_new w _)
  have hb0 : Below w.heap.size w (w.alloc (.cells #[.int .u8 115, .int .u8 101, .int .u8 101, .int .u8 100] 5 (4, 4 + 1))) := (Below.refl _ _).alloc (Nat.le_refl _) _
  have hAl : w.heap.size < (w.alloc (.cells #[.int .u8 115, .int .u8 101, .int .u8 101, .int .u8 100] 5 (4, 4 + 1))).heap.size := by simp
  generalize w.alloc (.cells #[.int .u8 115, .int .u8 101, .int .u8 101, .int .u8 100] 5 (4, 4 + 1)) = W0 at hA hAl hb0 ⊢
  have h1n := Lies.lt HSC.out.2
  have hk : ∀ V, Below W0.heap.size W0 V → Starts V ∧ Cubes V ∧ Src V w.heap.size 0 seedB ∧ Below w.heap.size w V ∧ w.heap.size < V.heap.size := fun V hV => by
    have hbv := hb0.trans (hV.mono hb0.size)
    exact ⟨HSC.out.1.below hbv (by omega), HSC.out.2.below hbv h1n, fun j hj => (hV.cell (p := ⟨w.heap.size, 0 + j, none⟩) hAl).trans (hA j hj), hbv, Nat.lt_of_lt_of_le hAl hV.size⟩
  have HK := Lib.hid hk
  clear hA hAl hb0 hk h1n
  go_wp2_with fail
  refine (HF1.out W0).mono ?_
  rintro e w1 ⟨rfl, hb1⟩
  have hsg := sign_seed w1 w.heap.size (HK.out _ hb1).2.2.1 (HK.out _ hb1).2.2.2.2 M1 HL.out.1 (HK.out _ hb1).1 (HK.out _ hb1).2.1
  have HSG := Lib.hid hsg
  have HB1 := Lib.hid hb1
  clear hsg hb1
  go_wp2_with fail
  refine HSG.out.mono ?_
  rintro e w2 ⟨g1, c1, rfl, hsrc1, hg1, hb2'⟩
  have hb2 := HB1.out.trans (hb2'.mono HB1.out.size)
  have H2 := Lib.hid (And.intro hsrc1 (And.intro hg1 hb2))
  clear hsrc1 hg1 hb2' hb2 HSG HB1
  go_upto_region 3 with fail
  have hbx : Below w2.heap.size w2 (w2.alloc (.cells #[.slice (some ⟨g1, 0, none⟩) 35 c1] 28)) := (Below.refl _ _).alloc (Nat.le_refl _) _
  have hlx : Lies (w2.alloc (.cells #[.slice (some ⟨g1, 0, none⟩) 35 c1] 28)) w2.heap.size #[.slice (some ⟨g1, 0, none⟩) 35 c1] 28 := Lies.new _ _ _
  have hbW : Below W0.heap.size W0 (w2.alloc (.cells #[.slice (some ⟨g1, 0, none⟩) 35 c1] 28)) := H2.out.2.2.trans (hbx.mono H2.out.2.2.size)
  generalize w2.alloc (.cells #[.slice (some ⟨g1, 0, none⟩) 35 c1] 28) = W3 at hbx hlx hbW ⊢
  obtain ⟨b2, hb2⟩ : ∃ b2, b2 = w2.heap.size := ⟨_, rfl⟩
  rw [← hb2] at hlx ⊢
  have hsrc3 : ∀ V, Below W3.heap.size W3 V → Src V g1 0 (signL seedB M1) := fun V hV j hj => by
    have h := hbx.trans (hV.mono hbx.size)
    exact (h.cell (p := ⟨g1, 0 + j, none⟩) H2.out.2.1).trans (H2.out.1 j hj)
  have hK3 : ∀ V, Below W3.heap.size W3 V → Starts V ∧ Cubes V ∧ Src V w.heap.size 0 seedB ∧ Below w.heap.size w V ∧ w.heap.size < V.heap.size := fun V hV => HK.out V (hbW.trans (hV.mono hbW.size))
  have hg13 : g1 < W3.heap.size := Nat.lt_of_lt_of_le H2.out.2.1 hbx.size
  have hlx3 : ∀ V, Below W3.heap.size W3 V → Lies V b2 #[.slice (some ⟨g1, 0, none⟩) 35 c1] 28 := fun V hV => hlx.below hV hlx.lt
  have HS3 := Lib.hid hsrc3
  have HK3 := Lib.hid hK3
  have HG3 := Lib.hid hg13
  have HLX := Lib.hid hlx3
  clear hsrc3 hK3 hg13 hlx3 hbx hlx hbW hb2 H2
  obtain ⟨v34, hv34⟩ : ∃ v, v = B8 (firstH seedB 34) := ⟨_, rfl⟩
  have h34s : v34.size = 32 := by rw [hv34, B8_size]; exact firstH_length _ _
  have HV34 := Lib.hid (And.intro hv34 h34s)
  have hS : ∀ V, Below W3.heap.size W3 V → V.cell? ⟨b2, 0, none⟩ = some (.slice (some ⟨g1, 0, none⟩) 35 c1) ∧ V.rangeAt g1 1088 v34.toList := fun V hV => by
    refine ⟨(HLX.out V hV).cell 0 rfl, ?_⟩
    have := range_row (HS3.out V hV) (signL_length seedB M1) 34 (by omega)
    rw [hashAt_sign seedB M1 34 (by omega)] at this
    rw [HM.out.1, sig_34] at this
    rw [HV34.out.1]
    exact this
  have HS := Lib.hid hS
  have ht : ∀ V, Below W3.heap.size W3 V → Calls Tryz.prog 12 #[.slice (some ⟨V.heap.size + 1, 0, none⟩) 1 1] ((V.alloc (.cells #[.int .u8 115, .int .u8 101, .int .u8 101, .int .u8 100, .int .u8 34] 5 (5, 6))).alloc (.cells #[.slice (some ⟨V.heap.size, 0, none⟩) 5 5] 22)) fun e w' => e = .returned (.agg v34) ∧ Below V.heap.size V w' := fun V hV => by
    rw [hv34]; exact of_text V 34 (HK3.out V hV).1 (HK3.out V hV).2.1
  have hcv5 : ∀ V : World, (convert 22 22 (.slice (some ⟨V.heap.size, 0, none⟩) 5 5)).run Tryz.prog (V.alloc (.cells #[.int .u8 115, .int .u8 101, .int .u8 101, .int .u8 100, .int .u8 34] 5)) = .ok (.slice (some ⟨V.heap.size, 0, none⟩) 5 5) (V.alloc (.cells #[.int .u8 115, .int .u8 101, .int .u8 101, .int .u8 100, .int .u8 34] 5 (5, 6))) := fun V => conv_new V _ 5 5
  have heq : ∀ V, (Op.equalIn 10000 24 (.agg v34) (.agg v34)).run Tryz.prog V = .ok true V := fun V => by rw [hv34]; exact equal_same _ (firstH_length _ _) V
  have hgu := guard26
  have under26 := Tryz.underlying24
  have size26 : (Tryz.prog.info? 24).map (·.size) = some v34.toList.length := by
    rw [Array.length_toList, h34s]; kernel_rfl
  have HT := Lib.hid ht
  have s0 := hS _ (Below.refl _ _).drew
  have b1 : ∀ V o, Below W3.heap.size W3 V → Below W3.heap.size W3 (V.alloc o) := fun V o h => h.alloc h.size o
  have HGB := Lib.hid b1
  clear hS ht hv34 h34s b1
  refine wp_region_noPanic (wp_region_held (S := fun V => V.cell? ⟨b2, 0, none⟩ = some (.slice (some ⟨g1, 0, none⟩) 35 c1) ∧ V.rangeAt g1 1088 v34.toList) (by kernel_rfl) ?_)
  change wpAnyH _ _ _ _ _ 15 _ _ (World.drew W3)
  have hbd : Below W3.heap.size W3 W3.drew := (Below.refl _ _).drew
  generalize World.drew W3 = wd at s0 hbd ⊢
  have hcur := s0
  refine held_take (i := 0) (v := (.pointer (some ⟨b2, 0, none⟩))) rfl 11 rfl (by kernel_rfl) (by kernel_rfl) (by kernel_rfl) (fun _ _ _ h => h) (by rfl) (by intro w' hS'; unfold execOp; simp [go_sem]) hcur _ rfl ?_
  simp only [Act.put, List.setIfInBounds_toArray, List.set_cons_zero, List.set_cons_succ]
  refine held_take (i := 1) (v := (.slice (some ⟨g1, 0, none⟩) 35 c1)) rfl 12 rfl (by kernel_rfl) (by kernel_rfl) (by kernel_rfl) (fun _ _ _ h => h) (by rfl) (by intro w' hS'; have h1 := hS'.1; unfold execOp; simp [go_sem, h1]) hcur _ rfl ?_
  simp only [Act.put, List.setIfInBounds_toArray, List.set_cons_zero, List.set_cons_succ]
  refine held_take (i := 2) (v := (.int .i64 35)) rfl 13 rfl (by kernel_rfl) (by kernel_rfl) (by kernel_rfl) (fun _ _ _ h => h) (by rfl) (by intro w' hS'; unfold execOp; simp [go_sem]) hcur _ rfl ?_
  simp only [Act.put, List.setIfInBounds_toArray, List.set_cons_zero, List.set_cons_succ]
  refine held_take (i := 3) (v := (.bool false)) rfl 14 rfl (by kernel_rfl) (by kernel_rfl) (by kernel_rfl) (fun _ _ _ h => h) (by rfl) (by intro w' hS'; unfold execOp; simp [go_sem]) hcur _ rfl ?_
  simp only [Act.put, List.setIfInBounds_toArray, List.set_cons_zero, List.set_cons_succ]
  refine held_take (i := 4) (v := (.bool false)) rfl 15 rfl (by kernel_rfl) (by kernel_rfl) (by kernel_rfl) (fun _ _ _ h => h) (by rfl) (by intro w' hS'; unfold execOp; simp [go_sem]) hcur _ rfl ?_
  simp only [Act.put, List.setIfInBounds_toArray, List.set_cons_zero, List.set_cons_succ]
  refine held_take (i := 5) (v := (.pointer (some ⟨b2, 0, none⟩))) rfl 16 rfl (by kernel_rfl) (by kernel_rfl) (by kernel_rfl) (fun _ _ _ h => h) (by rfl) (by intro w' hS'; unfold execOp; simp [go_sem]) hcur _ rfl ?_
  simp only [Act.put, List.setIfInBounds_toArray, List.set_cons_zero, List.set_cons_succ]
  refine held_take (i := 6) (v := (.slice (some ⟨g1, 0, none⟩) 35 c1)) rfl 17 rfl (by kernel_rfl) (by kernel_rfl) (by kernel_rfl) (fun _ _ _ h => h) (by rfl) (by intro w' hS'; have h1 := hS'.1; unfold execOp; simp [go_sem, h1]) hcur _ rfl ?_
  simp only [Act.put, List.setIfInBounds_toArray, List.set_cons_zero, List.set_cons_succ]
  refine held_take (i := 7) (v := (.pointer (some ⟨g1, 1088, none⟩))) rfl 18 rfl (by kernel_rfl) (by kernel_rfl) (by kernel_rfl) (fun _ _ _ h => h) (by rfl) (by intro w' hS'; unfold execOp; simp [go_sem]) hcur _ rfl ?_
  simp only [Act.put, List.setIfInBounds_toArray, List.set_cons_zero, List.set_cons_succ]
  refine held_take (i := 8) (v := (.agg v34)) rfl 19 rfl (by kernel_rfl) (by kernel_rfl) (by kernel_rfl) (fun _ _ _ h => h) (by rfl) (by intro w' hS'; exact exec_loadA _ rfl _ _ rfl hS'.2 size26) hcur _ rfl ?_
  simp only [Act.put, List.setIfInBounds_toArray, List.set_cons_zero, List.set_cons_succ]
  refine held_one (i := 9) (by kernel_rfl) _ rfl (wpOp_valG (v := .slice (some ⟨wd.heap.size, 0, none⟩) 5 5) (w' := wd.alloc (.cells #[.int .u8 115, .int .u8 101, .int .u8 101, .int .u8 100, .int .u8 34] 5)) rfl (by rfl) 20 rfl (by unfold execOp; simp [go_sem]) ?_)
  refine ⟨HS.out _ (HGB.out _ _ hbd), ?_⟩
  simp only [Act.put, List.setIfInBounds_toArray, List.set_cons_zero, List.set_cons_succ]
  refine held_one (i := 10) (by kernel_rfl) _ rfl (wpOp_valG (v := .slice (some ⟨wd.heap.size, 0, none⟩) 5 5) (w' := wd.alloc (.cells #[.int .u8 115, .int .u8 101, .int .u8 101, .int .u8 100, .int .u8 34] 5 (5, 6))) rfl (by rfl) 21 rfl (by unfold execOp; simp [go_sem, hcv5]) ?_)
  refine ⟨HS.out _ (HGB.out _ _ hbd), ?_⟩
  simp only [Act.put, List.setIfInBounds_toArray, List.set_cons_zero, List.set_cons_succ]
  refine held_one (i := 11) (by kernel_rfl) _ rfl (wpOp_valG (v := .slice (some ⟨wd.heap.size + 1, 0, none⟩) 1 1) (w' := (wd.alloc (.cells #[.int .u8 115, .int .u8 101, .int .u8 101, .int .u8 100, .int .u8 34] 5 (5, 6))).alloc (.cells #[.slice (some ⟨wd.heap.size, 0, none⟩) 5 5] 22)) rfl (by rfl) 22 rfl (by unfold execOp; simp [go_sem]) ?_)
  refine ⟨HS.out _ (HGB.out _ _ (HGB.out _ _ hbd)), ?_⟩
  simp only [Act.put, List.setIfInBounds_toArray, List.set_cons_zero, List.set_cons_succ]
  refine held_one (i := 12) (by kernel_rfl) _ rfl (wpOp_callG rfl (by rfl) 23 rfl 12 #[.slice (some ⟨wd.heap.size + 1, 0, none⟩) 1 1] (by unfold execOp; simp [go_sem]) _ (ret_of (HT.out wd hbd)) ?_)
  rintro v2 w4 ⟨rfl, hb4'⟩
  have hb4 : Below W3.heap.size W3 w4 := hbd.trans (hb4'.mono hbd.size)
  have hcur := HS.out _ hb4
  refine ⟨hcur, ?_⟩
  simp only [Act.put, List.setIfInBounds_toArray, List.set_cons_zero, List.set_cons_succ]
  refine held_take (i := 13) (v := (.bool false)) rfl 24 rfl (by kernel_rfl) (by kernel_rfl) (by kernel_rfl) (fun _ _ _ h => h) (by rfl) (by intro w' hS'; unfold execOp; simp [go_sem, heq, hgu]) hcur _ rfl ?_
  simp only [Act.put, List.setIfInBounds_toArray, List.set_cons_zero, List.set_cons_succ]
  refine held_take (i := 14) (v := (.bool false)) rfl 25 rfl (by kernel_rfl) (by kernel_rfl) (by kernel_rfl) (fun _ _ _ h => h) (by rfl) (by intro w' hS'; unfold execOp; simp [go_sem]) hcur _ rfl ?_
  simp only [Act.put, List.setIfInBounds_toArray, List.set_cons_zero, List.set_cons_succ]
  refine wpAnyH_done (by kernel_rfl) ?_ _
  unfold NoPanic
  dsimp only
  clear hbd hcur hb4'
  have hG4 : Below W3.heap.size W3 w4 := hb4
  have hG4d : Below W3.heap.size W3 w4.drew := hb4.drew
  have hga : ∀ V o, Below W3.heap.size W3 V → Below W3.heap.size W3 (V.alloc o) := fun V o h => h.alloc h.size o
  have hgt : ∀ V V' : World, Below W3.heap.size W3 V → Below V.heap.size V V' → Below W3.heap.size W3 V' := fun V V' h h' => h.trans (h'.mono h.size)
  obtain ⟨kv, hkv⟩ : ∃ k, k = keyH seedB := ⟨_, rfl⟩
  have hkl : kv.length = 32 := by rw [hkv]; exact keyH_length _
  have how : ∀ V, Below W3.heap.size W3 V → Calls Tryz.prog 13 #[.agg #[.slice (some ⟨g1, 0, none⟩) 35 c1], .agg (B8 M1)] V fun e w' => e = .returned (.tuple #[.agg (B8 kv), .bool true]) ∧ Below V.heap.size V w' := fun V hV => by
    rw [hkv, ← owner_sign seedB M1]
    exact owner_any V g1 c1 (signL seedB M1) M1 (signL_length _ _) HL.out.1 (Nat.lt_of_lt_of_le HG3.out hV.size) (HS3.out V hV) (HK3.out V hV).1 (HK3.out V hV).2.1
  have hs5 : ∀ V, Below W3.heap.size W3 V → V.cell? ⟨b2, 0, none⟩ = some (.slice (some ⟨g1, 0, none⟩) 35 c1) := fun V hV => (HLX.out V hV).cell 0 rfl
  obtain ⟨z, hz⟩ : ∃ z : Array Value, z = #[Value.int .u8 0, .int .u8 0, .int .u8 0, .int .u8 0, .int .u8 0, .int .u8 0, .int .u8 0, .int .u8 0, .int .u8 0, .int .u8 0, .int .u8 0, .int .u8 0, .int .u8 0, .int .u8 0, .int .u8 0, .int .u8 0, .int .u8 0, .int .u8 0, .int .u8 0, .int .u8 0, .int .u8 0, .int .u8 0, .int .u8 0, .int .u8 0, .int .u8 0, .int .u8 0, .int .u8 0, .int .u8 0, .int .u8 0, .int .u8 0, .int .u8 0, .int .u8 0] := ⟨_, rfl⟩
  have hzs : z.size = 32 := by rw [hz]; rfl
  have HZ := Lib.hid (And.intro hz hzs)
  have HKV := Lib.hid (And.intro hkv hkl)
  have HOW := Lib.hid how
  have HS5 := Lib.hid hs5
  have HG4 := Lib.hid (And.intro hG4 hG4d)
  have HGA := Lib.hid hga
  have HGT := Lib.hid hgt
  have hg4a : ∀ o, Below W3.heap.size W3 (w4.alloc o).drew := fun o => (hga w4 o hG4).drew
  have HG4A := Lib.hid hg4a
  have s5 := hs5 _ hG4d
  have hi2 := vals_size kv hkl
  have h12 := vals_one kv
  clear hG4 hG4d hga hgt hkv hkl how hs5 hzs hg4a hb4 heq hgu under26 size26 hcv5 s0 hz
  go_wp2_with fail
  have HB2L := Lib.hid (show b2 < w4.heap.size from Nat.lt_of_lt_of_le (HLX.out _ (Below.refl _ _)).lt HG4.out.1.size)
  go_cut [3, 4] from 32 to 71 (fun t u V => ∃ b3, t = .pointer (some ⟨b3, 0, none⟩) ∧ u = .bool true ∧ Lies V b3 (B8 kv) 24 ∧ Below W3.heap.size W3 V)
  case first =>
    go_region_held3 (fun V => V.cell? ⟨b2, 0, none⟩ = some (.slice (some ⟨g1, 0, none⟩) 35 c1))
      (first | exact s5 | exact s7 | exact HS5.out _ (by assumption) | exact HS5.out _ (HG4A.out _) | exact HS5.out _ (HGA.out _ _ (by assumption)))
      (first
        | (with_reducible refine (HF1.out _).mono ?_; rintro e w5 ⟨rfl, hb5⟩
           have g5 : Below W3.heap.size W3 w5 := by first | exact HGT.out _ _ HG4.out.2 hb5 | exact HGT.out _ _ (HG4A.out _) hb5
           have h45 : w4.heap.size ≤ w5.heap.size := by first | exact hb5.size | exact Nat.le_of_succ_le (by have := hb5.size; simp at this; omega)
           first
             | have hz5 : Lies w5 w4.heap.size zero32 24 := ((Lies.new w4 zero32 24).drew).below hb5 (by simp)
             | skip)
        | (with_reducible refine (HOW.out _ (by first | assumption | exact HGA.out _ _ (by assumption))).mono ?_; rintro e w6 ⟨rfl, hb6⟩
           have g6 : Below W3.heap.size W3 w6 := by first | exact HGT.out _ _ (by assumption) hb6 | exact HGT.out _ _ (HGA.out _ _ (by assumption)) hb6
           have h56 : w5.heap.size ≤ w6.heap.size := by first | exact hb6.size | exact Nat.le_of_succ_le (by have := hb6.size; simp at this; omega)
           first
             | (obtain ⟨ht2, hl6, hg6⟩ := hash_cells (hz5.below hb6 hz5.lt) rfl kv HKV.out.2
                have hl7 := hl6
                have g7 : Below W3.heap.size W3 (w6.setCells w4.heap.size 0 (vals kv)) := g6.grown hg6 g6.size (fun x e => by have := Option.some.inj e; have := HG4.out.1.size; omega)
                have s7 := ((HLX.out _ g6).grown hg6 (by have := HB2L.out; omega)).cell 0 (v := .slice (some ⟨g1, 0, none⟩) 35 c1) rfl)
             | (obtain ⟨ht2, hl6, hg6⟩ := hash_cells ((Lies.new w5 zero32 24).below hb6 (by simp)) rfl kv HKV.out.2
                have hl7 := hl6
                have g7 : Below W3.heap.size W3 (w6.setCells w5.heap.size 0 (vals kv)) := g6.grown hg6 g6.size (fun x e => by have := Option.some.inj e; have := HG4.out.1.size; omega)
                have s7 := ((HLX.out _ g6).grown hg6 (by have := HB2L.out; omega)).cell 0 (v := .slice (some ⟨g1, 0, none⟩) 35 c1) rfl)
             | (obtain ⟨ht2, hl6, hg6⟩ := hash_cells (Lies.new w6 zero32 24) rfl kv HKV.out.2
                have hl7 := hl6
                have g6a := HGA.out w6 (.cells zero32 24) g6
                have g7 : Below W3.heap.size W3 ((w6.alloc (.cells zero32 24)).setCells w6.heap.size 0 (vals kv)) := g6a.grown hg6 g6a.size (fun x e => by have := Option.some.inj e; have := HG4.out.1.size; omega)
                have s7 := ((HLX.out _ g6a).grown hg6 (by have := HB2L.out; omega)).cell 0 (v := .slice (some ⟨g1, 0, none⟩) 35 c1) rfl
                simp only [zero32] at ht2 s7)))
    all_goals
      go_wp2_with fail
      go_meet
    all_goals exact ⟨_, rfl, rfl, hl7, g7⟩
  case rest =>
    obtain ⟨b3, rfl, rfl, hl3, hbc⟩ := hcut
    have HC := Lib.hid (And.intro hl3 hbc)
    clear hl3 hbc s5 hi2 h12
    go_wp2_with fail
    refine (HF0.out wc).mono ?_
    rintro e w7 ⟨rfl, hb7⟩
    have hb7' := HGT.out _ _ HC.out.2 hb7
    have hsg := sign_seed w7 w.heap.size (HK3.out _ hb7').2.2.1 (HK3.out _ hb7').2.2.2.2 M0 HL.out.2 (HK3.out _ hb7').1 (HK3.out _ hb7').2.1
    have HSG := Lib.hid hsg
    have HB7 := Lib.hid (And.intro hb7' (HC.out.1.below hb7 HC.out.1.lt))
    clear hsg hb7 hb7'
    go_wp2_with fail
    refine HSG.out.mono ?_
    rintro e w8 ⟨g2, c2, rfl, hsrc2, hg2, hb8'⟩
    have hb8 := HGT.out _ _ HB7.out.1 hb8'
    have hl8 := HB7.out.2.below hb8' HB7.out.2.lt
    go_upto_region 7 with fail
    have hbx : Below w8.heap.size w8 (w8.alloc (.cells #[.slice (some ⟨g2, 0, none⟩) 35 c2] 28)) := (Below.refl _ _).alloc (Nat.le_refl _) _
    have hlx : Lies (w8.alloc (.cells #[.slice (some ⟨g2, 0, none⟩) 35 c2] 28)) w8.heap.size #[.slice (some ⟨g2, 0, none⟩) 35 c2] 28 := Lies.new _ _ _
    have hl9 := hl8.alloc (.cells #[.slice (some ⟨g2, 0, none⟩) 35 c2] 28)
    have hbW := HGT.out _ _ hb8 hbx
    generalize w8.alloc (.cells #[.slice (some ⟨g2, 0, none⟩) 35 c2] 28) = W8 at hbx hlx hbW hl9 ⊢
    obtain ⟨b5, hb5⟩ : ∃ b5, b5 = w8.heap.size := ⟨_, rfl⟩
    rw [← hb5] at hlx ⊢
    have hsrc8 : ∀ V, Below W8.heap.size W8 V → Src V g2 0 (signL seedB M0) := fun V hV j hj => by
      have h := hbx.trans (hV.mono hbx.size)
      exact (h.cell (p := ⟨g2, 0 + j, none⟩) hg2).trans (hsrc2 j hj)
    have hK8 : ∀ V, Below W8.heap.size W8 V → Starts V ∧ Cubes V ∧ Src V w.heap.size 0 seedB ∧ Below w.heap.size w V ∧ w.heap.size < V.heap.size := fun V hV => HK3.out V (HGT.out _ _ hbW hV)
    obtain ⟨kvv, hkvv⟩ : ∃ v, v = B8 kv := ⟨_, rfl⟩
    obtain ⟨h0v, hh0v⟩ : ∃ v, v = B8 (firstH seedB 0) := ⟨_, rfl⟩
    obtain ⟨f32v, hf32v⟩ : ∃ v, v = B8 (firstH seedB 32) := ⟨_, rfl⟩
    obtain ⟨h32v, hh32v⟩ : ∃ v, v = B8 (nextH 32 1 (firstH seedB 32)) := ⟨_, rfl⟩
    rw [← hkvv] at hl9
    have hS : ∀ V, Below W8.heap.size W8 V → V.cell? ⟨b5, 0, none⟩ = some (.slice (some ⟨g2, 0, none⟩) 35 c2) ∧ V.rangeAt b3 0 kvv.toList ∧ V.rangeAt g2 0 h0v.toList ∧ V.rangeAt g2 1024 h32v.toList := fun V hV => by
      refine ⟨(hlx.below hV hlx.lt).cell 0 rfl, range_lies (hl9.below hV hl9.lt), ?_, ?_⟩
      · have := range_row (hsrc8 V hV) (signL_length seedB M0) 0 (by omega)
        rw [hashAt_sign seedB M0 0 (by omega), HM.out.2, sig_0] at this
        rw [hh0v]; exact this
      · have := range_row (hsrc8 V hV) (signL_length seedB M0) 32 (by omega)
        rw [hashAt_sign seedB M0 32 (by omega), HM.out.2, sig_32] at this
        rw [hh32v]; exact this
    have hkey : ∀ V, Below W8.heap.size W8 V → Calls Tryz.prog 8 #[.slice (some ⟨w.heap.size, 0, none⟩) 4 4] V fun e w' => e = .returned (.agg kvv) ∧ Below V.heap.size V w' := fun V hV => by
      rw [hkvv, HKV.out.1]
      exact key_seed V w.heap.size (hK8 V hV).2.2.1 (hK8 V hV).2.2.2.2 (hK8 V hV).1 (hK8 V hV).2.1
    have ht0 : ∀ V, Below W8.heap.size W8 V → Calls Tryz.prog 12 #[.slice (some ⟨V.heap.size + 1, 0, none⟩) 1 1] ((V.alloc (.cells #[.int .u8 115, .int .u8 101, .int .u8 101, .int .u8 100, .int .u8 0] 5 (5, 6))).alloc (.cells #[.slice (some ⟨V.heap.size, 0, none⟩) 5 5] 22)) fun e w' => e = .returned (.agg h0v) ∧ Below V.heap.size V w' := fun V hV => by
      rw [hh0v]; exact of_text V 0 (hK8 V hV).1 (hK8 V hV).2.1
    have ht32 : ∀ V, Below W8.heap.size W8 V → Calls Tryz.prog 12 #[.slice (some ⟨V.heap.size + 1, 0, none⟩) 1 1] ((V.alloc (.cells #[.int .u8 115, .int .u8 101, .int .u8 101, .int .u8 100, .int .u8 32] 5 (5, 6))).alloc (.cells #[.slice (some ⟨V.heap.size, 0, none⟩) 5 5] 22)) fun e w' => e = .returned (.agg f32v) ∧ Below V.heap.size V w' := fun V hV => by
      rw [hf32v]; exact of_text V 32 (hK8 V hV).1 (hK8 V hV).2.1
    have hnx : ∀ V, Below W8.heap.size W8 V → Calls Tryz.prog 14 #[.agg f32v, .int .u8 32, .int .u8 1] V fun e w' => e = .returned (.agg h32v) ∧ Below V.heap.size V w' := fun V hV => by
      rw [hf32v, hh32v]; exact next_any (firstH seedB 32) (firstH_length _ _) 32 1 (by omega) (by omega) V (hK8 V hV).1 (hK8 V hV).2.1
    have hcv0 : ∀ V : World, (convert 22 22 (.slice (some ⟨V.heap.size, 0, none⟩) 5 5)).run Tryz.prog (V.alloc (.cells #[.int .u8 115, .int .u8 101, .int .u8 101, .int .u8 100, .int .u8 0] 5)) = .ok (.slice (some ⟨V.heap.size, 0, none⟩) 5 5) (V.alloc (.cells #[.int .u8 115, .int .u8 101, .int .u8 101, .int .u8 100, .int .u8 0] 5 (5, 6))) := fun V => conv_new V _ 5 5
    have hcv32 : ∀ V : World, (convert 22 22 (.slice (some ⟨V.heap.size, 0, none⟩) 5 5)).run Tryz.prog (V.alloc (.cells #[.int .u8 115, .int .u8 101, .int .u8 101, .int .u8 100, .int .u8 32] 5)) = .ok (.slice (some ⟨V.heap.size, 0, none⟩) 5 5) (V.alloc (.cells #[.int .u8 115, .int .u8 101, .int .u8 101, .int .u8 100, .int .u8 32] 5 (5, 6))) := fun V => conv_new V _ 5 5
    have hk32 : kvv.size = 32 := by rw [hkvv, B8_size]; exact HKV.out.2
    have h032 : h0v.size = 32 := by rw [hh0v, B8_size]; exact firstH_length _ _
    have h3232 : h32v.size = 32 := by rw [hh32v, B8_size]; exact nextH_length _ _ _
    have heq1 : ∀ V, (Op.equalIn 10000 24 (.agg kvv) (.agg kvv)).run Tryz.prog V = .ok true V := fun V => by rw [hkvv]; exact equal_same _ HKV.out.2 V
    have heq2 : ∀ V, (Op.equalIn 10000 24 (.agg h0v) (.agg h0v)).run Tryz.prog V = .ok true V := fun V => by rw [hh0v]; exact equal_same _ (firstH_length _ _) V
    have heq3 : ∀ V, (Op.equalIn 10000 24 (.agg h32v) (.agg h32v)).run Tryz.prog V = .ok true V := fun V => by rw [hh32v]; exact equal_same _ (nextH_length _ _ _) V
    have hgu := guard26
    have under26 := Tryz.underlying24
    have size1 : (Tryz.prog.info? 24).map (·.size) = some kvv.toList.length := by rw [Array.length_toList, hk32]; kernel_rfl
    have size2 : (Tryz.prog.info? 24).map (·.size) = some h0v.toList.length := by rw [Array.length_toList, h032]; kernel_rfl
    have size3 : (Tryz.prog.info? 24).map (·.size) = some h32v.toList.length := by rw [Array.length_toList, h3232]; kernel_rfl
    have HS8 := Lib.hid hS
    have HKEY := Lib.hid hkey
    have HT0 := Lib.hid ht0
    have HT32 := Lib.hid ht32
    have HNX := Lib.hid hnx
    have HBW := Lib.hid (And.intro hbW (hK8 W8 (Below.refl _ _)).2.2.2.1)
    have d8 : Below W8.heap.size W8 W8.drew := (Below.refl _ _).drew
    have s8 := hS _ d8
    have ga : ∀ V o, Below W8.heap.size W8 V → Below W8.heap.size W8 (V.alloc o) := fun V o h => h.alloc h.size o
    have HGA8 := Lib.hid ga
    clear hS hkey ht0 ht32 hnx hkvv hh0v hf32v hh32v hk32 h032 h3232 ga hK8 hsrc8 hbx hlx hl9 hbW hb8 hb8' hl8 hb5 hsrc2 hg2
    refine wp_region_noPanic (wp_region_held (S := fun V => V.cell? ⟨b5, 0, none⟩ = some (.slice (some ⟨g2, 0, none⟩) 35 c2) ∧ V.rangeAt b3 0 kvv.toList ∧ V.rangeAt g2 0 h0v.toList ∧ V.rangeAt g2 1024 h32v.toList) (by kernel_rfl) ?_)
    change wpAnyH _ _ _ _ _ 37 _ _ (World.drew _)
    have hcur := s8
    refine held_take (i := 0) (v := (.bool true)) rfl 35 rfl (by kernel_rfl) (by kernel_rfl) (by kernel_rfl) (fun _ _ _ h => h) (by rfl) (by intro w' hS'; unfold execOp; simp [go_sem]) hcur _ rfl ?_
    simp only [Act.put, List.setIfInBounds_toArray, List.set_cons_zero, List.set_cons_succ]
    refine held_take (i := 1) (v := (.bool true)) rfl 36 rfl (by kernel_rfl) (by kernel_rfl) (by kernel_rfl) (fun _ _ _ h => h) (by rfl) (by intro w' hS'; unfold execOp; simp [go_sem]) hcur _ rfl ?_
    simp only [Act.put, List.setIfInBounds_toArray, List.set_cons_zero, List.set_cons_succ]
    refine held_take (i := 2) (v := (.agg kvv)) rfl 37 rfl (by kernel_rfl) (by kernel_rfl) (by kernel_rfl) (fun _ _ _ h => h) (by rfl) (by intro w' hS'; exact exec_loadA _ rfl _ _ rfl hS'.2.1 size1) hcur _ rfl ?_
    simp only [Act.put, List.setIfInBounds_toArray, List.set_cons_zero, List.set_cons_succ]
    refine held_take (i := 3) (v := (.slice (some ⟨w.heap.size, 0, none⟩) 4 4)) rfl 38 rfl (by kernel_rfl) (by kernel_rfl) (by kernel_rfl) (fun _ _ _ h => h) (by rfl) (by intro w' hS'; unfold execOp; simp [go_sem]) hcur _ rfl ?_
    simp only [Act.put, List.setIfInBounds_toArray, List.set_cons_zero, List.set_cons_succ]
    refine held_one (i := 4) (by kernel_rfl) _ rfl (wpOp_callG rfl (by rfl) 39 rfl 8 #[.slice (some ⟨w.heap.size, 0, none⟩) 4 4] (by unfold execOp; simp [go_sem]) _ (ret_of (HKEY.out _ d8)) ?_)
    rintro v2 w9 ⟨rfl, hb9'⟩
    have hb9 : Below W8.heap.size W8 w9 := d8.trans (hb9'.mono d8.size)
    have hcur := HS8.out _ hb9
    refine ⟨hcur, ?_⟩
    simp only [Act.put, List.setIfInBounds_toArray, List.set_cons_zero, List.set_cons_succ]
    refine held_take (i := 5) (v := (.bool true)) rfl 40 rfl (by kernel_rfl) (by kernel_rfl) (by kernel_rfl) (fun _ _ _ h => h) (by rfl) (by intro w' hS'; unfold execOp; simp [go_sem, heq1, hgu]) hcur _ rfl ?_
    simp only [Act.put, List.setIfInBounds_toArray, List.set_cons_zero, List.set_cons_succ]
    refine held_take (i := 6) (v := (.bool true)) rfl 41 rfl (by kernel_rfl) (by kernel_rfl) (by kernel_rfl) (fun _ _ _ h => h) (by rfl) (by intro w' hS'; unfold execOp; simp [go_sem]) hcur _ rfl ?_
    simp only [Act.put, List.setIfInBounds_toArray, List.set_cons_zero, List.set_cons_succ]
    refine held_take (i := 7) (v := (.bool true)) rfl 42 rfl (by kernel_rfl) (by kernel_rfl) (by kernel_rfl) (fun _ _ _ h => h) (by rfl) (by intro w' hS'; unfold execOp; simp [go_sem]) hcur _ rfl ?_
    simp only [Act.put, List.setIfInBounds_toArray, List.set_cons_zero, List.set_cons_succ]
    refine held_take (i := 8) (v := (.pointer (some ⟨b5, 0, none⟩))) rfl 43 rfl (by kernel_rfl) (by kernel_rfl) (by kernel_rfl) (fun _ _ _ h => h) (by rfl) (by intro w' hS'; unfold execOp; simp [go_sem]) hcur _ rfl ?_
    simp only [Act.put, List.setIfInBounds_toArray, List.set_cons_zero, List.set_cons_succ]
    refine held_take (i := 9) (v := (.slice (some ⟨g2, 0, none⟩) 35 c2)) rfl 44 rfl (by kernel_rfl) (by kernel_rfl) (by kernel_rfl) (fun _ _ _ h => h) (by rfl) (by intro w' hS'; have h1 := hS'.1; unfold execOp; simp [go_sem, h1]) hcur _ rfl ?_
    simp only [Act.put, List.setIfInBounds_toArray, List.set_cons_zero, List.set_cons_succ]
    refine held_take (i := 10) (v := (.int .i64 35)) rfl 45 rfl (by kernel_rfl) (by kernel_rfl) (by kernel_rfl) (fun _ _ _ h => h) (by rfl) (by intro w' hS'; unfold execOp; simp [go_sem]) hcur _ rfl ?_
    simp only [Act.put, List.setIfInBounds_toArray, List.set_cons_zero, List.set_cons_succ]
    refine held_take (i := 11) (v := (.bool true)) rfl 46 rfl (by kernel_rfl) (by kernel_rfl) (by kernel_rfl) (fun _ _ _ h => h) (by rfl) (by intro w' hS'; unfold execOp; simp [go_sem]) hcur _ rfl ?_
    simp only [Act.put, List.setIfInBounds_toArray, List.set_cons_zero, List.set_cons_succ]
    refine held_take (i := 12) (v := (.bool true)) rfl 47 rfl (by kernel_rfl) (by kernel_rfl) (by kernel_rfl) (fun _ _ _ h => h) (by rfl) (by intro w' hS'; unfold execOp; simp [go_sem]) hcur _ rfl ?_
    simp only [Act.put, List.setIfInBounds_toArray, List.set_cons_zero, List.set_cons_succ]
    refine held_take (i := 13) (v := (.bool true)) rfl 48 rfl (by kernel_rfl) (by kernel_rfl) (by kernel_rfl) (fun _ _ _ h => h) (by rfl) (by intro w' hS'; unfold execOp; simp [go_sem]) hcur _ rfl ?_
    simp only [Act.put, List.setIfInBounds_toArray, List.set_cons_zero, List.set_cons_succ]
    refine held_take (i := 14) (v := (.pointer (some ⟨b5, 0, none⟩))) rfl 49 rfl (by kernel_rfl) (by kernel_rfl) (by kernel_rfl) (fun _ _ _ h => h) (by rfl) (by intro w' hS'; unfold execOp; simp [go_sem]) hcur _ rfl ?_
    simp only [Act.put, List.setIfInBounds_toArray, List.set_cons_zero, List.set_cons_succ]
    refine held_take (i := 15) (v := (.slice (some ⟨g2, 0, none⟩) 35 c2)) rfl 50 rfl (by kernel_rfl) (by kernel_rfl) (by kernel_rfl) (fun _ _ _ h => h) (by rfl) (by intro w' hS'; have h1 := hS'.1; unfold execOp; simp [go_sem, h1]) hcur _ rfl ?_
    simp only [Act.put, List.setIfInBounds_toArray, List.set_cons_zero, List.set_cons_succ]
    refine held_take (i := 16) (v := (.pointer (some ⟨g2, 0, none⟩))) rfl 51 rfl (by kernel_rfl) (by kernel_rfl) (by kernel_rfl) (fun _ _ _ h => h) (by rfl) (by intro w' hS'; unfold execOp; simp [go_sem]) hcur _ rfl ?_
    simp only [Act.put, List.setIfInBounds_toArray, List.set_cons_zero, List.set_cons_succ]
    refine held_take (i := 17) (v := (.agg h0v)) rfl 52 rfl (by kernel_rfl) (by kernel_rfl) (by kernel_rfl) (fun _ _ _ h => h) (by rfl) (by intro w' hS'; exact exec_loadA _ rfl _ _ rfl hS'.2.2.1 size2) hcur _ rfl ?_
    simp only [Act.put, List.setIfInBounds_toArray, List.set_cons_zero, List.set_cons_succ]
    refine held_one (i := 18) (by kernel_rfl) _ rfl (wpOp_valG (v := .slice (some ⟨w9.heap.size, 0, none⟩) 5 5) (w' := w9.alloc (.cells #[.int .u8 115, .int .u8 101, .int .u8 101, .int .u8 100, .int .u8 0] 5)) rfl (by rfl) 53 rfl (by unfold execOp; simp [go_sem]) ?_)
    refine ⟨HS8.out _ (HGA8.out _ _ hb9), ?_⟩
    simp only [Act.put, List.setIfInBounds_toArray, List.set_cons_zero, List.set_cons_succ]
    refine held_one (i := 19) (by kernel_rfl) _ rfl (wpOp_valG (v := .slice (some ⟨w9.heap.size, 0, none⟩) 5 5) (w' := w9.alloc (.cells #[.int .u8 115, .int .u8 101, .int .u8 101, .int .u8 100, .int .u8 0] 5 (5, 6))) rfl (by rfl) 54 rfl (by unfold execOp; simp [go_sem, hcv0]) ?_)
    refine ⟨HS8.out _ (HGA8.out _ _ hb9), ?_⟩
    simp only [Act.put, List.setIfInBounds_toArray, List.set_cons_zero, List.set_cons_succ]
    refine held_one (i := 20) (by kernel_rfl) _ rfl (wpOp_valG (v := .slice (some ⟨w9.heap.size + 1, 0, none⟩) 1 1) (w' := (w9.alloc (.cells #[.int .u8 115, .int .u8 101, .int .u8 101, .int .u8 100, .int .u8 0] 5 (5, 6))).alloc (.cells #[.slice (some ⟨w9.heap.size, 0, none⟩) 5 5] 22)) rfl (by rfl) 55 rfl (by unfold execOp; simp [go_sem]) ?_)
    refine ⟨HS8.out _ (HGA8.out _ _ (HGA8.out _ _ hb9)), ?_⟩
    simp only [Act.put, List.setIfInBounds_toArray, List.set_cons_zero, List.set_cons_succ]
    refine held_one (i := 21) (by kernel_rfl) _ rfl (wpOp_callG rfl (by rfl) 56 rfl 12 #[.slice (some ⟨w9.heap.size + 1, 0, none⟩) 1 1] (by unfold execOp; simp [go_sem]) _ (ret_of (HT0.out w9 hb9)) ?_)
    rintro v2 w10 ⟨rfl, hb10'⟩
    have hb10 : Below W8.heap.size W8 w10 := hb9.trans (hb10'.mono hb9.size)
    have hcur := HS8.out _ hb10
    refine ⟨hcur, ?_⟩
    simp only [Act.put, List.setIfInBounds_toArray, List.set_cons_zero, List.set_cons_succ]
    refine held_take (i := 22) (v := (.bool true)) rfl 57 rfl (by kernel_rfl) (by kernel_rfl) (by kernel_rfl) (fun _ _ _ h => h) (by rfl) (by intro w' hS'; unfold execOp; simp [go_sem, heq2, hgu]) hcur _ rfl ?_
    simp only [Act.put, List.setIfInBounds_toArray, List.set_cons_zero, List.set_cons_succ]
    refine held_take (i := 23) (v := (.bool true)) rfl 58 rfl (by kernel_rfl) (by kernel_rfl) (by kernel_rfl) (fun _ _ _ h => h) (by rfl) (by intro w' hS'; unfold execOp; simp [go_sem]) hcur _ rfl ?_
    simp only [Act.put, List.setIfInBounds_toArray, List.set_cons_zero, List.set_cons_succ]
    refine held_take (i := 24) (v := (.bool true)) rfl 59 rfl (by kernel_rfl) (by kernel_rfl) (by kernel_rfl) (fun _ _ _ h => h) (by rfl) (by intro w' hS'; unfold execOp; simp [go_sem]) hcur _ rfl ?_
    simp only [Act.put, List.setIfInBounds_toArray, List.set_cons_zero, List.set_cons_succ]
    refine held_take (i := 25) (v := (.pointer (some ⟨b5, 0, none⟩))) rfl 60 rfl (by kernel_rfl) (by kernel_rfl) (by kernel_rfl) (fun _ _ _ h => h) (by rfl) (by intro w' hS'; unfold execOp; simp [go_sem]) hcur _ rfl ?_
    simp only [Act.put, List.setIfInBounds_toArray, List.set_cons_zero, List.set_cons_succ]
    refine held_take (i := 26) (v := (.slice (some ⟨g2, 0, none⟩) 35 c2)) rfl 61 rfl (by kernel_rfl) (by kernel_rfl) (by kernel_rfl) (fun _ _ _ h => h) (by rfl) (by intro w' hS'; have h1 := hS'.1; unfold execOp; simp [go_sem, h1]) hcur _ rfl ?_
    simp only [Act.put, List.setIfInBounds_toArray, List.set_cons_zero, List.set_cons_succ]
    refine held_take (i := 27) (v := (.pointer (some ⟨g2, 1024, none⟩))) rfl 62 rfl (by kernel_rfl) (by kernel_rfl) (by kernel_rfl) (fun _ _ _ h => h) (by rfl) (by intro w' hS'; unfold execOp; simp [go_sem]) hcur _ rfl ?_
    simp only [Act.put, List.setIfInBounds_toArray, List.set_cons_zero, List.set_cons_succ]
    refine held_take (i := 28) (v := (.agg h32v)) rfl 63 rfl (by kernel_rfl) (by kernel_rfl) (by kernel_rfl) (fun _ _ _ h => h) (by rfl) (by intro w' hS'; exact exec_loadA _ rfl _ _ rfl hS'.2.2.2 size3) hcur _ rfl ?_
    simp only [Act.put, List.setIfInBounds_toArray, List.set_cons_zero, List.set_cons_succ]
    refine held_one (i := 29) (by kernel_rfl) _ rfl (wpOp_valG (v := .slice (some ⟨w10.heap.size, 0, none⟩) 5 5) (w' := w10.alloc (.cells #[.int .u8 115, .int .u8 101, .int .u8 101, .int .u8 100, .int .u8 32] 5)) rfl (by rfl) 64 rfl (by unfold execOp; simp [go_sem]) ?_)
    refine ⟨HS8.out _ (HGA8.out _ _ hb10), ?_⟩
    simp only [Act.put, List.setIfInBounds_toArray, List.set_cons_zero, List.set_cons_succ]
    refine held_one (i := 30) (by kernel_rfl) _ rfl (wpOp_valG (v := .slice (some ⟨w10.heap.size, 0, none⟩) 5 5) (w' := w10.alloc (.cells #[.int .u8 115, .int .u8 101, .int .u8 101, .int .u8 100, .int .u8 32] 5 (5, 6))) rfl (by rfl) 65 rfl (by unfold execOp; simp [go_sem, hcv32]) ?_)
    refine ⟨HS8.out _ (HGA8.out _ _ hb10), ?_⟩
    simp only [Act.put, List.setIfInBounds_toArray, List.set_cons_zero, List.set_cons_succ]
    refine held_one (i := 31) (by kernel_rfl) _ rfl (wpOp_valG (v := .slice (some ⟨w10.heap.size + 1, 0, none⟩) 1 1) (w' := (w10.alloc (.cells #[.int .u8 115, .int .u8 101, .int .u8 101, .int .u8 100, .int .u8 32] 5 (5, 6))).alloc (.cells #[.slice (some ⟨w10.heap.size, 0, none⟩) 5 5] 22)) rfl (by rfl) 66 rfl (by unfold execOp; simp [go_sem]) ?_)
    refine ⟨HS8.out _ (HGA8.out _ _ (HGA8.out _ _ hb10)), ?_⟩
    simp only [Act.put, List.setIfInBounds_toArray, List.set_cons_zero, List.set_cons_succ]
    refine held_one (i := 32) (by kernel_rfl) _ rfl (wpOp_callG rfl (by rfl) 67 rfl 12 #[.slice (some ⟨w10.heap.size + 1, 0, none⟩) 1 1] (by unfold execOp; simp [go_sem]) _ (ret_of (HT32.out w10 hb10)) ?_)
    rintro v2 w11 ⟨rfl, hb11'⟩
    have hb11 : Below W8.heap.size W8 w11 := hb10.trans (hb11'.mono hb10.size)
    have hcur := HS8.out _ hb11
    refine ⟨hcur, ?_⟩
    simp only [Act.put, List.setIfInBounds_toArray, List.set_cons_zero, List.set_cons_succ]
    refine held_one (i := 33) (by kernel_rfl) _ rfl (wpOp_callG rfl (by rfl) 68 rfl 14 #[.agg f32v, .int .u8 32, .int .u8 1] (by unfold execOp; simp [go_sem]) _ (ret_of (HNX.out w11 hb11)) ?_)
    rintro v2 w12 ⟨rfl, hb12'⟩
    have hb12 : Below W8.heap.size W8 w12 := hb11.trans (hb12'.mono hb11.size)
    have hcur := HS8.out _ hb12
    refine ⟨hcur, ?_⟩
    simp only [Act.put, List.setIfInBounds_toArray, List.set_cons_zero, List.set_cons_succ]
    refine held_take (i := 34) (v := (.bool true)) rfl 69 rfl (by kernel_rfl) (by kernel_rfl) (by kernel_rfl) (fun _ _ _ h => h) (by rfl) (by intro w' hS'; unfold execOp; simp [go_sem, heq3, hgu]) hcur _ rfl ?_
    simp only [Act.put, List.setIfInBounds_toArray, List.set_cons_zero, List.set_cons_succ]
    refine held_take (i := 35) (v := (.bool true)) rfl 70 rfl (by kernel_rfl) (by kernel_rfl) (by kernel_rfl) (fun _ _ _ h => h) (by rfl) (by intro w' hS'; unfold execOp; simp [go_sem]) hcur _ rfl ?_
    simp only [Act.put, List.setIfInBounds_toArray, List.set_cons_zero, List.set_cons_succ]
    refine held_take (i := 36) (v := (.bool true)) rfl 0 rfl (by kernel_rfl) (by kernel_rfl) (by kernel_rfl) (fun _ _ _ h => h) (by rfl) (by intro w' hS'; unfold execOp; simp [go_sem]) hcur _ rfl ?_
    simp only [Act.put, List.setIfInBounds_toArray, List.set_cons_zero]
    refine wpAnyH_done (by kernel_rfl) ?_ _
    have h1 := HBW.out.2
    have hend := h1.trans (hb12.mono h1.size)
    refine NoPanic.normal ?_
    go_wp2_with fail
    go_ret
    exact ⟨rfl, hend⟩
end Go.Proofs.YtgempifedhiknaaGreatDoor
namespace Go.Proofs.YtgempifedhiknaaGreatDoor
set_option maxRecDepth 100000
open Go.RowKit Go.Shelf Sha

end Go.Proofs.YtgempifedhiknaaGreatDoor
