/-
  pack: GetTerm.
-/
import Derived.Test.YtilbbemdinpjcaaGreatJQa
import Derived.Test.YtilbbemdinpjcaaGreatJPi
set_option maxHeartbeats 16000000
namespace Go.Proofs.YtilbbemdinpjcaaGreat.P
set_option maxRecDepth 100000
open Go.RowKit Go.Sort
theorem rSpoil_any (w : World) (g k : Nat) (xs : List UInt8) (c : Nat) (st : Option Nat) (h : W.RSt w g k xs c st) :
    Calls Tryz.prog 197 #[.pointer (some ⟨g, 0, none⟩)] w fun e w' => e = .returned (.tuple #[]) ∧ W.RSt w' g k xs c none ∧ W.Only g w w' none := by
  cases st with
  | none =>
    obtain ⟨a, h⟩ := h
    refine (W.rspoil_idle w _ h.idle).mono ?_
    rintro e w' ⟨rfl, rfl⟩
    exact ⟨rfl, ⟨a, h⟩, W.Only.refl _ _ _⟩
  | some a =>
    have ht := W.tells_self w g false (h.2.1.cell 0 rfl) (h.2.1.cell 1 rfl)
    have hsp := W.spoil_any w g (.bool false) (h.2.1.cell 1 rfl) (h.2.1.free 1) rfl
    have HM := Lib.hid h.2.spoil
    have HS := Lib.hid hsp
    clear hsp h
    go_enter Tryz.func197, Tryz.ntmps197
    go_wp2_with fail
    refine ht.mono ?_
    rintro e w1 ⟨rfl, rfl⟩
    clear ht
    go_wp2_with fail
    refine HS.out.mono ?_
    rintro e w2 ⟨rfl, rfl⟩
    clear HS
    go_wp2_with fail
    go_end0
    exact ⟨rfl, ⟨a, HM.out⟩, W.only_set g 1 w _⟩
theorem getTermD_panicking (p g k : Nat) (xs : List UInt8) (c : Nat) (st : Option Nat) (u : TypeId) (pv : Value) (older : List PanicEntry) (w : World) (hp : w.cell? ⟨p, 0, none⟩ = some (.pointer (some ⟨g, 0, none⟩))) (h : W.RSt w g k xs c st) :
  CallsD Tryz.prog 196 #[.pointer (some ⟨p, 0, none⟩)] (.panicking ({ v := .iface u pv, recovered := false } :: older)) w fun e u' w' =>
   e = .returned (.tuple #[]) ∧ u' = .panicking ({ v := .iface u pv, recovered := true } :: older) ∧ W.RSt w' g k xs c none ∧ W.Only g w w' none := by
 have hs := rSpoil_any w g k xs c st h
 refine callsD_of_wpS Tryz.func196 rfl fun c₀ cs hu => ?_
 apply wpS_seq
 apply wpS_region
 simp [wpOpsS, go_sem, recoverD, hu, Tryz.ntmps196, Exit.thenS]
 refine wpS_cond (t := true) (by simp [Act.eval, Array.replicate]) ?_
 simp only [if_true]
 refine wpS_of_wp ?_
 go_wp2_with fail
 refine hs.mono ?_
 rintro e w2 ⟨rfl, hr, ho⟩
 go_wp2_with fail
 simp [bodyPostS, results, Tryz.results196]
 exact ⟨hr, ho⟩
theorem getTermD_idle (p : Addr) (w : World) :
  CallsD Tryz.prog 196 #[.pointer (some p)] .returning w fun e u' w' => e = .returned (.tuple #[]) ∧ u' = .returning ∧ w' = w := by
 refine callsD_of_wpS Tryz.func196 rfl fun c₀ cs hu => ?_
 apply wpS_seq
 apply wpS_region
 simp [wpOpsS, go_sem, recoverD, hu, Tryz.ntmps196, Exit.thenS]
 refine wpS_cond (t := false) (by simp [Act.eval, Array.replicate]) ?_
 simp only [Bool.false_eq_true, if_false]
 refine wpS_of_wp (wp_skip ?_)
 cases c₀
 simp_all [bodyPostS, results, Tryz.results196]
theorem leaves_tmps {P : Program} {fn : Func} {t1 t2 : Array Value} {R : Ending → World → Prop} (h : results fn t1 = results fn t2) : ∀ (ds : List Deferred) (u : FrameMode) (w : World), Leaves P fn t1 R ds u w → Leaves P fn t2 R ds u w
  | [], .returning, _, ⟨v, hv, hr⟩ => ⟨v, by rw [← h]; exact hv, hr⟩
  | [], .panicking _, _, hr => hr
  | [], .run, _, hr => hr.elim
  | _ :: ds, _, _, ⟨hu, fv, cap, f, args, ht, hi, hc⟩ => ⟨hu, fv, cap, f, args, ht, hi, hc.mono fun e u' w' k => by
      cases e with
      | returned v => exact leaves_tmps h ds _ _ k
      | panicked c => exact leaves_tmps h ds _ _ k
      | outgrown => exact k⟩
theorem held_put {P : Program} {fn : Func} {R : Ending → World → Prop} {K : Act → World → Prop} {d : Tmp} {v : Value} (h : ∀ t : Array Value, results fn (t.setIfInBounds d v) = results fn t) (c : List PanicEntry) (a : Act) (w : World) (hq : Exit.then K (bodyPostD P fn R) (.panic c) (a.put (some d) v) w) : Exit.then K (bodyPostD P fn R) (.panic c) a w :=
 leaves_tmps (h a.tmps) _ _ _ hq
theorem res_put {fn : Func} {a : Nat} {ty : TypeId} (hf : fn.results = #[.cell a ty]) (d : Tmp) (v : Value) (hd : d ≠ a) (t : Array Value) : results fn (t.setIfInBounds d v) = results fn t := by
 have e : (t.setIfInBounds d v).getD a undef = t.getD a undef := by
  simp only [Array.getD_eq_getD_getElem?, Array.getElem?_setIfInBounds]
  rw [if_neg hd]
 unfold results
 rw [hf]
 simp only [List.mapM_toArray, List.mapM_cons, List.mapM_nil, e]
def getT (xs : List UInt8) (st : Option Nat) : Option (List T.Nd × Nat) := match decT xs 100 1 [] st with
 | some (ns, p) => if T.rightB ns then some (ns, p) else none
 | none => none
def GetT (g k : Nat) (xs : List UInt8) (c : Nat) (w : World) (o : Option (List T.Nd × Nat)) (e : Ending) (w' : World) : Prop :=
 W.Only g w w' none ∧ ((∃ ns p a cp, o = some (ns, p) ∧ e = .returned (.agg #[.slice a ns.length cp]) ∧ T.OwnT w' w.heap.size (.slice a ns.length cp) ns ∧ ns.length ≤ 100 ∧ (∀ x ∈ ns, NdIn x) ∧ W.RSt w' g k xs c (some p)) ∨ (o = none ∧ e = .returned (.agg #[.slice none 0 0]) ∧ W.RSt w' g k xs c none))
theorem getTermG_any (w : World) (g k : Nat) (xs : List UInt8) (c : Nat) (st0 : Option Nat) (h : W.RSt w g k xs c st0) :
    Calls Tryz.prog 120 #[.pointer (some ⟨g, 0, none⟩), .func (Fn.func 121) #[] #[], .func (Fn.func 118) #[] #[]] w (GetT g k xs c w (getT xs st0)) := by
  have hmf : ∀ (fn : Fn) (first cap : Array Value) (w : World), (Instr.makeFunc fn first cap).run Tryz.prog w = .ok (.func fn first cap) w := fun _ _ _ _ => rfl
  have hf1 := T.callK 118 Tryz.f118 Tryz.func118 (by kernel_rfl) (by kernel_rfl)
  have hf2 := T.callK 121 Tryz.f121 Tryz.func121 (by kernel_rfl) (by kernel_rfl)
  obtain ⟨b1, b2, b3, b4, b5⟩ := box_three w #[.pointer (some ⟨g, 0, none⟩)] #[.slice none 0 0] #[.pointer (some ⟨g, 0, none⟩)] 56 24 174
  obtain ⟨res, hres⟩ : ∃ r, r = getT xs st0 := ⟨_, rfl⟩
  rw [← hres]
  have HLT := Lib.hid h.lt
  have HC := Lib.hid (getterTerm_any _ g k xs c st0 (h.below b4))
  have H := Lib.hid hres
  clear h hres
  obtain ⟨W0, HW⟩ : ∃ W0, (((w.alloc (.cells #[.pointer (some ⟨g, 0, none⟩)] 56)).alloc (.cells #[.slice none 0 0] 24)).alloc (.cells #[.pointer (some ⟨g, 0, none⟩)] 174)) = W0 := ⟨_, rfl⟩
  rw [HW] at b1 b2 b3 b4 b5 HC
  go_enter_defers Tryz.func120, Tryz.ntmps120
  have c2 : W0.cell? ⟨w.heap.size + 1 + 1, 0, none⟩ = some (.pointer (some ⟨g, 0, none⟩)) := b3.cell 0 rfl
  have HB := Lib.hid (And.intro b1 (And.intro b2 (And.intro b3 (And.intro b4 b5))))
  clear b1 b2 b3 b4 b5
  go_wp2_with fail
  clear HW
  refine HC.out.mono ?_
  rintro e W1 ⟨ho1, hcase⟩
  have hl1 := ho1.lies HB.out.1 (by have := HLT.out; omega)
  have hl2 := ho1.lies HB.out.2.1 (by have := HLT.out; omega)
  have hl3 := ho1.lies HB.out.2.2.1 (by have := HLT.out; omega)
  have hw1 : W.Only g w W1 none := (W.only_below HB.out.2.2.2.1).trans0 ho1
  have HO := Lib.hid (And.intro hl1 (And.intro hl2 (And.intro hl3 hw1)))
  clear hl1 hl2 hl3 hw1 ho1 c2 HC
  rcases hcase with ⟨ns, a, n, cp, st, rfl, hown, hlen, hins, hrd, hdec⟩ | ⟨⟨m, rfl⟩, hdec, st, hrd⟩
  · obtain rfl : n = ns.length := own_n hown
    have hb2 : Below W1.heap.size W1 (W1.alloc (.cells #[.slice a ns.length cp] 24)) := (Below.refl _ _).alloc (Nat.le_refl _) _
    have hx2 := Lies.new W1 #[.slice a ns.length cp] 24
    obtain ⟨n, hn⟩ : ∃ n, n = ns.length := ⟨_, rfl⟩
    rw [← hn] at hb2 hx2 ⊢
    obtain ⟨W2, HW2⟩ : ∃ W2, W1.alloc (.cells #[.slice a n cp] 24) = W2 := ⟨_, rfl⟩
    rw [HW2] at hb2 hx2
    have hw2 : W.Only g w W2 none := HO.out.2.2.2.trans0 (W.only_below hb2)
    have hl1 := HO.out.1.below hb2 HO.out.1.lt
    have hl2 := HO.out.2.1.below hb2 HO.out.2.1.lt
    have hl3 := HO.out.2.2.1.below hb2 HO.out.2.2.1.lt
    have hown2 := hown.kept hb2
    have hrd2 := hrd.below hb2
    have htat := (hown2.tat (by rw [← hn] at hlen ⊢; omega) (fun x hx => by have := (hins x hx).kids.2; omega))
    obtain ⟨y1, hy1⟩ : ∃ b, b = st.isSome := ⟨_, rfl⟩
    obtain ⟨y2, hy2⟩ : ∃ b, b = T.rightB ns := ⟨_, rfl⟩
    obtain ⟨q, hq⟩ : ∃ q, q = W1.heap.size := ⟨_, rfl⟩
    obtain ⟨sb, hsb⟩ : ∃ p, p = w.heap.size + 1 + 1 := ⟨_, rfl⟩
    obtain ⟨rb, hrb⟩ : ∃ p, p = w.heap.size + 1 := ⟨_, rfl⟩
    have hl3 : Lies W2 sb #[.pointer (some ⟨g, 0, none⟩)] 174 := by rw [hsb]; exact hl3
    rw [← hrb] at hl2
    rw [← hq] at hx2
    have K1 : Hid (∀ V, Below W2.heap.size W2 V → Calls Tryz.prog 198 #[.agg #[.pointer (some ⟨g, 0, none⟩)]] V fun e w' => e = .returned (.bool y1) ∧ Below V.heap.size V w') := Lib.hid fun V hV => by rw [hy1]; exact sound_any V g k xs c st (hrd2.below hV)
    have K2 : Hid (∀ V, Below W2.heap.size W2 V → Calls Tryz.prog 118 #[.agg #[.slice a n cp]] V fun e w' => e = .returned (.bool y2) ∧ Below V.heap.size V w') := Lib.hid fun V hV => by rw [hy2, hn]; exact T.rightT_any V a cp ns (htat.1.below hV (Nat.le_refl _)) htat.2.2
    have HS : Hid (∀ V, Below W2.heap.size W2 V → V.cell? ⟨sb, 0, none⟩ = some (.pointer (some ⟨g, 0, none⟩)) ∧ V.cell? ⟨q, 0, none⟩ = some (.slice a n cp)) := Lib.hid fun V hV => ⟨(hl3.below hV hl3.lt).cell 0 rfl, (hx2.below hV hx2.lt).cell 0 rfl⟩
    have HR := Lib.hid (And.intro hl1 (And.intro hl2 (And.intro hown2 (And.intro hrd2 (And.intro hw2 (And.intro hlen (And.intro hins (And.intro hn (And.intro hy1 (And.intro hy2 (And.intro hdec (And.intro hrb (And.intro hb2 hq)))))))))))))
    clear hl1 hl2 hl3 hown2 hrd2 hw2 hlen hins hy1 hy2 hdec hown hrd hb2 hx2 htat hn
    go_upto_region 4 with fail
    rw [← hq, ← hsb, ← hrb]
    clear HW2 hq hsb hrb
    have hres2 := res_put (fn := Tryz.f120) (a := 6) (ty := 24) (by kernel_rfl)
    refine wp_region_held (S := Below W2.heap.size W2) (by kernel_rfl) ?_
    change wpAnyH _ _ _ _ _ 7 _ _ (World.drew W2)
    have hcur : Below W2.heap.size W2 W2.drew := (Below.refl _ _).drew
    refine tk 0 (.agg #[.pointer (some ⟨g, 0, none⟩)]) 15 rfl rfl hcur ?_ (by intro w' hS'; have x0 := (HS.out w' hS').1; unfold execOp; simp [go_sem, x0]) (hQ := held_put (hres2 15 _ (by decide)))
    refine tk 2 (.func (Fn.func 118) #[] #[]) 17 rfl rfl hcur ?_ (hQ := held_put (hres2 17 _ (by decide)))
    refine tk 3 (.agg #[.slice a n cp]) 18 rfl rfl hcur ?_ (by intro w' hS'; have x0 := (HS.out w' hS').2; unfold execOp; simp [go_sem, x0]) (hQ := held_put (hres2 18 _ (by decide)))
    generalize W2.drew = V0 at hcur ⊢
    refine held_one (i := 1) (by kernel_rfl) _ rfl (wpOp_callG rfl (by rfl) 16 rfl 198 #[.agg #[.pointer (some ⟨g, 0, none⟩)]] (by unfold execOp; simp [go_sem]) _ (ret_gro (K1.out _ hcur)) ?_)
    rintro _ U1 ⟨rfl, hn⟩
    have hcur := hcur.trans (hn.mono hcur.size)
    clear hn
    refine ⟨hcur, ?_⟩
    simp only [Act.put, List.setIfInBounds_toArray, List.set_cons_zero, List.set_cons_succ]
    refine held_one (i := 4) (by kernel_rfl) _ rfl (wpOp_callG rfl (by rfl) 19 rfl 118 #[.agg #[.slice a n cp]] (by unfold execOp; simp [go_sem, hf1]) _ (ret_gro (K2.out _ hcur)) ?_)
    rintro _ U2 ⟨rfl, hn⟩
    have hcur := hcur.trans (hn.mono hcur.size)
    clear hn
    refine ⟨hcur, ?_⟩
    simp only [Act.put, List.setIfInBounds_toArray, List.set_cons_zero, List.set_cons_succ]
    refine held_one (i := 5) (by kernel_rfl) _ rfl (wpOp_valG rfl (by rfl) 20 rfl (v := .slice (some ⟨U2.heap.size, 0, none⟩) 2 2) (w' := U2.alloc (.cells #[.bool y1, .bool y2] 4)) (by unfold execOp; simp [go_sem]) ⟨hcur.alloc hcur.size _, ?_⟩)
    simp only [Act.put, List.setIfInBounds_toArray, List.set_cons_zero, List.set_cons_succ]
    refine held_one (i := 6) (by kernel_rfl) _ rfl (wpOp_callP rfl (by rfl) 21 rfl 62 #[.slice (some ⟨U2.heap.size, 0, none⟩) 2 2] (by unfold execOp; simp [go_sem]) _ _ (must_forms (must2 U2 y1 y2)) ?_ ?_)
    · rintro _ U9 ⟨rfl, hy, hn⟩
      have hb9 : Below W2.heap.size W2 U9 := hcur.trans (hn.mono hcur.size)
      refine ⟨hb9, ?_⟩
      simp only [Act.put, List.setIfInBounds_toArray, List.set_cons_zero, List.set_cons_succ]
      refine held_done (by kernel_rfl) ?_
      have cq := (HS.out U9 hb9).2
      have hl2 := HR.out.2.1.below hb9 HR.out.2.1.lt
      have k2 := hl2.cell 0 (v := .slice none 0 0) rfl
      have f2 := hl2.free 0
      have H9 := Lib.hid (And.intro hb9 (And.intro hy hl2))
      clear hcur hn hb9 hy hl2
      go_wp2_with fail
      have hS := H9.out.2.2.set 0 (.slice a n cp)
      have hT0 : T.OwnT (U9.setCell ⟨rb, 0, none⟩ (.slice a n cp)) w.heap.size (.slice a n cp) ns := by
        have h1 : T.OwnT U9 W0.heap.size (.slice a n cp) ns := by
          have := HR.out.2.2.1.kept H9.out.1
          rw [← HR.out.2.2.2.2.2.2.2.1] at this
          exact this
        have hr0 : rb < W0.heap.size := by rw [HR.out.2.2.2.2.2.2.2.2.2.2.2.1]; have := HB.out.2.2.2.2; omega
        exact ownT_weak (W.own_only (g := rb) h1 (W.only_set rb 0 U9 _) (fun e => by have := h1.above e; omega) (fun _ _ => by simp)) HB.out.2.2.2.1.size
      have hrg : rb ≠ g := by rw [HR.out.2.2.2.2.2.2.2.2.2.2.2.1]; have := HLT.out; omega
      have hrk : k ≠ rb := by rw [HR.out.2.2.2.2.2.2.2.2.2.2.2.1]; have := HLT.out; omega
      have hrd9 : W.RSt (U9.setCell ⟨rb, 0, none⟩ (.slice a n cp)) g k xs c st := (HR.out.2.2.2.1.below H9.out.1).only (W.only_set rb 0 U9 _) (Ne.symm hrg) hrk
      have hof : W.Only g w (U9.setCell ⟨rb, 0, none⟩ (.slice a n cp)) none := by
        have h1 := HR.out.2.2.2.2.1.trans0 (W.only_below H9.out.1)
        have h2 := W.only_set rb 0 U9 (.slice a n cp)
        refine ⟨h2.os.trans h1.os, h2.tape.trans h1.tape, h2.output.trans h1.output, Nat.le_trans h1.size h2.size, fun j hj hg hn => ?_⟩
        rw [heap_setCell_other U9 ⟨rb, 0, none⟩ j _ (by show j ≠ rb; rw [HR.out.2.2.2.2.2.2.2.2.2.2.2.1]; omega)]
        exact h1.block j hj hg hn
      have n0 := hS.cell 0 (v := .slice a n cp) rfl
      have HF := Lib.hid (And.intro hT0 (And.intro hrd9 hof))
      clear hS hT0 hrg hrk hrd9 hof cq k2 f2
      generalize U9.setCell ⟨rb, 0, none⟩ (.slice a n cp) = W9 at n0 HF ⊢
      refine leaves_cons (f := 196) (args := #[.pointer (some ⟨w.heap.size, 0, none⟩)]) (by simp) (by simp [go_sem]) ?_
      refine (getTermD_idle ⟨w.heap.size, 0, none⟩ _).mono ?_
      rintro e u' w'' ⟨rfl, rfl, hw⟩
      subst hw
      simp [Leaves, settle, results, Tryz.results120, go_sem, n0]
      have hyy := H9.out.2.1
      rw [Bool.and_eq_true] at hyy
      have hd := HR.out.2.2.2.2.2.2.2.2.2.2.1
      have e1 : st.isSome = true := by rw [← HR.out.2.2.2.2.2.2.2.2.1]; exact hyy.1
      have e2 : T.rightB ns = true := by rw [← HR.out.2.2.2.2.2.2.2.2.2.1]; exact hyy.2
      have hrd9 := HF.out.2.1
      have hT9 := HF.out.1
      rw [HR.out.2.2.2.2.2.2.2.1] at hT9 ⊢
      cases st with
      | none => cases e1
      | some p =>
        refine ⟨HF.out.2.2, .inl ⟨ns, p, a, cp, ?_, rfl, hT9, HR.out.2.2.2.2.2.1, HR.out.2.2.2.2.2.2.1, hrd9⟩⟩
        rw [H.out]
        unfold getT
        rw [hd]
        show (if T.rightB ns = true then some (ns, p) else none) = some (ns, p)
        rw [if_pos e2]
    · rintro ch U9 ⟨hy, hf, hn⟩
      have hb9 : Below W2.heap.size W2 U9 := hcur.trans (hn.mono hcur.size)
      obtain ⟨m, hm⟩ := hf
      obtain rfl := Ending.panicked.inj hm
      have hno : res = none := by
        have hd := HR.out.2.2.2.2.2.2.2.2.2.2.1
        rw [H.out]
        unfold getT
        rw [hd]
        cases st with
        | none => rfl
        | some p =>
          show (if T.rightB ns = true then some (ns, p) else none) = none
          rw [if_neg]
          intro e
          rw [HR.out.2.2.2.2.2.2.2.2.1, HR.out.2.2.2.2.2.2.2.2.2.1, e] at hy
          cases hy
      have hl1 := HR.out.1.below hb9 HR.out.1.lt
      have hl2 := HR.out.2.1.below hb9 HR.out.2.1.lt
      have hr9 := HR.out.2.2.2.1.below hb9
      have ho9 := HR.out.2.2.2.2.1.trans0 (W.only_below hb9)
      have H9 := Lib.hid (And.intro hl2 (And.intro ho9 hno))
      clear hcur hn hb9 hl2 ho9 hno hy hm
      show bodyPostD _ _ _ (Exit.panic _) _ _
      refine leaves_cons (f := 196) (args := #[.pointer (some ⟨w.heap.size, 0, none⟩)]) (by simp) (by simp [go_sem]) ?_
      refine (getTermD_panicking w.heap.size g k xs c st 64 _ [] _ (hl1.cell 0 rfl) hr9).mono ?_
      rintro e u' w'' ⟨rfl, rfl, hr, ho⟩
      have hl2 := ho.lies H9.out.1 (by rw [HR.out.2.2.2.2.2.2.2.2.2.2.2.1]; have := HLT.out; omega)
      have n0 := hl2.cell 0 (v := .slice none 0 0) rfl
      have HF := Lib.hid (And.intro hr (H9.out.2.1.trans0 ho))
      clear hr ho hl2 hl1 hr9
      simp [Leaves, settle, results, Tryz.results120, go_sem, n0]
      exact ⟨HF.out.2, .inr ⟨H9.out.2.2, rfl, HF.out.1⟩⟩
  · have H1 := Lib.hid (And.intro hrd hdec)
    clear hrd hdec
    go_wp2_with fail
    refine leaves_cons (f := 196) (args := #[.pointer (some ⟨w.heap.size, 0, none⟩)]) (by simp) (by simp [go_sem]) ?_
    refine (getTermD_panicking w.heap.size g k xs c st 64 _ [] _ (HO.out.1.cell 0 rfl) H1.out.1).mono ?_
    rintro e u' w'' ⟨rfl, rfl, hr, ho⟩
    have hl2 := ho.lies HO.out.2.1 (by have := HLT.out; omega)
    have n0 := hl2.cell 0 (v := .slice none 0 0) rfl
    have HF := Lib.hid (And.intro hr (HO.out.2.2.2.trans0 ho))
    clear hr ho hl2
    simp [Leaves, settle, results, Tryz.results120, go_sem, n0]
    refine ⟨HF.out.2, .inr ⟨?_, rfl, HF.out.1⟩⟩
    rw [H.out]
    unfold getT
    rw [H1.out.2]
end Go.Proofs.YtilbbemdinpjcaaGreat.P
namespace Go.Proofs.YtilbbemdinpjcaaGreat.P
set_option maxRecDepth 100000
open Go.RowKit Go.Sort
theorem setNew_only {g r : Nat} {w V : World} {v : Value} (h : W.Only g w V none) (hr : w.heap.size ≤ r) : W.Only g w (V.setCell ⟨r, 0, none⟩ v) none := by
 have h2 := W.only_set r 0 V v
 refine ⟨h2.os.trans h.os, h2.tape.trans h.tape, h2.output.trans h.output, Nat.le_trans h.size h2.size, fun j hj hg hn => ?_⟩
 rw [heap_setCell_other V ⟨r, 0, none⟩ j _ (by show j ≠ r; omega)]
 exact h.block j hj hg hn
theorem getTerm_any (w : World) (g k : Nat) (xs : List UInt8) (c : Nat) (st0 : Option Nat) (h : W.RSt w g k xs c st0) :
  Calls Tryz.prog 49 #[.pointer (some ⟨g, 0, none⟩)] w (GetT g k xs c w (getT xs st0)) := by
 obtain ⟨hA, hb⟩ := box_one w (.slice none 0 0) 24
 obtain ⟨res, hres⟩ : ∃ r, r = getT xs st0 := ⟨_, rfl⟩
 have HLT := Lib.hid h.lt
 have hC := getTermG_any _ g k xs c st0 (h.below hb)
 rw [← hres] at hC ⊢
 have HC := Lib.hid hC
 clear h hres hC
 go_enter Tryz.func49, Tryz.ntmps49
 go_upto_region 1 with fail
 generalize w.alloc (.cells #[.slice none 0 0] 24) = W0 at hA hb HC ⊢
 obtain ⟨r, hr⟩ : ∃ r, r = w.heap.size := ⟨_, rfl⟩
 rw [← hr] at hA ⊢
 have HB := Lib.hid (And.intro hA (And.intro hb hr))
 clear hA hb hr
 go_wp2_with fail
 refine HC.out.mono ?_
 rintro e W1 ⟨ho, hcase⟩
 have hrg : r ≠ g := by rw [HB.out.2.2]; have := HLT.out; omega
 have hrk : k ≠ r := by rw [HB.out.2.2]; have := HLT.out; omega
 have hl := ho.lies HB.out.1 hrg
 have c0 := hl.cell 0 (v := .slice none 0 0) rfl
 have f0 := hl.free 0
 have ho1 := (W.only_below HB.out.2.1).trans0 ho
 rcases hcase with ⟨ns, p, a, cp, hres, rfl, hown, hlen, hins, hrd⟩ | ⟨hres, rfl, hrd⟩
 ·
  have h1 : T.OwnT (W1.setCell ⟨r, 0, none⟩ (.slice a ns.length cp)) w.heap.size (.slice a ns.length cp) ns := ownT_weak (W.own_only (g := r) hown (W.only_set r 0 W1 _) (fun e => by have := hown.above e; have := HB.out.1.lt; omega) (fun _ _ => by simp)) HB.out.2.1.size
  have h2 : W.RSt (W1.setCell ⟨r, 0, none⟩ (.slice a ns.length cp)) g k xs c (some p) := hrd.only (W.only_set r 0 W1 _) (Ne.symm hrg) hrk
  have h3 : W.Only g w (W1.setCell ⟨r, 0, none⟩ (.slice a ns.length cp)) none := setNew_only ho1 (by rw [HB.out.2.2]; exact Nat.le_refl _)
  have HS := Lib.hid (hl.set 0 (.slice a ns.length cp))
  have HF := Lib.hid (And.intro h1 (And.intro h2 (And.intro h3 (And.intro hlen (And.intro hins hres)))))
  clear h1 h2 h3 hl ho ho1 hown hlen hins hrd hrg hrk hres HC
  go_wp2_with fail
  refine bodyPost_ret (v := .agg #[.slice a ns.length cp]) (results_cell_row (p := 2) (ty := 24) (by kernel_rfl) _ _ r 24 #[.slice a ns.length cp] (0, 0) _ rfl HS.out Tryz.underlying24 rfl (by kernel_rfl)) rfl ?_
  exact ⟨HF.out.2.2.1, .inl ⟨ns, p, a, cp, HF.out.2.2.2.2.2, rfl, HF.out.1, HF.out.2.2.2.1, HF.out.2.2.2.2.1, HF.out.2.1⟩⟩
 ·
  have h2 : W.RSt (W1.setCell ⟨r, 0, none⟩ (.slice none 0 0)) g k xs c none := hrd.only (W.only_set r 0 W1 _) (Ne.symm hrg) hrk
  have h3 : W.Only g w (W1.setCell ⟨r, 0, none⟩ (.slice none 0 0)) none := setNew_only ho1 (by rw [HB.out.2.2]; exact Nat.le_refl _)
  have HS := Lib.hid (hl.set 0 (.slice none 0 0))
  have HF := Lib.hid (And.intro h2 (And.intro h3 hres))
  clear h2 h3 hl ho ho1 hrd hrg hrk hres HC
  go_wp2_with fail
  refine bodyPost_ret (v := .agg #[.slice none 0 0]) (results_cell_row (p := 2) (ty := 24) (by kernel_rfl) _ _ r 24 #[.slice none 0 0] (0, 0) _ rfl HS.out Tryz.underlying24 rfl (by kernel_rfl)) rfl ?_
  exact ⟨HF.out.2.1, .inr ⟨HF.out.2.2, rfl, HF.out.1⟩⟩
end Go.Proofs.YtilbbemdinpjcaaGreat.P
