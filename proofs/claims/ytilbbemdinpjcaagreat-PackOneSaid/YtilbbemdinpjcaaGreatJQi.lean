/-
  pack: two refs are one just where their parts are.
-/
import Derived.Test.YtilbbemdinpjcaaGreatJYg
import Derived.Test.YtilbbemdinpjcaaGreatJVu
import Derived.WalkKit
import Derived.ProofKit
import Derived.OpenShut
import Derived.Carry
import Derived.SizedLaws
import Derived.Deep.Slices
import Derived.ChangeSlices
import Derived.Test.YtilbbemdinpjcaaGreatJPo
import Derived.Test.YtilbbemdinpjcaaGreatJPk
import Derived.Test.YtilbbemdinpjcaaGreatJVe
set_option maxHeartbeats 16000000
namespace Go.Proofs.YtilbbemdinpjcaaGreat.P
set_option maxRecDepth 100000
open Go.RowKit Go.Sort
theorem apartR_map (f : En → En) (hr : ∀ e, (f e).r = e.r) : ∀ a b : List En, apartR (a.map f) (b.map f) = apartR a b := by
 intro a b
 induction a, b using apartR.induct <;> simp_all [apartR]
def rightDV (v : DfV) : Bool := rightDB ⟨none, v.s.map enOf, 0, none, v.m.map enOf, 0, v.fe, v.fo, none, v.l, 0⟩
theorem rightDV_eq (d : Df) : rightDV (diV d) = rightDB d := by
 unfold rightDV rightDB diV
 simp only [List.map_map]
 rw [rightEB_map (enOf ∘ enV) (fun _ => rfl) (fun _ => rfl), rightEB_map (enOf ∘ enV) (fun _ => rfl) (fun _ => rfl), apartR_map (enOf ∘ enV) (fun _ => rfl)]
def getDiOf : Option (DfV × Option Nat) → Option (DfV × Nat)
 | some (v, some p) => if rightDV v = true then some (v, p) else none
 | _ => none
def getDi (xs : List UInt8) (st : Option Nat) : Option (DfV × Nat) := getDiOf (diffD xs st)
def GetDi (g k : Nat) (xs : List UInt8) (c : Nat) (w : World) (d : Option (DfV × Nat)) (e : Ending) (w' : World) : Prop :=
 W.Only g w w' none ∧ ((∃ o p, d = some (diV o, p) ∧ e = .returned (.agg (dfC o)) ∧ DfIn w' w.heap.size o ∧ rightDB o = true ∧ W.RSt w' g k xs c (some p)) ∨ (d = none ∧ e = .returned (.agg (#[.slice none 0 0, .slice none 0 0, .int .i64 0, .int .i64 0, .slice none 0 0] : Array Value)) ∧ W.RSt w' g k xs c none))
theorem dfG_one (d : Df) : (dfC d).all (·.oneCell') = true := by
 unfold dfC
 simp [Value.oneCell']
theorem DfIn.below {V V' : World} {B : Nat} {d : Df} (h : DfIn V B d) (hb : Below V.heap.size V V') : DfIn V' B d := ⟨h.1.below hb, h.2.1.below hb, ownsRow_below h.2.2.1 hb, h.2.2.2⟩
theorem DfIn.weak {V : World} {B B' : Nat} {d : Df} (h : DfIn V B d) (hb : B' ≤ B) : DfIn V B' d := ⟨h.1.weak hb, h.2.1.weak hb, ownsRow_weak h.2.2.1 hb, h.2.2.2⟩
theorem DfIn.row {V : World} {B q : Nat} {d : Df} (h : DfIn V B d) (hq : q < B) (cs : Array Value) : DfIn (V.setRow q cs) B d := ⟨h.1.row hq cs, h.2.1.row hq cs, own_row h.2.2.1 hq cs, h.2.2.2⟩
theorem OwnEs.at {V : World} {B : Nat} {a : Option Addr} {cp : Nat} {l : List En} (h : OwnEs V B (.slice a l.length cp) l) : l.length ≤ cp ∧ RowE V a l := by
 obtain ⟨a', cp', e, h1, h2⟩ := h.rowE
 injection e with e1 e2 e3
 rw [e1, e3]
 exact ⟨h1, h2⟩
theorem DfIn.ok {V : World} {B : Nat} {d : Df} (h : DfIn V B d) : DfOk V d := by
 obtain ⟨h1, h2, h3, h4, h5, h6, h7⟩ := h
 obtain ⟨pa, c, e, hrow⟩ := OwnTo.row h3 h6 h7
 refine ⟨h1.at.2, h2.at.2, h4, h5, ?_⟩
 injection e with e1 e2 e3
 rw [e1]
 exact hrow
theorem DfIn.room {V : World} {B : Nat} {d : Df} (h : DfIn V B d) : DfRoom d := ⟨h.1.at.1, h.2.1.at.1⟩
theorem getDiffD_panicking (p g k : Nat) (xs : List UInt8) (c : Nat) (st : Option Nat) (u : TypeId) (pv : Value) (older : List PanicEntry) (w : World) (hp : w.cell? ⟨p, 0, none⟩ = some (.pointer (some ⟨g, 0, none⟩))) (h : W.RSt w g k xs c st) :
  CallsD Tryz.prog 233 #[.pointer (some ⟨p, 0, none⟩)] (.panicking ({ v := .iface u pv, recovered := false } :: older)) w fun e u' w' =>
   e = .returned (.tuple #[]) ∧ u' = .panicking ({ v := .iface u pv, recovered := true } :: older) ∧ W.RSt w' g k xs c none ∧ W.Only g w w' none := by
 have hs := rSpoil_any w g k xs c st h
 refine callsD_of_wpS Tryz.func233 rfl fun c₀ cs hu => ?_
 apply wpS_seq
 apply wpS_region
 simp [wpOpsS, go_sem, recoverD, hu, Tryz.ntmps233, Exit.thenS]
 refine wpS_cond (t := true) (by simp [Act.eval, Array.replicate]) ?_
 simp only [if_true]
 refine wpS_of_wp ?_
 go_wp2_with fail
 refine hs.mono ?_
 rintro e w2 ⟨rfl, hr, ho⟩
 go_wp2_with fail
 simp [bodyPostS, results, Tryz.results233]
 exact ⟨hr, ho⟩
theorem getDiffD_idle (p : Addr) (w : World) :
  CallsD Tryz.prog 233 #[.pointer (some p)] .returning w fun e u' w' => e = .returned (.tuple #[]) ∧ u' = .returning ∧ w' = w := by
 refine callsD_of_wpS Tryz.func233 rfl fun c₀ cs hu => ?_
 apply wpS_seq
 apply wpS_region
 simp [wpOpsS, go_sem, recoverD, hu, Tryz.ntmps233, Exit.thenS]
 refine wpS_cond (t := false) (by simp [Act.eval, Array.replicate]) ?_
 simp only [Bool.false_eq_true, if_false]
 refine wpS_of_wp (wp_skip ?_)
 cases c₀
 simp_all [bodyPostS, results, Tryz.results233]
theorem getDiffG_any (w : World) (g k : Nat) (xs : List UInt8) (c : Nat) (st0 : Option Nat) (h : W.RSt w g k xs c st0) (hxl : xs.length < 1000000) :
    Calls Tryz.prog 159 #[.pointer (some ⟨g, 0, none⟩), .func (Fn.func 160) #[] #[], .func (Fn.func 17) #[] #[]] w (GetDi g k xs c w (getDi xs st0)) := by
  have hmf : ∀ (fn : Fn) (first cap : Array Value) (w : World), (Instr.makeFunc fn first cap).run Tryz.prog w = .ok (.func fn first cap) w := fun _ _ _ _ => rfl
  have hf1 := T.callK 17 Tryz.f17 Tryz.func17 (by kernel_rfl) (by kernel_rfl)
  have hf2 := T.callK 160 Tryz.f160 Tryz.func160 (by kernel_rfl) (by kernel_rfl)
  obtain ⟨b1, b2, b3, b4, b5⟩ := box_three w #[.pointer (some ⟨g, 0, none⟩)] (#[.slice none 0 0, .slice none 0 0, .int .i64 0, .int .i64 0, .slice none 0 0] : Array Value) #[.pointer (some ⟨g, 0, none⟩)] 56 40 174
  obtain ⟨res, hres⟩ : ∃ r, r = getDi xs st0 := ⟨_, rfl⟩
  rw [← hres]
  obtain ⟨od, hod⟩ : ∃ r, r = diffD xs st0 := ⟨_, rfl⟩
  have HLT := Lib.hid h.lt
  have hC := getterDiff_any _ g k xs c st0 (h.below b4) hxl
  rw [← hod] at hC
  have HC := Lib.hid hC
  have hres2 : res = getDiOf od := by rw [hres, hod]; rfl
  have HR0 := Lib.hid hres2
  clear h hres hod hC hres2 hxl
  obtain ⟨zc, hzc⟩ : ∃ z : Array Value, z = (#[.slice none 0 0, .slice none 0 0, .int .i64 0, .int .i64 0, .slice none 0 0] : Array Value) := ⟨_, rfl⟩
  have HZ := Lib.hid hzc
  obtain ⟨W0, HW⟩ : ∃ W0, (((w.alloc (.cells #[.pointer (some ⟨g, 0, none⟩)] 56)).alloc (.cells (#[.slice none 0 0, .slice none 0 0, .int .i64 0, .int .i64 0, .slice none 0 0] : Array Value) 40)).alloc (.cells #[.pointer (some ⟨g, 0, none⟩)] 174)) = W0 := ⟨_, rfl⟩
  rw [HW] at b1 b2 b3 b4 b5 HC
  rw [← hzc] at b2
  clear hzc
  go_enter_defers Tryz.func159, Tryz.ntmps159
  have c2 : W0.cell? ⟨w.heap.size + 1 + 1, 0, none⟩ = some (.pointer (some ⟨g, 0, none⟩)) := b3.cell 0 rfl
  have HB := Lib.hid (And.intro b1 (And.intro b2 (And.intro b3 (And.intro b4 b5))))
  clear b1 b2 b3 b4 b5
  go_wp2_with fail
  clear HW
  refine HC.out.mono ?_
  rintro e W1 ⟨ho1, hcase⟩
  have hl1 := ho1.lies HB.out.1 (by have := HLT.out; omega)
  have hl2 := ho1.lies HB.out.2.1 (by have := HLT.out; omega)
  have hl3 := ho1.lies HB.out.2.2.1 (by have := HLT.out; omega)
  have hw1 : W.Only g w W1 none := (W.only_below HB.out.2.2.2.1).trans0 ho1
  rcases hcase with ⟨x, st, rfl, hin, hrd, hdec⟩ | ⟨⟨m, rfl⟩, hdec, st, hrd⟩
  case inr =>
    have H1 := Lib.hid (And.intro hrd (And.intro hdec (And.intro hl1 (And.intro hl2 hw1))))
    clear hrd hdec hl1 hl2 hl3 hw1 ho1 c2 HC
    go_wp2_with fail
    refine leaves_cons (f := 233) (args := #[.pointer (some ⟨w.heap.size, 0, none⟩)]) (by simp) (by simp [go_sem]) ?_
    refine (getDiffD_panicking w.heap.size g k xs c st 64 _ [] _ (H1.out.2.2.1.cell 0 rfl) H1.out.1).mono ?_
    rintro e u' w'' ⟨rfl, rfl, hr, ho⟩
    have hl2 := ho.lies H1.out.2.2.2.1 (by have := HLT.out; omega)
    have HF := Lib.hid (And.intro hr (And.intro (H1.out.2.2.2.2.trans0 ho) hl2))
    clear hr ho hl2
    refine ⟨.agg zc, results_cell_row (p := 6) (ty := 40) (by kernel_rfl) _ _ (w.heap.size + 1) 40 zc (0, 0) _ rfl HF.out.2.2 Tryz.underlying40 rfl (by rw [HZ.out]; kernel_rfl), ?_⟩
    exact ⟨HF.out.2.1, .inr ⟨by rw [HR0.out, H1.out.2.1]; rfl, by rw [HZ.out], HF.out.1⟩⟩
  obtain ⟨cs, hcs⟩ : ∃ cs, cs = dfC x := ⟨_, rfl⟩
  have hsz : cs.size = 5 := by rw [hcs]; rfl
  have hone : cs.all (·.oneCell') = true := by rw [hcs]; exact dfG_one x
  have H := Lib.hid (And.intro hdec (And.intro hcs (And.intro hsz hone)))
  have HI := Lib.hid (show (Tryz.prog.info? 40).map (·.size) = some cs.size by rw [hsz]; exact info_diff)
  rw [← hcs]
  clear hdec hcs hsz hone
  have hb2 : Below W1.heap.size W1 (W1.alloc (.cells cs 40)) := (Below.refl _ _).alloc (Nat.le_refl _) _
  have hx2 := Lies.new W1 cs 40
  have hsz0 : cs.size = 5 := H.out.2.2.1
  have hsc : (storeCells ⟨W1.heap.size, 0, none⟩ cs.toList 0).run Tryz.prog (W1.alloc (.cells (#[.slice none 0 0, .slice none 0 0, .int .i64 0, .int .i64 0, .slice none 0 0] : Array Value) 40)) = .ok () (W1.alloc (.cells cs 40)) := run_storeCells_new W1 40 (#[.slice none 0 0, .slice none 0 0, .int .i64 0, .int .i64 0, .slice none 0 0] : Array Value) cs HI.out (by rw [hsz0]; kernel_rfl) H.out.2.2.2
  obtain ⟨W2, HW2⟩ : ∃ W2, W1.alloc (.cells cs 40) = W2 := ⟨_, rfl⟩
  rw [HW2] at hb2 hx2 hsc
  have hw2 : W.Only g w W2 none := hw1.trans0 (W.only_below hb2)
  have hm1 := hl1.below hb2 hl1.lt
  have hm2 := hl2.below hb2 hl2.lt
  have hm3 := hl3.below hb2 hl3.lt
  have hrd2 := hrd.below hb2
  have hin2 := hin.below hb2
  obtain ⟨y1, hy1⟩ : ∃ b, b = st.isSome := ⟨_, rfl⟩
  obtain ⟨y2, hy2⟩ : ∃ b, b = rightDB x := ⟨_, rfl⟩
  obtain ⟨q, hq⟩ : ∃ q, q = W1.heap.size := ⟨_, rfl⟩
  obtain ⟨sb, hsb⟩ : ∃ p, p = w.heap.size + 1 + 1 := ⟨_, rfl⟩
  obtain ⟨rb, hrb⟩ : ∃ p, p = w.heap.size + 1 := ⟨_, rfl⟩
  have hm3 : Lies W2 sb #[.pointer (some ⟨g, 0, none⟩)] 174 := by rw [hsb]; exact hm3
  rw [← hrb] at hm2
  rw [← hq] at hx2
  have K1 : Hid (∀ V, Below W2.heap.size W2 V → Calls Tryz.prog 198 #[.agg #[.pointer (some ⟨g, 0, none⟩)]] V fun e w' => e = .returned (.bool y1) ∧ Below V.heap.size V w') := Lib.hid fun V hV => by rw [hy1]; exact sound_any V g k xs c st (hrd2.below hV)
  have K2 : Hid (∀ V, Below W2.heap.size W2 V → Calls Tryz.prog 17 #[.agg cs] V fun e w' => e = .returned (.bool y2) ∧ Below V.heap.size V w') := Lib.hid fun V hV => by rw [hy2, H.out.2.1]; exact rightDiff_any V x (hin2.below hV).ok (hin2.below hV).room
  have HS : Hid (∀ V, Below W2.heap.size W2 V → V.cell? ⟨sb, 0, none⟩ = some (.pointer (some ⟨g, 0, none⟩)) ∧ Lies V q cs 40) := Lib.hid fun V hV => ⟨(hm3.below hV hm3.lt).cell 0 rfl, hx2.below hV hx2.lt⟩
  have HR := Lib.hid (And.intro hm1 (And.intro hm2 (And.intro hrd2 (And.intro hw2 (And.intro hy1 (And.intro hy2 (And.intro hrb (And.intro hb2 hin2))))))))
  clear hl1 hl2 hl3 hw1 ho1 c2 HC hb2 hx2 hrd hw2 hm1 hm2 hm3 hrd2 hy1 hy2 hin hin2
  go_upto_region 4 with fail
  rw [← hq, ← hsb, ← hrb]
  clear HW2 hq hsb hrb hsc hsz0
  have hres2 := res_put (fn := Tryz.f159) (a := 6) (ty := 40) (by kernel_rfl)
  refine wp_region_held (S := Below W2.heap.size W2) (by kernel_rfl) ?_
  change wpAnyH _ _ _ _ _ 7 _ _ (World.drew W2)
  have hcur : Below W2.heap.size W2 W2.drew := (Below.refl _ _).drew
  refine tk 0 (.agg #[.pointer (some ⟨g, 0, none⟩)]) 15 rfl rfl hcur ?_ (by intro w' hS'; have x0 := (HS.out w' hS').1; unfold execOp; simp [go_sem, x0]) (hQ := held_put (hres2 15 _ (by decide)))
  refine tk 2 (.func (Fn.func 17) #[] #[]) 17 rfl rfl hcur ?_ (hQ := held_put (hres2 17 _ (by decide)))
  refine tk 3 (.agg cs) 18 rfl rfl hcur ?_ (by intro w' hS'; exact exec_loadRow rfl rfl (HS.out w' hS').2 Tryz.underlying40 rfl HI.out) (hQ := held_put (hres2 18 _ (by decide)))
  generalize W2.drew = V0 at hcur ⊢
  refine held_one (i := 1) (by kernel_rfl) _ rfl (wpOp_callG rfl (by rfl) 16 rfl 198 #[.agg #[.pointer (some ⟨g, 0, none⟩)]] (by unfold execOp; simp [go_sem]) _ (ret_gro (K1.out _ hcur)) ?_)
  rintro _ U1 ⟨rfl, hn⟩
  have hcur := hcur.trans (hn.mono hcur.size)
  clear hn
  refine ⟨hcur, ?_⟩
  simp only [Act.put, List.setIfInBounds_toArray, List.set_cons_zero, List.set_cons_succ]
  refine held_one (i := 4) (by kernel_rfl) _ rfl (wpOp_callG rfl (by rfl) 19 rfl 17 #[.agg cs] (by unfold execOp; simp [go_sem, hf1]) _ (ret_gro (K2.out _ hcur)) ?_)
  rintro _ U2 ⟨rfl, hn⟩
  have hcur := hcur.trans (hn.mono hcur.size)
  clear hn
  refine ⟨hcur, ?_⟩
  simp only [Act.put, List.setIfInBounds_toArray, List.set_cons_zero, List.set_cons_succ]
  refine held_one (i := 5) (by kernel_rfl) _ rfl (wpOp_valG rfl (by rfl) 20 rfl (v := .slice (some ⟨U2.heap.size, 0, none⟩) 2 2) (w' := U2.alloc (.cells #[.bool y1, .bool y2] 4)) (by unfold execOp; simp [go_sem]) ⟨hcur.alloc hcur.size _, ?_⟩)
  simp only [Act.put, List.setIfInBounds_toArray, List.set_cons_zero, List.set_cons_succ]
  refine held_one (i := 6) (by kernel_rfl) _ rfl (wpOp_callP rfl (by rfl) 21 rfl 62 #[.slice (some ⟨U2.heap.size, 0, none⟩) 2 2] (by unfold execOp; simp [go_sem]) _ _ (must_forms (must2 U2 y1 y2)) ?_ ?_)
  · rintro _ U9 ⟨rfl, hy, hn⟩
    have hb9 : Below W2.heap.size W2 U9 := hcur.trans (hn.mono hcur.size)
    refine ⟨hb9, ?_⟩
    simp only [Act.put, List.setIfInBounds_toArray, List.set_cons_zero, List.set_cons_succ]
    refine held_done (by kernel_rfl) ?_
    have hl2 := HR.out.2.1.below hb9 HR.out.2.1.lt
    have hLq := (HS.out U9 hb9).2
    have hsz0 : cs.size = 5 := H.out.2.2.1
    have hsc : (storeCells ⟨rb, 0, none⟩ cs.toList 0).run Tryz.prog U9 = .ok () (U9.setRow rb cs) := by
      have := run_storeCells_from (P := Tryz.prog) rb 40 cs.toList 0 zc U9 hl2 (by rw [Array.length_toList, hsz0, HZ.out]; kernel_rfl) (fun v hv => (Array.all_eq_true_iff_forall_mem.1 H.out.2.2.2) v (by simpa using hv))
      simpa using this
    have HL := Lib.hid (And.intro hLq (range_lies hLq))
    have HLL := Lib.hid (show (Tryz.prog.info? 40).map (·.size) = some cs.toList.length by rw [Array.length_toList]; exact HI.out)
    have H9 := Lib.hid (And.intro hb9 (And.intro hy hl2))
    clear hcur hn hb9 hy hl2 hLq
    go_wp2_with (first
      | (at_builtin; fail)
      | (refine wpList_load_mid rfl 40 _ rfl q 0 rfl cs.toList _ HL.out.2 Tryz.underlying40 rfl HLL.out ?_))
    have hrg : rb ≠ g := by rw [HR.out.2.2.2.2.2.2.1]; have := HLT.out; omega
    have hrk : rb ≠ k := by rw [HR.out.2.2.2.2.2.2.1]; have := HLT.out; omega
    have hS := Lies.setRow H9.out.2.2 cs
    have hrd9 := rst_row (HR.out.2.2.1.below H9.out.1) cs hrg hrk
    have hof := W.only_row (HR.out.2.2.2.1.trans0 (W.only_below H9.out.1)) (k := rb) (by rw [HR.out.2.2.2.2.2.2.1]; omega) cs
    have hin9 := (((HR.out.2.2.2.2.2.2.2.2.below H9.out.1)).row (q := rb) (by rw [HR.out.2.2.2.2.2.2.1]; have := HB.out.2.2.2.2; omega) cs).weak HB.out.2.2.2.1.size
    have HF := Lib.hid (And.intro hS (And.intro hrd9 (And.intro hof hin9)))
    clear hS hrg hrk hrd9 hof hin9 hsz0 hsc HL HLL
    generalize U9.setRow rb cs = W9 at HF ⊢
    refine leaves_cons (f := 233) (args := #[.pointer (some ⟨w.heap.size, 0, none⟩)]) (by simp) (by simp [go_sem]) ?_
    refine (getDiffD_idle ⟨w.heap.size, 0, none⟩ _).mono ?_
    rintro e u' w'' ⟨rfl, rfl, hw⟩
    subst hw
    refine ⟨.agg cs, results_cell_row (p := 6) (ty := 40) (by kernel_rfl) _ _ rb 40 cs (0, 0) _ rfl HF.out.1 Tryz.underlying40 rfl HI.out, ?_⟩
    have hyy := H9.out.2.1
    rw [Bool.and_eq_true] at hyy
    have e1 : st.isSome = true := by rw [← HR.out.2.2.2.2.1]; exact hyy.1
    have e2 : rightDB x = true := by rw [← HR.out.2.2.2.2.2.1]; exact hyy.2
    have hd := H.out.1
    have hrd9 := HF.out.2.1
    cases st with
    | none => cases e1
    | some p =>
      refine ⟨HF.out.2.2.1, .inl ⟨x, p, ?_, by rw [← H.out.2.1], HF.out.2.2.2, e2, hrd9⟩⟩
      rw [HR0.out, hd]
      show (if rightDV (diV x) = true then some (diV x, p) else none) = some (diV x, p)
      rw [rightDV_eq, if_pos e2]
  · rintro ch U9 ⟨hy, hf, hn⟩
    have hb9 : Below W2.heap.size W2 U9 := hcur.trans (hn.mono hcur.size)
    obtain ⟨m, hm⟩ := hf
    obtain rfl := Ending.panicked.inj hm
    have hno : res = none := by
      rw [HR0.out, H.out.1]
      cases st with
      | none => rfl
      | some p =>
        show (if rightDV (diV x) = true then some (diV x, p) else none) = none
        rw [if_neg]
        intro e
        rw [rightDV_eq] at e
        rw [HR.out.2.2.2.2.1, HR.out.2.2.2.2.2.1, e] at hy
        cases hy
    have hl1 := HR.out.1.below hb9 HR.out.1.lt
    have hl2 := HR.out.2.1.below hb9 HR.out.2.1.lt
    have hr9 := HR.out.2.2.1.below hb9
    have ho9 := HR.out.2.2.2.1.trans0 (W.only_below hb9)
    have H9 := Lib.hid (And.intro hl2 (And.intro ho9 hno))
    clear hcur hn hb9 hl2 ho9 hno hy hm
    show bodyPostD _ _ _ (Exit.panic _) _ _
    refine leaves_cons (f := 233) (args := #[.pointer (some ⟨w.heap.size, 0, none⟩)]) (by simp) (by simp [go_sem]) ?_
    refine (getDiffD_panicking w.heap.size g k xs c st 64 _ [] _ (hl1.cell 0 rfl) hr9).mono ?_
    rintro e u' w'' ⟨rfl, rfl, hr, ho⟩
    have hl2 := ho.lies H9.out.1 (by rw [HR.out.2.2.2.2.2.2.1]; have := HLT.out; omega)
    have HF := Lib.hid (And.intro hr (And.intro (H9.out.2.1.trans0 ho) hl2))
    clear hr ho hl2 hl1 hr9
    refine ⟨.agg zc, results_cell_row (p := 6) (ty := 40) (by kernel_rfl) _ _ rb 40 zc (0, 0) _ rfl HF.out.2.2 Tryz.underlying40 rfl (by rw [HZ.out]; kernel_rfl), ?_⟩
    exact ⟨HF.out.2.1, .inr ⟨H9.out.2.2, by rw [HZ.out], HF.out.1⟩⟩
theorem getDiff_any (w : World) (g k : Nat) (xs : List UInt8) (c : Nat) (st0 : Option Nat) (h : W.RSt w g k xs c st0) (hxl : xs.length < 1000000) :
  Calls Tryz.prog 93 #[.pointer (some ⟨g, 0, none⟩)] w (GetDi g k xs c w (getDi xs st0)) := by
 have hA := Lies.new w (#[.slice none 0 0, .slice none 0 0, .int .i64 0, .int .i64 0, .slice none 0 0] : Array Value) 40
 have hb : Below w.heap.size w (w.alloc (.cells (#[.slice none 0 0, .slice none 0 0, .int .i64 0, .int .i64 0, .slice none 0 0] : Array Value) 40)) := (Below.refl _ _).alloc (Nat.le_refl _) _
 obtain ⟨res, hres⟩ : ∃ r, r = getDi xs st0 := ⟨_, rfl⟩
 have HLT := Lib.hid h.lt
 have hC := getDiffG_any _ g k xs c st0 (h.below hb) hxl
 rw [← hres] at hC ⊢
 have HC := Lib.hid hC
 clear h hres hC hxl
 go_enter Tryz.func93, Tryz.ntmps93
 go_upto_region 1 with fail
 generalize w.alloc (.cells (#[.slice none 0 0, .slice none 0 0, .int .i64 0, .int .i64 0, .slice none 0 0] : Array Value) 40) = W0 at hA hb HC ⊢
 obtain ⟨r, hr⟩ : ∃ r, r = w.heap.size := ⟨_, rfl⟩
 rw [← hr] at hA ⊢
 have HB := Lib.hid (And.intro hA (And.intro hb hr))
 clear hA hb hr
 go_wp2_with fail
 refine HC.out.mono ?_
 rintro e W1 ⟨ho, hcase⟩
 have hrg : r ≠ g := by rw [HB.out.2.2]; have := HLT.out; omega
 have hrk : r ≠ k := by rw [HB.out.2.2]; have := HLT.out; omega
 have hl := ho.lies HB.out.1 hrg
 have ho1 := (W.only_below HB.out.2.1).trans0 ho
 have hrW := HB.out.1.lt
 have hzz : (#[.slice none 0 0, .slice none 0 0, .int .i64 0, .int .i64 0, .slice none 0 0] : Array Value).size = 5 := by kernel_rfl
 have hzo : (#[.slice none 0 0, .slice none 0 0, .int .i64 0, .int .i64 0, .slice none 0 0] : Array Value).all (·.oneCell') = true := by kernel_rfl
 obtain ⟨cs, st, hsz0, hone, rfl, hrd, hend⟩ : ∃ (cs : Array Value) (st : Option Nat), cs.size = 5 ∧ cs.all (·.oneCell') = true ∧ e = .returned (.agg cs) ∧ W.RSt W1 g k xs c st ∧ ((∃ o p, res = some (diV o, p) ∧ cs = dfC o ∧ DfIn W1 W0.heap.size o ∧ rightDB o = true ∧ st = some p) ∨ (res = none ∧ cs = (#[.slice none 0 0, .slice none 0 0, .int .i64 0, .int .i64 0, .slice none 0 0] : Array Value) ∧ st = none)) := by
  rcases hcase with ⟨o, p, h1, h2, h3, h4, h5⟩ | ⟨h1, h2, h3⟩
  ·
   exact ⟨dfC o, some p, rfl, dfG_one o, h2, h5, .inl ⟨o, p, h1, rfl, h3, h4, rfl⟩⟩
  ·
   exact ⟨(#[.slice none 0 0, .slice none 0 0, .int .i64 0, .int .i64 0, .slice none 0 0] : Array Value), none, hzz, hzo, h2, h3, .inr ⟨h1, rfl, rfl⟩⟩
 have HI := Lib.hid (show (Tryz.prog.info? 40).map (·.size) = some cs.size by rw [hsz0]; exact info_diff)
 have hsc : (storeCells ⟨r, 0, none⟩ cs.toList 0).run Tryz.prog W1 = .ok () (W1.setRow r cs) := by
  have := run_storeCells_from (P := Tryz.prog) r 40 cs.toList 0 (#[.slice none 0 0, .slice none 0 0, .int .i64 0, .int .i64 0, .slice none 0 0] : Array Value) W1 hl (by rw [Array.length_toList, hsz0, hzz]) (fun v hv => (Array.all_eq_true_iff_forall_mem.1 hone) v (by simpa using hv))
  simpa using this
 have hS := Lies.setRow hl cs
 have hrd9 := rst_row hrd cs hrg hrk
 have hof := W.only_row ho1 (k := r) (by rw [HB.out.2.2]; exact Nat.le_refl _) cs
 have HF := Lib.hid (And.intro hS (And.intro hrd9 (And.intro hof (And.intro hend hrW))))
 clear hS hrd9 hof hend hone hrd ho ho1 hl hrg hrk HC hzz hzo hrW
 go_wp2_with fail
 refine bodyPost_ret (v := .agg cs) (results_cell_row (p := 2) (ty := 40) (by kernel_rfl) _ _ r 40 cs (0, 0) _ rfl HF.out.1 Tryz.underlying40 rfl HI.out) rfl ?_
 refine ⟨HF.out.2.2.1, ?_⟩
 rcases HF.out.2.2.2.1 with ⟨o, p, h1, h2, h3, h4, h5⟩ | ⟨h1, h2, h3⟩
 ·
  refine .inl ⟨o, p, h1, by rw [h2], (h3.row (q := r) HF.out.2.2.2.2 cs).weak HB.out.2.1.size, h4, ?_⟩
  rw [← h5]
  exact HF.out.2.1
 ·
  refine .inr ⟨h1, by rw [h2], ?_⟩
  rw [← h3]
  exact HF.out.2.1
end Go.Proofs.YtilbbemdinpjcaaGreat.P
namespace Go.Proofs.YtilbbemdinpjcaaGreat.P
set_option maxRecDepth 100000
open Go.ChangeShapes Go.WideShapes Go.ChangeAt Go.RowKit Go.Deep
theorem list_of {α : Type} (z : α) (P : Nat → α → Prop) : ∀ n, (∀ j, j < n → ∃ b, P j b) → ∃ l : List α, l.length = n ∧ ∀ j, j < n → P j (l.getD j z)
  | 0, _ => ⟨[], rfl, fun j hj => absurd hj (by omega)⟩
  | n + 1, h => by
    obtain ⟨l, hl, hp⟩ := list_of z P n (fun j hj => h j (by omega))
    obtain ⟨b, hb⟩ := h n (by omega)
    refine ⟨l ++ [b], by simp [hl], fun j hj => ?_⟩
    by_cases hjn : j < n
    · have := hp j hjn
      rw [List.getD_eq_getElem?_getD, List.getElem?_append_left (by omega), ← List.getD_eq_getElem?_getD]
      exact this
    · obtain rfl : j = n := by omega
      rw [List.getD_eq_getElem?_getD, List.getElem?_append_right (by omega), hl]
      simpa using hb
theorem byte_of {z : Int} (h : (Lit.int .u8 z).wf = true) : ∃ b : UInt8, z = (b.toNat : Int) := by
 have hmin : IntKind.u8.min = 0 := rfl
 have hmax : IntKind.u8.max = 255 := rfl
 simp only [Lit.wf, Bool.and_eq_true, decide_eq_true_eq] at h
 refine ⟨UInt8.ofNat z.toNat, ?_⟩
 have : (UInt8.ofNat z.toNat).toNat = z.toNat := by simp; omega
 rw [this]
 omega
theorem int_of {a : Int} (h : (Lit.int .i64 a).wf = true) : -9223372036854775808 ≤ a ∧ a < 9223372036854775808 := by
 have hmin : IntKind.i64.min = -9223372036854775808 := rfl
 have hmax : IntKind.i64.max = 9223372036854775807 := rfl
 simp only [Lit.wf, Bool.and_eq_true, decide_eq_true_eq] at h
 omega
theorem args_stay {H : Type} {enc : TypeId × Value → H} {W W' : World} {t : TypeId} {v : Value} {d : DataW H} {ps : List MemPlace} (hr : Tryz.prog.readableRec t = true) (hrow : t < Tryz.prog.types.size)
  (h : DataW.Trod enc Tryz.prog W 0 (fun _ => true) true t v d ps) (hb : Below W.heap.size W W') (hlt : ∀ x ∈ ps, x.block < W.heap.size) : DataW.Trod enc Tryz.prog W' 0 (fun b => decide (b < W.heap.size)) true t v d ps :=
 Below.trod (by kernel_rfl) hr hrow h hb hlt
theorem dc26 : Tryz.prog.cellsOf 30 = 32 := by kernel_rfl
theorem dc5 : Tryz.prog.cellsOf 5 = 1 := by kernel_rfl
section
variable {H : Type} {enc : TypeId × Value → H} {W : World}
theorem hash_in {fuel : Nat} {cs : List Value} {x : DataW H × List MemPlace} (hf : DataW.trod enc Tryz.prog W 0 (fun _ => true) true fuel 30 cs = some x) :
  ∃ m : List UInt8, m.length = 32 ∧ cs = (B8 m).toList := by
 obtain ⟨ys, k, _, _, hlen, hyl, hy⟩ := DataW.trod_array Tryz.underlying30 hf
 rw [dc26] at hlen
 have hcell : ∀ j, j < 32 → ∃ b : UInt8, cs[j]? = some (.int .u8 b.toNat) := by
  intro j hj
  have h1 := hy j hj
  rw [dc5, Nat.mul_one] at h1
  have hone : (cs.drop j).take 1 = [cs[j]'(by omega)] := by
   rw [List.drop_eq_getElem_cons (by omega)]; rfl
  rw [hone, List.getElem?_eq_getElem (by omega)] at h1
  obtain ⟨z, hz, _, hwf⟩ := DataW.trod_int Tryz.underlying5 h1
  obtain ⟨b, hb⟩ := byte_of hwf
  refine ⟨b, ?_⟩
  rw [← hb, List.getElem?_eq_getElem (by omega), (List.cons.inj hz).1]
 obtain ⟨m, hm, hms⟩ := list_of (0 : UInt8) (fun j x => cs[j]? = some (.int .u8 x.toNat)) 32 hcell
 refine ⟨m, hm, List.ext_getElem? fun j => ?_⟩
 by_cases hj : j < 32
 ·
  rw [hms j hj, Array.getElem?_toList, B8_get m j (by omega)]
 ·
  rw [List.getElem?_eq_none (by omega), List.getElem?_eq_none (by rw [Array.length_toList, B8_size]; omega)]
end
open Go.RowKit Go.Sort Go.Maps Go.ChangeShapes Go.WideShapes Go.ChangeAt Go.Deep
section
variable {H : Type} {enc : TypeId × Value → H} {W : World}
def Room (v : Va) : Prop := v.pa = none → v.c = 0
end
end Go.Proofs.YtilbbemdinpjcaaGreat.P
namespace Go.Proofs.YtilbbemdinpjcaaGreat.P
set_option maxRecDepth 100000
open Go.ChangeShapes Go.WideShapes Go.ChangeAt Go.RowKit Go.Deep
section
variable {H : Type} {enc : TypeId × Value → H} {W : World}
theorem weights_in {P : Program} {e : TypeId} {d : DataW H} {n : Nat} (hn : n ∈ d.weights P e) : ∀ {l : List (DataW H)}, d ∈ l → n ∈ DataW.weightsAll P e l
  | [], h => by cases h
  | x :: l, h => by
    unfold DataW.weightsAll
    rcases List.mem_cons.1 h with rfl | h
    · exact List.mem_append_left _ hn
    · exact List.mem_append_right _ (weights_in hn h)
theorem word_of {a : Int} (h : (Lit.int .u64 a).wf = true) : ∃ n : Nat, a = (n : Int) ∧ n < 18446744073709551616 := by
 have hmin : IntKind.u64.min = 0 := rfl
 have hmax : IntKind.u64.max = 18446744073709551615 := rfl
 simp only [Lit.wf, Bool.and_eq_true, decide_eq_true_eq] at h
 exact ⟨a.toNat, by omega, by omega⟩
theorem pc_int : Tryz.prog.cellsOf 3 = 1 := by kernel_rfl
structure NsIn (W : World) (a : Option Addr) (ns : List T.Nd) (c : Nat) : Prop where
 raw : T.TRaw W a ns
 ins : ∀ x ∈ ns, NdIn x
 len : ns.length ≤ 140737488355328
 cap : ns.length ≤ c
 room : a = none → c = 0
end
end Go.Proofs.YtilbbemdinpjcaaGreat.P
namespace Go.Proofs.YtilbbemdinpjcaaGreat.P
set_option maxRecDepth 100000
open Go.ChangeShapes Go.WideShapes Go.ChangeAt Go.RowKit Go.Deep
section
variable {H : Type} {enc : TypeId × Value → H} {W : World}
theorem pc_addr : Tryz.prog.cellsOf 32 = 33 := by kernel_rfl
theorem pc_ref : Tryz.prog.cellsOf 37 = 33 := by kernel_rfl
theorem pc_bool : Tryz.prog.cellsOf 4 = 1 := by kernel_rfl
structure EnIn (e : En) : Prop where
 ins : ∀ y ∈ e.o.ns, NdIn y
 kind : I64 e.o.kind
 room : Room e.o.v
 troom : e.o.tp = none → e.o.tc = 0
end
end Go.Proofs.YtilbbemdinpjcaaGreat.P
namespace Go.Proofs.YtilbbemdinpjcaaGreat.P
set_option maxRecDepth 100000
open Go.RowKit Go.Sort
theorem keyed_ref : Tryz.prog.keyTypeAt 5 37 = true := by kernel_rfl
theorem formed_ref (r : Rf) (h : r.tx.length = 32) : (Value.agg (refC r)).formed Tryz.prog 37 = true := by
 obtain ⟨p, x⟩ := r
 obtain ⟨a0, a1, a2, a3, a4, a5, a6, a7, a8, a9, a10, a11, a12, a13, a14, a15, a16, a17, a18, a19, a20, a21, a22, a23, a24, a25, a26, a27, a28, a29, a30, a31, rfl⟩ := list32 p h
 kernel_rfl
theorem lit_int (d : Nat) (x : Int) (h1 : -9223372036854775808 ≤ x) (h2 : x < 9223372036854775808) : Tryz.prog.keyLits (d + 1) 3 [.int .i64 x] = some [Lit.int .i64 x] := by
 have hmin : IntKind.i64.min = -9223372036854775808 := rfl
 have hmax : IntKind.i64.max = 9223372036854775807 := rfl
 have hw : (Lit.int .i64 x).wf = true := by
  simp only [Lit.wf, Bool.and_eq_true, decide_eq_true_eq]
  omega
 unfold Program.keyLits
 simp [Tryz.underlying3, hw]
theorem lits_ref (d : Nat) (r : Rf) (h : RfOk r) : Tryz.prog.keyLits (d + 3) 37 (refC r).toList = some ((r.tx.map fun b => Lit.int .u8 b.toNat) ++ [Lit.int .i64 r.place]) := by
 have hl : (B8 r.tx).toList.length = 32 := by rw [Array.length_toList, B8_size, h.1]
 have e : (refC r).toList = (B8 r.tx).toList ++ [.int .i64 r.place] := by simp [refC]
 rw [e]
 unfold Program.keyLits
 simp only [Tryz.underlying37, pc_ref, List.length_append, hl, List.length_cons, List.length_nil]
 rw [if_pos ⟨trivial, by kernel_rfl⟩]
 simp only [List.mapM_cons, List.mapM_nil, dc26, pc_int, List.drop_zero, List.take_left' hl, List.drop_left' hl]
 rw [litsH d r.tx h.1]
 simp [lit_int (d + 1) r.place h.2.1 h.2.2]
theorem litR_inj {a b : Rf} (h : (a.tx.map fun b => Lit.int .u8 b.toNat) ++ [Lit.int .i64 a.place] = (b.tx.map fun b => Lit.int .u8 b.toNat) ++ [Lit.int .i64 b.place]) : a = b := by
 obtain ⟨h1, h2⟩ := List.append_inj' h rfl
 obtain ⟨ta, pa⟩ := a
 obtain ⟨tb, pb⟩ := b
 simp only at h1 h2
 have e1 : ta = tb := map_u8_inj h1
 have e2 : pa = pb := by simpa using h2
 rw [e1, e2]
instance : DecidableEq Rf := fun a b => decidable_of_iff (a.tx = b.tx ∧ a.place = b.place) ⟨fun ⟨h, k⟩ => by cases a; cases b; simp only at h k; rw [h, k], fun h => by rw [h]; exact ⟨rfl, rfl⟩⟩
theorem eq_ref (w : World) (a b : Rf) (ha : RfOk a) (hb : RfOk b) : (binOp .eql 37 (.agg (refC a)) (.agg (refC b))).run Tryz.prog w = .ok (.bool (decide (a = b))) w := by
 obtain ⟨r, hr, hi⟩ := run_equalIn_deep 9995 5 37 keyed_ref w 5 5 (.agg (refC a)) (.agg (refC b)) _ _ (formed_ref a ha.1) (formed_ref b hb.1) (lits_ref 2 a ha) (lits_ref 2 b hb)
 have e : r = decide (a = b) := by
  rw [Bool.eq_iff_iff, decide_eq_true_iff, hi]
  exact ⟨litR_inj, fun e => by rw [e]⟩
 subst e
 have hr2 : (Op.equalIn 10000 37 (.agg (refC a)) (.agg (refC b))).run Tryz.prog w = .ok (decide (a = b)) w := hr
 have he : (Op.equal 37 (.agg (refC a)) (.agg (refC b))).run Tryz.prog w = .ok (decide (a = b)) w := hr2
 simp [binOp, go_sem, he]
end Go.Proofs.YtilbbemdinpjcaaGreat.P
