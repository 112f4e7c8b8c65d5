/-
  TermReals' walk (6).
-/
import Derived.Test.YtilbbemdinpjcaaGreatJVt
import Derived.Shelf.LaysM
import Derived.Shelf.Strconv.Clone
import Derived.Test.YtilbbemdinpjcaaGreatProg
import Derived.Laws.Cover3
import Derived.Maps.AppendAt
import Derived.WalkSpells
import Derived.Laws.AppendOwnNone
import Derived.Laws.Rows
import Derived.Deep.RegionLaw
import Derived.Deep.AppendLies
import Derived.Lib.QuietBelow
namespace Go.Proofs.YtilbbemdinpjcaaGreat.P
set_option maxRecDepth 100000
open Go.RowKit Go.Sort

theorem chB {W U V : World} (h1 : Below W.heap.size W U) (h2 : Below U.heap.size U V) : Below W.heap.size W V := h1.trans (h2.mono h1.size)
theorem wpOp_unwanted {P : Program} {ops : Array Oper} {Q : Exit → Act → World → Prop} {i : Nat} {o : Oper} {a : Act} {w : World} {K : Act → World → Prop} (hi : ops[i]? = some o) (hw : Region.wanted o (yielded ops a.tmps) = false) (d : Tmp) (hd : o.dst = some d) (h : K (a.put (some d) undef) w) : wpOp P ops Q i K a w := by
  unfold wpOp
  rw [hi]
  show if Region.wanted o (yielded ops a.tmps) = true then _ else _
  rw [if_neg (by rw [hw]; simp), hd]
  exact h
theorem must_forms {f : FuncId} {args : Array Value} {U w : World} {b : Bool} (h : Calls Tryz.prog f args w fun e w' => Must b e ∧ Below U.heap.size U w') :
    Calls Tryz.prog f args w fun e w' => (∃ v, e = .returned v ∧ (v = .tuple #[] ∧ b = true ∧ Below U.heap.size U w')) ∨ (∃ c, e = .panicked c ∧ (b = false ∧ Fault (.panicked c) ∧ Below U.heap.size U w')) :=
  h.mono fun e w' k => by
    rcases k with ⟨⟨h1, rfl⟩ | ⟨h1, n, rfl⟩, h2⟩
    · exact .inl ⟨_, rfl, rfl, h1, h2⟩
    · exact .inr ⟨_, rfl, h1, ⟨n, rfl⟩, h2⟩
/-- An entry: the ref, the output. -/
structure En where
  r : Rf
  o : Ot
def enC (e : En) : Array Value := refC e.r ++ otC e.o
structure EnOk (w : World) (e : En) : Prop where
  r : RfOk e.r
  o : OtOk w e.o
theorem EnOk.below {w w' : World} {e : En} {B : Nat} (h : EnOk w e) (hb : Below B w w') (hB : w.heap.size ≤ B) : EnOk w' e := ⟨h.r, h.o.below hb hB⟩
theorem enC_size {w : World} {e : En} (h : EnOk w e) : (enC e).size = 102 := by
  unfold enC
  rw [Array.size_append, refC_size _ h.r.1, otC_size _ h.o.ah h.o.dh]
theorem enC_ref {w : World} {e : En} (_h : EnOk w e) (j : Nat) (v : Value) (hv : (refC e.r).toList[j]? = some v) : (enC e).toList[j]? = some v := by
  unfold enC
  rw [Array.toList_append, List.getElem?_append_left (List.getElem?_eq_some_iff.1 hv).1]
  exact hv
theorem enC_out {w : World} {e : En} (h : EnOk w e) (j : Nat) (v : Value) (hv : (otC e.o).toList[j]? = some v) : (enC e).toList[33 + j]? = some v := by
  have hl : (refC e.r).toList.length = 33 := by rw [Array.length_toList, refC_size _ h.r.1]
  unfold enC
  rw [Array.toList_append, List.getElem?_append_right (by omega), hl, Nat.add_sub_cancel_left]
  exact hv
def HasE (w : World) (g off : Nat) (es : List En) : Prop := ∀ (i : Nat) (e : En), es[i]? = some e → w.rangeAt g (off + i * 102) (enC e).toList ∧ EnOk w e
theorem HasE.below {B : Nat} {w w' : World} {g off : Nat} {es : List En} (h : HasE w g off es) (hb : Below B w w') (hg : g < B) (hB : w.heap.size ≤ B) : HasE w' g off es :=
  fun i e hi => ⟨fun j v hj => (hb.cell (p := ⟨g, off + i * 102 + j, none⟩) hg).trans ((h i e hi).1 j v hj), (h i e hi).2.below hb hB⟩
def RowE (w : World) (pa : Option Addr) (es : List En) : Prop := es.length ≤ maxLen ∧ (0 < es.length → ∃ g off, pa = some ⟨g, off, none⟩ ∧ g < w.heap.size ∧ HasE w g off es)
theorem RowE.below {B : Nat} {w w' : World} {pa : Option Addr} {es : List En} (h : RowE w pa es) (hb : Below B w w') (hB : w.heap.size ≤ B) : RowE w' pa es :=
  ⟨h.1, fun hl => by
    obtain ⟨g, off, e, hg, hh⟩ := h.2 hl
    exact ⟨g, off, e, Nat.lt_of_lt_of_le hg hb.size, hh.below hb (Nat.lt_of_lt_of_le hg hB) hB⟩⟩
/-- The entry at a place is right, and stands behind the one ahead of it. -/
def entB (es : List En) (i : Nat) : Bool := match es[i]? with
  | some e => rightRefB e.r && rightOB e.o && (match i with | 0 => true | j + 1 => match es[j]? with | some d => lessR d.r e.r | none => true)
  | none => true
def rightEB (es : List En) : Bool := (List.range es.length).all (entB es)
theorem ent_next {es : List En} {k : Nat} (h : ∀ i, i < k → entB es i = true) (hk : entB es k = true) : ∀ i, i < k + 1 → entB es i = true := fun i hi => by
  by_cases e : i = k
  · rw [e]; exact hk
  · exact h i (by omega)
theorem right_all {es : List En} (h : ∀ i, i < es.length → entB es i = true) : rightEB es = true := by
  unfold rightEB
  rw [List.all_eq_true]
  exact fun i hi => h i (List.mem_range.1 hi)
theorem right_none {es : List En} {k : Nat} (hk : k < es.length) (h : entB es k = false) : rightEB es = false := by
  rw [← Bool.not_eq_true]
  intro e
  unfold rightEB at e
  rw [List.all_eq_true] at e
  have := e k (List.mem_range.2 hk)
  rw [h] at this
  cases this
def zEn : Array Value := Array.replicate 32 (.int .u8 0) ++ #[.int .i64 0, .bool false] ++ Array.replicate 32 (.int .u8 0) ++ #[.int .i64 0, .slice none 0 0, .int .i64 0] ++ Array.replicate 32 (.int .u8 0) ++ #[.slice none 0 0]
theorem alloc_entry (w : World) : (Instr.alloc 81 true (.tuple #[])).run Tryz.prog w = .ok (.pointer (some ⟨w.heap.size, 0, none⟩)) (w.alloc (.cells zEn 81)) := by kernel_rfl
theorem info_entry : (Tryz.prog.info? 81).map (·.size) = some 102 := by kernel_rfl
theorem info_ref : (Tryz.prog.info? 37).map (·.size) = some 33 := by kernel_rfl
theorem enC_one (e : En) : (enC e).all (·.oneCell') = true := by
  unfold enC
  rw [Array.all_append, refC_one, otC_one]
  rfl
attribute [-go_sem] Instr.alloc
set_option maxHeartbeats 8000000 in
theorem rightE1_any (w : World) (p : Nat) (pa : Option Addr) (es : List En) (c : Nat) (hp : w.cell? ⟨p, 0, none⟩ = some (.slice pa es.length c)) (hpl : p < w.heap.size) (h : RowE w pa es) :
    Calls Tryz.prog 67 #[.pointer (some ⟨p, 0, none⟩)] w fun e w' => Must (rightEB es) e ∧ Below w.heap.size w w' := by
  have hal := alloc_entry
  obtain ⟨n, hn⟩ : ∃ n, n = es.length := ⟨_, rfl⟩
  have hni : (n : Int) ≤ 9223372036854775807 := by have := h.1; unfold maxLen at this; omega
  have HP : Hid (∀ V, Below w.heap.size w V → V.cell? ⟨p, 0, none⟩ = some (.slice pa n c)) := Lib.hid fun V hV => by rw [hn]; exact (hV.cell (p := ⟨p, 0, none⟩) hpl).trans hp
  have HN := Lib.hid (And.intro hn h)
  have c0 := HP.out w (Below.refl _ _)
  clear hp hpl h hn
  go_enter Tryz.func67, Tryz.ntmps67
  go_wp2_with fail
  clear c0
  go_loopw [5] (fun i W => ∃ k : Nat, k ≤ n ∧ i = .int .i64 k ∧ Below w.heap.size w W ∧ ∀ i, i < k → entB es i = true) (fun i _ => n - (intOf i).toNat)
  case atStart => exact ⟨0, Nat.zero_le _, rfl, Below.refl _ _, fun i hi => absurd hi (by omega)⟩
  case round =>
    obtain ⟨k, hk, rfl, hb, hall⟩ := hrel
    have m0 : (0 : Int) ≤ (k : Int) := by omega
    by_cases hlt : k < n
    · have m1 : (k : Int) < (n : Int) := by omega
      have hnn := HN.out.1
      obtain ⟨g, off, hpa, hg, hh⟩ := HN.out.2.2 (by omega)
      subst hpa
      obtain ⟨e, hke⟩ : ∃ e, es[k]? = some e := ⟨es[k]'(by omega), List.getElem?_eq_getElem _⟩
      have hE := hh.below hb hg (Nat.le_refl _) k e hke
      obtain ⟨ev, hev⟩ : ∃ v, v = enC e := ⟨_, rfl⟩
      have hes : ev.size = 102 := by rw [hev]; exact enC_size hE.2
      have he1 : ev.all (·.oneCell') = true := by rw [hev]; exact enC_one e
      have HE := Lib.hid (And.intro (show wr.rangeAt g (off + k * 102) ev.toList by rw [hev]; exact hE.1) (And.intro (show (Tryz.prog.info? 81).map (·.size) = some ev.toList.length by rw [Array.length_toList, hes]; exact info_entry) (And.intro (show (Tryz.prog.info? 81).map (·.size) = some ev.size by rw [hes]; exact info_entry) (And.intro hes he1))))
      have hL2 : Lies (wr.alloc (.cells ev 81)) wr.heap.size ev 81 := Lies.new _ _ _
      have hb2 : Below wr.heap.size wr (wr.alloc (.cells ev 81)) := (Below.refl _ _).alloc (Nat.le_refl _) _
      have HR := Lib.hid (And.intro hb (And.intro hlt hall))
      have HX := Lib.hid (And.intro hev (And.intro hke (And.intro hE.2 (And.intro hnn (And.intro hg hh)))))
      clear hes he1 hk hlt hall hev hke hE hnn hg hh hb
      go_upto_region 3 with (first
        | (refine wpList_load_mid rfl 81 _ rfl g (off + k * 102) rfl ev.toList _ HE.out.1 Tryz.underlying81 rfl HE.out.2.1 ?_)
        | (refine wpList_store_row rfl 81 _ _ rfl wr.heap.size ev rfl rfl 81 zEn (Lies.new wr zEn 81) HE.out.2.2.1 (by rw [HE.out.2.2.2.1]; kernel_rfl) HE.out.2.2.2.2 ?_))
      rw [World.setRow_alloc_new]
      generalize wr.alloc (.cells ev 81) = W2 at hL2 hb2 ⊢
      obtain ⟨b2, hb2e⟩ : ∃ b, b = wr.heap.size := ⟨_, rfl⟩
      rw [← hb2e] at hL2 ⊢
      clear hb2e
      have HB2 := Lib.hid hb2
      have hEk := HX.out.2.2.1.below hb2 (Nat.le_refl _)
      obtain ⟨rv, hrv⟩ : ∃ v, v = refC e.r := ⟨_, rfl⟩
      obtain ⟨ov, hov⟩ : ∃ v, v = otC e.o := ⟨_, rfl⟩
      obtain ⟨y1, hy1⟩ : ∃ b, b = rightRefB e.r := ⟨_, rfl⟩
      obtain ⟨y2, hy2⟩ : ∃ b, b = rightOB e.o := ⟨_, rfl⟩
      have HI := Lib.hid (And.intro (show (Tryz.prog.info? 37).map (·.size) = some rv.size by rw [hrv, refC_size _ hEk.r.1]; exact info_ref) (show (Tryz.prog.info? 35).map (·.size) = some ov.size by rw [hov, otC_size _ hEk.o.ah hEk.o.dh]; exact info_output))
      have K1 : Hid (∀ V, Calls Tryz.prog 68 #[.agg rv] V fun e w' => e = .returned (.bool y1) ∧ Below V.heap.size V w') := Lib.hid fun V => by rw [hrv, hy1]; exact rightRef_any V e.r hEk.r.1
      have K2 : Hid (∀ V, Below W2.heap.size W2 V → Calls Tryz.prog 13 #[.agg ov] V fun e w' => e = .returned (.bool y2) ∧ Below V.heap.size V w') := Lib.hid fun V hV => by rw [hov, hy2]; exact rightOutput_any V e.o (hEk.o.below hV (Nat.le_refl _))
      have HRG : Hid (∀ V, Below W2.heap.size W2 V → V.rangeAt b2 0 rv.toList ∧ V.rangeAt b2 33 ov.toList) := Lib.hid fun V hV => by
        have hl := hL2.below hV hL2.lt
        rw [HX.out.1] at hl
        refine ⟨fun j v hj => ?_, fun j v hj => ?_⟩
        · rw [Nat.zero_add]
          exact hl.cell j (by rw [← Array.getElem?_toList]; exact enC_ref hEk j v (by rw [← hrv]; exact hj))
        · exact hl.cell (33 + j) (by rw [← Array.getElem?_toList]; exact enC_out hEk j v (by rw [← hov]; exact hj))
      cases k with
      | zero =>
        as_aux_lemma =>
        have HG : Hid (((y1 && y2 && true) = true → entB es 0 = true) ∧ ((y1 && y2 && true) = false → rightEB es = false)) := Lib.hid (by
          have e0 : entB es 0 = (y1 && y2 && true) := by
            unfold entB
            rw [HX.out.2.1, hy1, hy2]
          refine ⟨fun h => by rw [e0]; exact h, fun h => right_none (k := 0) (by have := HR.out.2.1; have := HX.out.2.2.2.1; omega) (by rw [e0]; exact h)⟩)
        have HS : Hid (∀ V, Below W2.heap.size W2 V → V.rangeAt b2 0 rv.toList ∧ V.rangeAt b2 33 ov.toList) := HRG
        have hk0 : ((0 : Nat) : Int) = 0 := rfl
        clear hL2 hb2 hEk hrv hov hy1 hy2 HRG
        refine wp_region_held (S := Below W2.heap.size W2) (by kernel_rfl) ?_
        change wpAnyH _ _ _ _ _ 21 _ _ (World.drew W2)
        have hcur : Below W2.heap.size W2 W2.drew := (Below.refl _ _).drew
        refine tk 0 (.pointer (some ⟨b2, 0, none⟩)) 10 rfl rfl hcur ?_
        refine tk 1 (.agg rv) 11 rfl rfl hcur ?_ (by intro w' hS'; exact exec_loadM 37 (.tmp 10) rfl b2 0 rfl rv ((HS.out w' hS').1) Tryz.underlying37 rfl HI.out.1)
        refine tk 3 (.pointer (some ⟨b2, 33, none⟩)) 13 rfl rfl hcur ?_
        refine tk 4 (.agg ov) 14 rfl rfl hcur ?_ (by intro w' hS'; exact exec_loadM 35 (.tmp 13) rfl b2 33 rfl ov ((HS.out w' hS').2) Tryz.underlying35 rfl HI.out.2)
        refine tk 6 (.int .i64 ((0 : Nat) : Int)) 16 rfl rfl hcur ?_
        refine tk 7 (.bool true) 17 rfl rfl hcur ?_
        generalize W2.drew = V0 at hcur ⊢
        refine held_one (i := 2) (by kernel_rfl) _ rfl (wpOp_callG rfl (by rfl) 12 rfl 68 #[.agg rv] (by unfold execOp; simp [go_sem]) _ (ret_gro (K1.out _)) ?_)
        rintro _ U1 ⟨rfl, hn⟩
        have hcur := hcur.trans (hn.mono hcur.size)
        clear hn
        refine ⟨hcur, ?_⟩
        simp only [Act.put, List.setIfInBounds_toArray, List.set_cons_zero, List.set_cons_succ]
        refine held_one (i := 5) (by kernel_rfl) _ rfl (wpOp_callG rfl (by rfl) 15 rfl 13 #[.agg ov] (by unfold execOp; simp [go_sem]) _ (ret_gro (K2.out _ hcur)) ?_)
        rintro _ U2 ⟨rfl, hn⟩
        have hcur := hcur.trans (hn.mono hcur.size)
        clear hn
        refine ⟨hcur, ?_⟩
        simp only [Act.put, List.setIfInBounds_toArray, List.set_cons_zero, List.set_cons_succ]
        refine tk 8 (.bool true) 18 rfl rfl hcur ?_
        refine held_skip (i := 9) rfl 19 rfl (by kernel_rfl) (by kernel_rfl) (by kernel_rfl) (fun _ _ _ h => h) (by rfl) hcur _ rfl ?_
        simp only [Act.put, List.setIfInBounds_toArray, List.set_cons_zero, List.set_cons_succ]
        refine held_skip (i := 10) rfl 20 rfl (by kernel_rfl) (by kernel_rfl) (by kernel_rfl) (fun _ _ _ h => h) (by rfl) hcur _ rfl ?_
        simp only [Act.put, List.setIfInBounds_toArray, List.set_cons_zero, List.set_cons_succ]
        refine held_skip (i := 11) rfl 21 rfl (by kernel_rfl) (by kernel_rfl) (by kernel_rfl) (fun _ _ _ h => h) (by rfl) hcur _ rfl ?_
        simp only [Act.put, List.setIfInBounds_toArray, List.set_cons_zero, List.set_cons_succ]
        refine held_skip (i := 12) rfl 22 rfl (by kernel_rfl) (by kernel_rfl) (by kernel_rfl) (fun _ _ _ h => h) (by rfl) hcur _ rfl ?_
        simp only [Act.put, List.setIfInBounds_toArray, List.set_cons_zero, List.set_cons_succ]
        refine held_skip (i := 13) rfl 23 rfl (by kernel_rfl) (by kernel_rfl) (by kernel_rfl) (fun _ _ _ h => h) (by rfl) hcur _ rfl ?_
        simp only [Act.put, List.setIfInBounds_toArray, List.set_cons_zero, List.set_cons_succ]
        refine held_skip (i := 14) rfl 24 rfl (by kernel_rfl) (by kernel_rfl) (by kernel_rfl) (fun _ _ _ h => h) (by rfl) hcur _ rfl ?_
        simp only [Act.put, List.setIfInBounds_toArray, List.set_cons_zero, List.set_cons_succ]
        refine held_skip (i := 15) rfl 25 rfl (by kernel_rfl) (by kernel_rfl) (by kernel_rfl) (fun _ _ _ h => h) (by rfl) hcur _ rfl ?_
        simp only [Act.put, List.setIfInBounds_toArray, List.set_cons_zero, List.set_cons_succ]
        refine held_skip (i := 16) rfl 26 rfl (by kernel_rfl) (by kernel_rfl) (by kernel_rfl) (fun _ _ _ h => h) (by rfl) hcur _ rfl ?_
        simp only [Act.put, List.setIfInBounds_toArray, List.set_cons_zero, List.set_cons_succ]
        refine held_one (i := 17) (by kernel_rfl) _ rfl (wpOp_unwanted rfl (by rfl) 27 rfl ⟨hcur, ?_⟩)
        simp only [Act.put, List.setIfInBounds_toArray, List.set_cons_zero, List.set_cons_succ]
        refine tk 18 (.bool true) 28 rfl rfl hcur ?_
        refine held_one (i := 19) (by kernel_rfl) _ rfl (wpOp_valG rfl (by rfl) 29 rfl (v := .slice (some ⟨U2.heap.size, 0, none⟩) 3 3) (w' := U2.alloc (.cells #[.bool y1, .bool y2, .bool true] 4)) (by unfold execOp; simp [go_sem]) ⟨hcur.alloc hcur.size _, ?_⟩)
        simp only [Act.put, List.setIfInBounds_toArray, List.set_cons_zero, List.set_cons_succ]
        refine held_one (i := 20) (by kernel_rfl) _ rfl (wpOp_callP rfl (by rfl) 30 rfl 62 #[.slice (some ⟨U2.heap.size, 0, none⟩) 3 3] (by unfold execOp; simp [go_sem]) _ _ (must_forms (must3 U2 y1 y2 true)) ?_ ?_)
        · rintro _ U9 ⟨rfl, hy, hn⟩
          have hb9 : Below W2.heap.size W2 U9 := hcur.trans (hn.mono hcur.size)
          refine ⟨hb9, ?_⟩
          simp only [Act.put, List.setIfInBounds_toArray, List.set_cons_zero, List.set_cons_succ]
          refine held_done (by kernel_rfl) ?_
          have H9 := Lib.hid (And.intro hb9 hy)
          clear hcur hn hb9 hy
          go_wp2_with fail
          refine ⟨⟨0 + 1, HR.out.2.1, by go_num, chB HR.out.1 (chB HB2.out H9.out.1), ?_⟩, ?_⟩
          · exact ent_next HR.out.2.2 (HG.out.1 H9.out.2)
          · have := HR.out.2.1; simp [intOf]; omega
        · rintro ch U9 ⟨hy, hf, hn⟩
          have hb9 : Below W2.heap.size W2 U9 := hcur.trans (hn.mono hcur.size)
          exact ⟨rfl, .inr ⟨HG.out.2 hy, hf⟩, chB HR.out.1 (chB HB2.out hb9)⟩
      | succ m =>
        as_aux_lemma =>
        obtain ⟨d, hkd⟩ : ∃ d, es[m]? = some d := ⟨es[m]'(by have := HR.out.2.1; have := HX.out.2.2.2.1; omega), List.getElem?_eq_getElem _⟩
        obtain ⟨dv, hdv⟩ : ∃ v, v = refC d.r := ⟨_, rfl⟩
        obtain ⟨y3, hy3⟩ : ∃ b, b = lessR d.r e.r := ⟨_, rfl⟩
        have hbw : Below w.heap.size w W2 := chB HR.out.1 hb2
        have hdok := (HX.out.2.2.2.2.2 m d hkd).2
        have HG : Hid (((y1 && y2 && y3) = true → entB es (m + 1) = true) ∧ ((y1 && y2 && y3) = false → rightEB es = false)) := Lib.hid (by
          have e0 : entB es (m + 1) = (y1 && y2 && y3) := by
            unfold entB
            rw [HX.out.2.1, hy1, hy2, hy3]
            simp only [hkd]
          refine ⟨fun h => by rw [e0]; exact h, fun h => right_none (k := m + 1) (by have := HR.out.2.1; have := HX.out.2.2.2.1; omega) (by rw [e0]; exact h)⟩)
        have HD := Lib.hid (show (Tryz.prog.info? 37).map (·.size) = some dv.size by rw [hdv, refC_size _ hdok.r.1]; exact info_ref)
        have K3 : Hid (∀ V, Calls Tryz.prog 21 #[.agg dv, .agg rv] V fun e w' => e = .returned (.bool y3) ∧ Below V.heap.size V w') := Lib.hid fun V => by rw [hrv, hdv, hy3]; exact less_any V d.r e.r hdok.r.1 hEk.r.1
        have HS : Hid (∀ V, Below W2.heap.size W2 V → V.rangeAt b2 0 rv.toList ∧ V.rangeAt b2 33 ov.toList ∧ V.cell? ⟨p, 0, none⟩ = some (.slice (some ⟨g, off, none⟩) n c) ∧ V.rangeAt g (off + m * 102) dv.toList) := Lib.hid fun V hV => by
          have h1 := HRG.out V hV
          have h2 := HP.out V (chB hbw hV)
          have h3 := (HX.out.2.2.2.2.2.below (chB hbw hV) HX.out.2.2.2.2.1 (Nat.le_refl _)) m d hkd
          exact ⟨h1.1, h1.2, h2, fun j v hj => h3.1 j v (enC_ref h3.2 j v (by rw [← hdv]; exact hj))⟩
        have hk0 : ((((m + 1 : Nat) : Int)) == 0) = false := by simp; omega
        have hkm : IntKind.i64.wrap (((m + 1 : Nat) : Int) - 1) = (m : Int) := by rw [IntKind.wrap_i64]; omega
        have q0 : (0 : Int) ≤ (m : Int) := by omega
        have q1 : (m : Int) < (n : Int) := by omega
        obtain ⟨k, hkk⟩ : ∃ k, k = m + 1 := ⟨_, rfl⟩
        rw [← hkk] at hk0 hkm HR m0 m1 ⊢
        have HKK := Lib.hid hkk
        clear hL2 hb2 hEk hrv hov hy1 hy2 HRG hkd hdv hy3 hbw hdok hkk
        refine wp_region_held (S := Below W2.heap.size W2) (by kernel_rfl) ?_
        change wpAnyH _ _ _ _ _ 21 _ _ (World.drew W2)
        have hcur : Below W2.heap.size W2 W2.drew := (Below.refl _ _).drew
        refine tk 0 (.pointer (some ⟨b2, 0, none⟩)) 10 rfl rfl hcur ?_
        refine tk 1 (.agg rv) 11 rfl rfl hcur ?_ (by intro w' hS'; exact exec_loadM 37 (.tmp 10) rfl b2 0 rfl rv ((HS.out w' hS').1) Tryz.underlying37 rfl HI.out.1)
        refine tk 3 (.pointer (some ⟨b2, 33, none⟩)) 13 rfl rfl hcur ?_
        refine tk 4 (.agg ov) 14 rfl rfl hcur ?_ (by intro w' hS'; exact exec_loadM 35 (.tmp 13) rfl b2 33 rfl ov ((HS.out w' hS').2.1) Tryz.underlying35 rfl HI.out.2)
        refine tk 6 (.int .i64 (k : Int)) 16 rfl rfl hcur ?_
        refine tk 7 (.bool false) 17 rfl rfl hcur ?_ (by intro w' hS'; unfold execOp; simp [go_sem, hk0])
        generalize W2.drew = V0 at hcur ⊢
        refine held_one (i := 2) (by kernel_rfl) _ rfl (wpOp_callG rfl (by rfl) 12 rfl 68 #[.agg rv] (by unfold execOp; simp [go_sem]) _ (ret_gro (K1.out _)) ?_)
        rintro _ U1 ⟨rfl, hn⟩
        have hcur := hcur.trans (hn.mono hcur.size)
        clear hn
        refine ⟨hcur, ?_⟩
        simp only [Act.put, List.setIfInBounds_toArray, List.set_cons_zero, List.set_cons_succ]
        refine held_one (i := 5) (by kernel_rfl) _ rfl (wpOp_callG rfl (by rfl) 15 rfl 13 #[.agg ov] (by unfold execOp; simp [go_sem]) _ (ret_gro (K2.out _ hcur)) ?_)
        rintro _ U2 ⟨rfl, hn⟩
        have hcur := hcur.trans (hn.mono hcur.size)
        clear hn
        refine ⟨hcur, ?_⟩
        simp only [Act.put, List.setIfInBounds_toArray, List.set_cons_zero, List.set_cons_succ]
        refine tk 8 (.bool false) 18 rfl rfl hcur ?_
        refine tk 15 (.pointer (some ⟨b2, 0, none⟩)) 25 rfl rfl hcur ?_
        refine tk 9 (.slice (some ⟨g, off, none⟩) n c) 19 rfl rfl hcur ?_ (by intro w' hS'; have x := (HS.out w' hS').2.2.1; unfold execOp; simp [go_sem, x])
        refine tk 10 (.int .i64 (k : Int)) 20 rfl rfl hcur ?_
        refine tk 11 (.int .i64 (m : Int)) 21 rfl rfl hcur ?_ (by intro w' hS'; unfold execOp; simp [go_sem, hkm])
        refine tk 12 (.pointer (some ⟨g, off + m * 102, none⟩)) 22 rfl rfl hcur ?_ (by intro w' hS'; unfold execOp; simp [go_sem, q0, q1])
        refine tk 13 (.pointer (some ⟨g, off + m * 102, none⟩)) 23 rfl rfl hcur ?_
        refine tk 14 (.agg dv) 24 rfl rfl hcur ?_ (by intro w' hS'; exact exec_loadM 37 (.tmp 23) rfl g (off + m * 102) rfl dv ((HS.out w' hS').2.2.2) Tryz.underlying37 rfl HD.out)
        refine tk 16 (.agg rv) 26 rfl rfl hcur ?_ (by intro w' hS'; exact exec_loadM 37 (.tmp 25) rfl b2 0 rfl rv ((HS.out w' hS').1) Tryz.underlying37 rfl HI.out.1)
        refine held_one (i := 17) (by kernel_rfl) _ rfl (wpOp_callG rfl (by rfl) 27 rfl 21 #[.agg dv, .agg rv] (by unfold execOp; simp [go_sem]) _ (ret_gro (K3.out _)) ?_)
        rintro _ U3 ⟨rfl, hn⟩
        have hcur := hcur.trans (hn.mono hcur.size)
        clear hn
        refine ⟨hcur, ?_⟩
        simp only [Act.put, List.setIfInBounds_toArray, List.set_cons_zero, List.set_cons_succ]
        refine tk 18 (.bool y3) 28 rfl rfl hcur ?_
        refine held_one (i := 19) (by kernel_rfl) _ rfl (wpOp_valG rfl (by rfl) 29 rfl (v := .slice (some ⟨U3.heap.size, 0, none⟩) 3 3) (w' := U3.alloc (.cells #[.bool y1, .bool y2, .bool y3] 4)) (by unfold execOp; simp [go_sem]) ⟨hcur.alloc hcur.size _, ?_⟩)
        simp only [Act.put, List.setIfInBounds_toArray, List.set_cons_zero, List.set_cons_succ]
        refine held_one (i := 20) (by kernel_rfl) _ rfl (wpOp_callP rfl (by rfl) 30 rfl 62 #[.slice (some ⟨U3.heap.size, 0, none⟩) 3 3] (by unfold execOp; simp [go_sem]) _ _ (must_forms (must3 U3 y1 y2 y3)) ?_ ?_)
        · rintro _ U9 ⟨rfl, hy, hn⟩
          have hb9 : Below W2.heap.size W2 U9 := hcur.trans (hn.mono hcur.size)
          refine ⟨hb9, ?_⟩
          simp only [Act.put, List.setIfInBounds_toArray, List.set_cons_zero, List.set_cons_succ]
          refine held_done (by kernel_rfl) ?_
          have H9 := Lib.hid (And.intro hb9 hy)
          clear hcur hn hb9 hy
          go_wp2_with fail
          refine ⟨⟨k + 1, HR.out.2.1, by go_num, chB HR.out.1 (chB HB2.out H9.out.1), ?_⟩, ?_⟩
          · exact ent_next HR.out.2.2 (by rw [HKK.out]; exact HG.out.1 H9.out.2)
          · have := HR.out.2.1; have h2 := HKK.out; simp [intOf]; omega
        · rintro ch U9 ⟨hy, hf, hn⟩
          have hb9 : Below W2.heap.size W2 U9 := hcur.trans (hn.mono hcur.size)
          exact ⟨rfl, .inr ⟨HG.out.2 hy, hf⟩, chB HR.out.1 (chB HB2.out hb9)⟩
    · have m1 : ¬ (k : Int) < (n : Int) := by omega
      have HE := Lib.hid (And.intro hb (right_all (es := es) (fun i hi => hall i (by have := HN.out.1; omega))))
      clear hb hall hlt hk
      go_wp2_with fail
      go_end0
      exact ⟨.inl ⟨HE.out.2, rfl⟩, HE.out.1⟩
end Go.Proofs.YtilbbemdinpjcaaGreat.P
namespace Go.Proofs.YtilbbemdinpjcaaGreat.P
set_option maxRecDepth 100000
open Go.RowKit Go.Sort

theorem rightEntries_any (w : World) (pa : Option Addr) (es : List En) (c : Nat) (h : RowE w pa es) :
    Calls Tryz.prog 15 #[.slice pa es.length c] w fun e w' => e = .returned (.bool (rightEB es)) ∧ Below w.heap.size w w' := by
  have hmf : ∀ (fn : Fn) (first cap : Array Value) (w : World), (Instr.makeFunc fn first cap).run Tryz.prog w = .ok (.func fn first cap) w := fun _ _ _ _ => rfl
  have hL : Lies (w.alloc (.cells #[.slice pa es.length c] 38)) w.heap.size #[.slice pa es.length c] 38 := Lies.new _ _ _
  have hb0 : Below w.heap.size w (w.alloc (.cells #[.slice pa es.length c] 38)) := (Below.refl _ _).alloc (Nat.le_refl _) _
  have hm := met_any (w.alloc (.cells #[.slice pa es.length c] 38)) 67 #[.pointer (some ⟨w.heap.size, 0, none⟩)] (rightEB es) (callFn _ Tryz.func67 (by kernel_rfl) rfl _) (fun w1 hw1 => rightE1_any w1 w.heap.size pa es c ((hL.below hw1 hL.lt).cell 0 rfl) (Nat.lt_of_lt_of_le hL.lt hw1.size) (h.below (hb0.trans (hw1.mono hb0.size)) (Nat.le_refl _)))
  have HM := Lib.hid (And.intro hm hb0)
  obtain ⟨b, hb⟩ : ∃ b, b = rightEB es := ⟨_, rfl⟩
  rw [← hb] at HM ⊢
  clear hm hb0 hL h hb
  go_enter Tryz.func15, Tryz.ntmps15
  go_wp2_with fail
  refine HM.out.1.mono ?_
  rintro e U ⟨rfl, hb⟩
  have HU := Lib.hid (HM.out.2.trans (hb.mono HM.out.2.size))
  clear hb
  go_wp2_with fail
  go_ret
  exact ⟨rfl, HU.out⟩
/-- Entries that are right rise. -/
theorem right_rise {es : List En} (h : rightEB es = true) {i : Nat} {a b : En} (ha : es[i]? = some a) (hb : es[i + 1]? = some b) : lessR a.r b.r = true := by
  unfold rightEB at h
  rw [List.all_eq_true] at h
  have h1 := h (i + 1) (List.mem_range.2 (List.getElem?_eq_some_iff.1 hb).1)
  unfold entB at h1
  rw [hb] at h1
  simp only [ha, Bool.and_eq_true] at h1
  exact h1.2
end Go.Proofs.YtilbbemdinpjcaaGreat.P
namespace Go.Proofs
open Go.Shelf
end Go.Proofs
namespace Go.Proofs.YtilbbemdinpjcaaGreat.T
open Go.RowKit

def cellsL (xs : List Nd) : List Value := xs.flatMap fun x => x.cells.toList
theorem cellsL_cons (x : Nd) (xs : List Nd) : cellsL (x :: xs) = x.cells.toList ++ cellsL xs := rfl
theorem cellsL_app (xs ys : List Nd) : cellsL (xs ++ ys) = cellsL xs ++ cellsL ys := by simp [cellsL]
theorem cells_len (x : Nd) : x.cells.toList.length = 5 := rfl
theorem cellsL_len : ∀ xs : List Nd, (cellsL xs).length = xs.length * 5
  | [] => rfl
  | x :: xs => by rw [cellsL_cons, List.length_append, cells_len, cellsL_len xs, List.length_cons]; omega
theorem cellsL_get : ∀ (xs : List Nd) (j : Nat) (h : j < xs.length) (i : Nat), i < 5 → (cellsL xs)[j * 5 + i]? = xs[j].cells[i]?
  | x :: xs, 0, _, i, hi => by
    rw [cellsL_cons, List.getElem?_append_left (by rw [cells_len]; omega)]
    simp
  | x :: xs, j + 1, h, i, hi => by
    rw [cellsL_cons, List.getElem?_append_right (by rw [cells_len]; omega), cells_len, show (j + 1) * 5 + i - 5 = j * 5 + i by omega]
    exact cellsL_get xs j (by simpa using h) i hi
theorem cells_one (x : Nd) : ∀ u ∈ x.cells.toList, u.oneCell' = true := by
  intro u hu
  simp only [Nd.cells, List.mem_cons, List.not_mem_nil, or_false] at hu
  rcases hu with rfl | rfl | rfl | rfl | rfl <;> rfl
theorem cellsL_one (xs : List Nd) : ∀ u ∈ cellsL xs, u.oneCell' = true := by
  intro u hu
  obtain ⟨x, -, h2⟩ := List.mem_flatMap.1 hu
  exact cells_one x u h2
theorem cells_lt (x : Nd) {i : Nat} {v : Value} (h : x.cells[i]? = some v) : i < 5 := (Array.getElem?_eq_some_iff.1 h).1
/-- Nodes in memory of the call's own. -/
def OwnT (w : World) (base : Nat) (v : Value) (xs : List Nd) : Prop := w.ownsRow base 72 5 v xs.length (cellsL xs)
theorem NAt.cellsL {w : World} {g off : Nat} {xs : List Nd} (h : NAt w g off xs) : ∀ j u, (cellsL xs)[j]? = some u → w.cell? ((⟨g, off, none⟩ : Addr).add j) = some u := fun j u hu => by
  have hl := (List.getElem?_eq_some_iff.1 hu).1
  rw [cellsL_len] at hl
  have e : j = j / 5 * 5 + j % 5 := by omega
  have hj : j / 5 < xs.length := by omega
  rw [e, cellsL_get xs (j / 5) hj (j % 5) (by omega)] at hu
  have := h.2 (j / 5) hj (j % 5) u hu
  rw [Addr.add_lit, e]
  rw [show off + (j / 5 * 5 + j % 5) = off + j / 5 * 5 + j % 5 by omega]
  exact this
theorem OwnT.form {w : World} {base : Nat} {v : Value} {xs : List Nd} (h : OwnT w base v xs) : (v = .slice none 0 0 ∧ xs = []) ∨ ∃ g cap, v = .slice (some ⟨g, 0, none⟩) xs.length cap ∧ base ≤ g ∧ xs.length ≤ cap ∧ cap ≤ maxLen ∧ NAt w g 0 xs ∧ (∀ j, j < xs.length * 5 → w.frozen? ⟨g, j, none⟩ = false) := by
  rcases h.2 with ⟨h1, h2⟩ | ⟨g, cap, cur, h1, h2, h3, h4, h5, h6, h7⟩
  · exact .inl ⟨h1, List.eq_nil_of_length_eq_zero h2⟩
  · refine .inr ⟨g, cap, h1, h2, h4, h5, ⟨(Array.getElem?_eq_some_iff.1 h3).1, fun j hj i x hx => ?_⟩, fun j _ => Lies.free (cs := cur) (t := 72) h3 j⟩
    have hi := cells_lt _ hx
    have h8 : (cellsL xs)[j * 5 + i]? = some x := by rw [cellsL_get xs j hj i hi]; exact hx
    rw [← h7, List.getElem?_take, if_pos (by omega)] at h8
    rw [show 0 + j * 5 + i = j * 5 + i by omega]
    exact Lies.cell (cs := cur) (t := 72) h3 (j * 5 + i) (by simpa using h8)
theorem OwnT.tat {w : World} {base : Nat} {a : Option Addr} {n c : Nat} {xs : List Nd} (h : OwnT w base (.slice a n c) xs) (hl : xs.length ≤ 1000000) (hk : ∀ x ∈ xs, x.kids ≤ 9223372036854775807) : TAt w a xs ∧ n = xs.length ∧ n ≤ c := by
  rcases h.form with ⟨h1, h2⟩ | ⟨g, cap, h1, h2, h3, h4, h5, -⟩
  · cases h1
    subst h2
    exact ⟨⟨fun h => by simp at h, hl, hk⟩, rfl, Nat.le_refl _⟩
  · cases h1
    exact ⟨⟨fun _ => ⟨g, 0, rfl, h5⟩, hl, hk⟩, rfl, h3⟩
theorem OwnT.kept {w w' : World} {base : Nat} {v : Value} {xs : List Nd} (h : OwnT w base v xs) (hb : Below w.heap.size w w') : OwnT w' base v xs := by
  refine ⟨h.1, ?_⟩
  rcases h.2 with hn | ⟨g, cap, cur, h1, h2, h3, h4⟩
  · exact .inl hn
  · exact .inr ⟨g, cap, cur, h1, h2, (hb.block g (Array.getElem?_eq_some_iff.1 h3).1).trans h3, h4⟩
theorem setCell_self {w : World} {g off : Nat} {v : Value} (h : w.cell? ⟨g, off, none⟩ = some v) : w.setCell ⟨g, off, none⟩ v = w := by
  have e : (w.setCell ⟨g, off, none⟩ v).heap = w.heap := by
    unfold World.setCell
    apply Array.ext
    · simp
    · intro i h1 h2
      simp only
      rw [Array.getElem_modify]
      split
      · rename_i hi
        subst hi
        unfold World.cell? at h
        simp only [Array.getElem?_eq_getElem h2] at h
        cases hg : w.heap[g] with
        | cells c t f =>
          rw [hg] at h
          simp at h
          simp
          apply Array.ext
          · simp
          · intro k k1 k2
            rw [Array.getElem_setIfInBounds (by simpa using k1)]
            split
            · rename_i hk
              subst hk
              rw [Array.getElem?_eq_getElem k2] at h
              exact (Option.some.inj h).symm
            · rfl
        | _ => rfl
      · rfl
  show ({ w with heap := (w.setCell ⟨g, off, none⟩ v).heap } : World) = w
  rw [e]
theorem info32 : (Tryz.prog.info? 72).map (fun i => (i.zero, i.size, i.bytes)) = some (some (.agg #[.int .i64 0, .int .i64 0, .int .u64 0, .string ⟨#[]⟩, .int .i64 0]), 5, 48) := by kernel_rfl
theorem nodes_nil (w : World) (a : Option Addr) (l c : Nat) : (binOp .eql 22 (.slice a l c) (.slice none 0 0)).run Tryz.prog w = .ok (.bool a.isNone) w := Lib.run_eql_slice_nil w _ _ a l c 0 0 Tryz.underlying22
def TxtIn (xs : List Nd) : Prop := ∀ x ∈ xs, x.txt.size ≤ 281474976710656
end Go.Proofs.YtilbbemdinpjcaaGreat.T
namespace Go.Proofs.YtilbbemdinpjcaaGreat.T
open Go.RowKit

theorem grownT_refl (w : World) (o : Option Nat) : w.grownBy w o := ⟨rfl, rfl, rfl, Nat.le_refl _, fun _ _ _ => rfl⟩
/-- Nodes that are read: nothing, or wherever they lie. -/
def SrcT (w : World) (bv : Value) (xs : List Nd) : Prop := (bv = .slice none 0 0 ∧ xs = []) ∨ ∃ ad c, bv = .slice (some ad) xs.length c ∧ ∀ j u, (cellsL xs)[j]? = some u → w.cell? (ad.add j) = some u
theorem OwnT.src {w : World} {B : Nat} {v : Value} {xs : List Nd} (h : OwnT w B v xs) : SrcT w v xs := by
  rcases h.form with h1 | ⟨g, cap, h1, -, -, -, h5, -⟩
  · exact .inl h1
  · exact .inr ⟨_, cap, h1, h5.cellsL⟩
theorem OwnT.mono {w : World} {B B' : Nat} {v : Value} {xs : List Nd} (h : OwnT w B v xs) (hB : B' ≤ B) : OwnT w B' v xs := by
  refine ⟨h.1, ?_⟩
  rcases h.2 with hn | ⟨g, cap, cur, h1, h2, h3⟩
  · exact .inl hn
  · exact .inr ⟨g, cap, cur, h1, by omega, h3⟩
theorem OwnT.above {w : World} {B : Nat} {v : Value} {xs : List Nd} (h : OwnT w B v xs) {k : Nat} (hk : v.ownBlock = some k) : B ≤ k := by
  rcases h.2 with ⟨h1, -⟩ | ⟨g, cap, cur, h1, h2, -⟩
  · rw [h1] at hk; cases hk
  · rw [h1] at hk
    have : g = k := Option.some.inj hk
    omega
theorem OwnT.isSlice {w : World} {B : Nat} {v : Value} {xs : List Nd} (h : OwnT w B v xs) : ∃ a n c, v = .slice a n c := by
  rcases h.form with ⟨h1, -⟩ | ⟨g, cap, h1, -⟩
  · exact ⟨_, _, _, h1⟩
  · exact ⟨_, _, _, h1⟩
theorem OwnT.setRow {w : World} {B : Nat} {v : Value} {xs : List Nd} (h : OwnT w B v xs) (k : Nat) (cs : Array Value) (hk : k < B) : OwnT (w.setRow k cs) B v xs := by
  refine ⟨h.1, ?_⟩
  rcases h.2 with hn | ⟨g, cap, cur, h1, h2, h3, h4⟩
  · exact .inl hn
  · exact .inr ⟨g, cap, cur, h1, h2, (setRow_other w k g cs (by omega)).trans h3, h4⟩
theorem wpList_append_T {ops : Array Oper} {rest : List Oper} {o : Oper} {a : Act} {w : World} {Q : Exit → Act → World → Prop} (hgd : o.guard = none) (s x : Operand)
    (ho : o.op = .call { callee := .builtin .append, args := #[s, x], argTypes := #[22, 22] }) (B : Nat) (v bv : Value) (ys xs : List Nd) (hs : a.eval s = v) (hown : OwnT w B v ys) (hx : a.eval x = bv) (hsrc : SrcT w bv xs) (hlen : ys.length + xs.length ≤ 1000000) (hB : B ≤ w.heap.size)
    (h : ∀ v' w', OwnT w' B v' (ys ++ xs) → w.grownBy w' v.ownBlock → (v'.ownBlock = v.ownBlock ∨ v'.ownBlock = some w.heap.size) → wpList Tryz.prog ops Q rest (a.put o.dst v') w') : wpList Tryz.prog ops Q (o :: rest) a w := by
  obtain ⟨i0, hi0, hz0, hz1, hz2⟩ := info_parts info32
  rcases hsrc with ⟨rfl, rfl⟩ | ⟨ad, c, rfl, hsrc⟩
  · refine wpList_append_own_none hgd s x 22 ho B 72 i0 5 Tryz.underlying22 hi0 v ys.length _ hs hown hx ?_
    exact h v w (by rw [List.append_nil]; exact hown) (grownT_refl w _) (.inl rfl)
  · refine wpList_append_own_at _ hgd s x 22 ho B 72 i0 (.agg #[.int .i64 0, .int .i64 0, .int .u64 0, .string ⟨#[]⟩, .int .i64 0]) 5 48 Tryz.underlying22 hi0 hz0 hz1 hz2 rfl (by decide) v ys.length _ hs hown ad xs.length c (cellsL xs) hx (cellsL_len xs) hsrc (cellsL_one xs) (by unfold maxLen; omega) (by omega) hB ?_
    intro v' w' h1 h2 _ h3
    exact h v' w' (by unfold OwnT; rw [List.length_append, cellsL_app]; exact h1) h2 h3
/-- Terms by their slices. -/
structure TK where
  a : Option Addr
  c : Nat
  xs : List Nd
def TK.v (t : TK) : Value := .slice t.a t.xs.length t.c
def TsAt (w : World) (ad : Option Addr) (l : List TK) : Prop := (0 < l.length → ∃ g off, ad = some ⟨g, off, none⟩ ∧ g < w.heap.size ∧ ∀ j (h : j < l.length), w.cell? ⟨g, off + j, none⟩ = some l[j].v) ∧ ∀ t ∈ l, TAt w t.a t.xs ∧ t.xs.length ≤ t.c ∧ TxtIn t.xs
theorem TsAt.below {B : Nat} {w w' : World} {ad : Option Addr} {l : List TK} (h : TsAt w ad l) (hb : Below B w w') (hB : w.heap.size ≤ B) : TsAt w' ad l :=
  ⟨fun h0 => by
    obtain ⟨g, off, h1, h2, h3⟩ := h.1 h0
    exact ⟨g, off, h1, Nat.lt_of_lt_of_le h2 hb.size, fun j hj => (hb.cell (p := ⟨g, off + j, none⟩) (Nat.lt_of_lt_of_le h2 hB)).trans (h3 j hj)⟩, fun t ht => ⟨(h.2 t ht).1.below hb hB, (h.2 t ht).2⟩⟩
/-- A node above terms. -/
def joinL (n : Nd) (ls : List (List Nd)) : List Nd := { n with kids := (ls.length : Int) } :: ls.flatten
theorem joinL_take {n : Nd} {l : List TK} {k : Nat} (hk : k < l.length) : ({ n with kids := (l.length : Int) } :: ((l.take k).map TK.xs).flatten) ++ l[k].xs = { n with kids := (l.length : Int) } :: ((l.take (k + 1)).map TK.xs).flatten := by
  rw [List.take_succ_eq_append_getElem hk]
  simp only [List.map_append, List.map_cons, List.map_nil, List.flatten_append, List.flatten_cons, List.flatten_nil, List.append_nil, List.cons_append]
theorem joinL_le {l : List TK} (k : Nat) : ((l.take k).map TK.xs).flatten.length ≤ (l.map TK.xs).flatten.length := by
  have e : l = l.take k ++ l.drop k := (List.take_append_drop k l).symm
  have : (l.map TK.xs).flatten = ((l.take k).map TK.xs).flatten ++ ((l.drop k).map TK.xs).flatten := by
    rw [← List.flatten_append, ← List.map_append, ← e]
  rw [this, List.length_append]
  omega
theorem info24 : (Tryz.prog.info? 24).map (·.size) = some 1 := by kernel_rfl
end Go.Proofs.YtilbbemdinpjcaaGreat.T
namespace Go.Proofs.YtilbbemdinpjcaaGreat.T
open Go.RowKit

theorem step_append_T {ops : Array Oper} {o : Oper} {a : Act} {w : World} {K : Act → World → Prop} {Q : Exit → Act → World → Prop} {E : Prop} (hgd : o.guard = none) (s x : Operand)
    (ho : o.op = .call { callee := .builtin .append, args := #[s, x], argTypes := #[22, 22] }) (B : Nat) (v bv : Value) (ys xs : List Nd) (hs : a.eval s = v) (hown : OwnT w B v ys) (hx : a.eval x = bv) (hsrc : SrcT w bv xs) (hlen : ys.length + xs.length ≤ 1000000) (hB : B ≤ w.heap.size)
    (h : ∀ a' n' c' w', OwnT w' B (.slice a' n' c') (ys ++ xs) → w.grownBy w' v.ownBlock → ((Value.slice a' n' c').ownBlock = v.ownBlock ∨ (Value.slice a' n' c').ownBlock = some w.heap.size) → K (a.put o.dst (.slice a' n' c')) w') :
    if Region.wanted o (yielded ops a.tmps) = true then Oper.wp Tryz.prog o a w K Q else E := by
  have hw : Region.wanted o (yielded ops a.tmps) = true := by simp [Region.wanted, hgd]
  rw [if_pos hw]
  obtain ⟨i0, hi0, hz0, hz1, hz2⟩ := info_parts info32
  have key : ∃ v' w', (Builtin.append_ #[22, 22] o.type #[v, bv]).run Tryz.prog w = .ok v' w' ∧ OwnT w' B v' (ys ++ xs) ∧ w.grownBy w' v.ownBlock ∧ (v'.ownBlock = v.ownBlock ∨ v'.ownBlock = some w.heap.size) := by
    rcases hsrc with ⟨rfl, rfl⟩ | ⟨ad, c, rfl, hsrc⟩
    · refine ⟨v, w, run_append_owned_none (P := Tryz.prog) (w := w) B 22 o.type 72 i0 5 Tryz.underlying22 hi0 v ys.length _ hown, by rw [List.append_nil]; exact hown, grownT_refl w _, .inl rfl⟩
    · obtain ⟨v', w', hr, h2, h3, _, h5⟩ := run_append_own_at (P := Tryz.prog) w B 22 o.type 72 i0 (.agg #[.int .i64 0, .int .i64 0, .int .u64 0, .string ⟨#[]⟩, .int .i64 0]) 5 48 Tryz.underlying22 hi0 hz0 hz1 hz2 rfl (by decide) v ys.length _ hown ad xs.length c (cellsL xs) (cellsL_len xs) hsrc (cellsL_one xs) (by unfold maxLen; omega) (by omega) hB
      exact ⟨v', w', hr, by unfold OwnT; rw [List.length_append, cellsL_app]; exact h2, h3, h5⟩
  obtain ⟨v', w', hr, h2, h3, h5⟩ := key
  obtain ⟨a', n', c', rfl⟩ := h2.isSlice
  unfold Oper.wp execOp
  simp only [ho, resolve, invoke, builtin, Sem.run_bind, Sem.run_pure, Result.andThen_ok, List.map_toArray, List.map_cons, List.map_nil, hs, hx, hr]
  exact h a' n' c' w' h2 h3 h5
theorem OwnT.setCell {w : World} {B : Nat} {v : Value} {xs : List Nd} (h : OwnT w B v xs) (ad : Addr) (x : Value) (hk : v.ownBlock ≠ some ad.block) : OwnT (w.setCell ad x) B v xs := by
  refine ⟨h.1, ?_⟩
  rcases h.2 with hn | ⟨g, cap, cur, h1, h2, h3, h4⟩
  · exact .inl hn
  · refine .inr ⟨g, cap, cur, h1, h2, (heap_setCell_other w ad g x (fun e => hk ?_)).trans h3, h4⟩
    rw [h1, ← e]; rfl
theorem Below.setCellAt {B : Nat} {a w : World} (h : Below B a w) {ad : Addr} (v : Value) (hB : B ≤ ad.block) : Below B a (w.setCell ad v) := h.setCell hB v
def NilOk (l : List TK) : Prop := ∀ t ∈ l, t.a = none → t.c = 0
theorem TAt.src {w : World} {t : TK} (h : TAt w t.a t.xs) (h0 : t.a = none → t.c = 0) : SrcT w t.v t.xs := by
  obtain ⟨a, c, xs⟩ := t
  cases a with
  | none =>
    have hn : xs = [] := by
      rcases Nat.eq_zero_or_pos xs.length with h1 | h1
      · exact List.eq_nil_of_length_eq_zero h1
      · obtain ⟨g, off, h2, -⟩ := h.1 h1
        cases h2
    simp only at h0 hn ⊢
    subst hn
    rw [show c = 0 from h0 trivial]
    exact .inl ⟨rfl, rfl⟩
  | some ad =>
    refine .inr ⟨ad, c, rfl, fun j u hu => ?_⟩
    simp only at hu h
    have h1 : 0 < xs.length := by
      have := (List.getElem?_eq_some_iff.1 hu).1
      rw [cellsL_len] at this
      omega
    obtain ⟨g, off, h2, h3⟩ := h.1 h1
    cases h2
    exact h3.cellsL j u hu
theorem OwnT.drew {w : World} {B : Nat} {v : Value} {xs : List Nd} (h : OwnT w B v xs) : OwnT w.drew B v xs := h
theorem SrcT.drew {w : World} {v : Value} {xs : List Nd} (h : SrcT w v xs) : SrcT w.drew v xs := h
end Go.Proofs.YtilbbemdinpjcaaGreat.T
namespace Go.Proofs.YtilbbemdinpjcaaGreat.T
open Go.RowKit

/-- A term is told: these nodes, in memory that stays. -/
def TermR (w : World) (xs : List Nd) (e : Ending) (w' : World) : Prop := ∃ t : TK, t.xs = xs ∧ e = .returned (.agg #[t.v]) ∧ TAt w' t.a t.xs ∧ t.xs.length ≤ t.c ∧ (t.a = none → t.c = 0) ∧ Below w.heap.size w w'
theorem one_node (w : World) (n : Nd) (hk : n.kids ≤ 9223372036854775807) (g : Nat) (h : Lies w g n.cells 72) : TAt w (some ⟨g, 0, none⟩) [n] :=
  ⟨fun _ => ⟨g, 0, rfl, h.lt, fun j hj i v hv => by
    obtain rfl : j = 0 := by simpa using hj
    rw [show 0 + 0 * 5 + i = i by omega]
    exact h.cell i hv⟩, by simp, fun x hx => by obtain rfl := List.mem_singleton.1 hx; exact hk⟩
theorem made_term {w : World} (n : Nd) (hk : n.kids ≤ 9223372036854775807) {e : Ending} {w' : World} (g : Nat) (he : e = .returned (.agg #[.slice (some ⟨g, 0, none⟩) 1 1])) (h : Lies w' g n.cells 72) (hb : Below w.heap.size w w') : TermR w [n] e w' :=
  ⟨⟨some ⟨g, 0, none⟩, 1, [n]⟩, rfl, he, one_node w' n hk g h, Nat.le_refl _, (fun h => by cases h), hb⟩
/-- What joins hand out is a term. -/
theorem join_term {w w' : World} {v : Value} {n : Nd} {ls : List (List Nd)} (h : OwnT w' w.heap.size v (joinL n ls)) (hl : 1 + ls.flatten.length ≤ 1000000) (hm : ls.length ≤ 1000000) (hk : ∀ xs ∈ ls, ∀ x ∈ xs, x.kids ≤ 9223372036854775807) (hb : Below w.heap.size w w') :
    TermR w (joinL n ls) (.returned (.agg #[v])) w' := by
  obtain ⟨a, m, c, rfl⟩ := h.isSlice
  have hll : (joinL n ls).length ≤ 1000000 := by simp only [joinL, List.length_cons]; omega
  have hkk : ∀ x ∈ joinL n ls, x.kids ≤ 9223372036854775807 := by
    intro x hx
    simp only [joinL, List.mem_cons, List.mem_flatten] at hx
    rcases hx with rfl | ⟨xs, h1, h2⟩
    · simp only; omega
    · exact hk xs h1 x h2
  obtain ⟨h1, h2, h3⟩ := h.tat hll hkk
  refine ⟨⟨a, c, joinL n ls⟩, rfl, by unfold TK.v; rw [h2], h1, by rw [← h2]; exact h3, fun e => ?_, hb⟩
  simp only at e
  subst e
  rcases h.form with ⟨h4, -⟩ | ⟨g, cap, h4, -⟩
  · cases h4; rfl
  · cases h4
end Go.Proofs.YtilbbemdinpjcaaGreat.T
namespace Go.Proofs.YtilbbemdinpjcaaGreat.T
open Go.RowKit

abbrev nN (n : Int) : Nd := ⟨1, n, 0, ⟨#[]⟩, 0⟩
abbrev nB (s : ByteArray) : Nd := ⟨2, 0, 0, s, 0⟩
abbrev nR (b : Nat) : Nd := ⟨3, 0, b, ⟨#[]⟩, 0⟩
abbrev nL : Nd := ⟨4, 0, 0, ⟨#[]⟩, 0⟩
theorem ex_right : rightB (joinL nL [[nN 1], [nB ⟨#[97, 98]⟩]]) = true := by decide +kernel
theorem ex_deep : deepT (joinL nL [[nN 1], [nB ⟨#[97, 98]⟩]]) = 2 := by decide +kernel
theorem ex_real : ordT [nR 9223372036854775808] [nR 0] = -1 := by decide +kernel
theorem ex_kind : ordT [nN 4611686018427387904] [nB ⟨#[]⟩] = -1 := by decide +kernel
theorem ex_more : ordT (joinL nL [[nN 1]]) (joinL nL [[nN 1], [nN 1]]) = -1 := by decide +kernel
/-- Terms in a row that was just made. -/
theorem row_terms (w : World) (l : List TK) (h : ∀ t ∈ l, TAt w t.a t.xs ∧ t.xs.length ≤ t.c ∧ TxtIn t.xs) : TsAt (w.alloc (.cells (l.map TK.v).toArray 24)) (some ⟨w.heap.size, 0, none⟩) l :=
  ⟨fun _ => ⟨w.heap.size, 0, rfl, by simp, fun j hj => by
    rw [Nat.zero_add]
    exact (Lies.new w _ 24).cell j (by simp [hj])⟩, fun t ht => ⟨(h t ht).1.below ((Below.refl _ w).alloc (Nat.le_refl _) _) (Nat.le_refl _), (h t ht).2⟩⟩

theorem TermR.open {w : World} {xs : List Nd} {e : Ending} {w' : World} (h : TermR w xs e w') : ∃ a c, e = .returned (.agg #[.slice a xs.length c]) ∧ TAt w' a xs ∧ xs.length ≤ c ∧ (a = none → c = 0) ∧ Below w.heap.size w w' := by
  obtain ⟨⟨a, c, xs'⟩, rfl, h1, h2, h3, h4, h5⟩ := h
  exact ⟨a, c, h1, h2, h3, h4, h5⟩
theorem txt_small {xs : List Nd} (h : ∀ x ∈ xs, x.txt.size ≤ 200) : TxtIn xs := fun x hx => Nat.le_trans (h x hx) (by omega)
theorem neg1 : ((-1 : Int) == -1) = true := rfl
end Go.Proofs.YtilbbemdinpjcaaGreat.T
namespace Go.Proofs.YtilbbemdinpjcaaGreat.T
open Go.RowKit Ieee

theorem canon_lt (a : Nat) (ha : a < 2 ^ 64) : canonB a < 2 ^ 64 := by
  unfold canonB
  split
  · decide
  · exact ha
theorem leaf_fo (x : Nd) (h : x.kids = 0) : [x] = (Fo.cons x .nil .nil).flat := by
  obtain ⟨a, b, c, d, e⟩ := x
  simp only at h
  subst h
  rfl
theorem leaf_inO (x : Nd) (h : x.kids = 0) : inO [x] = true := by rw [leaf_fo x h]; exact inO_fo _ rfl
theorem leaf_deep (x : Nd) (h : x.kids = 0) : deepT [x] = 1 := by rw [leaf_fo x h, deep_fo _ rfl]; rfl
theorem leaf_right (x : Nd) (h : x.kids = 0) : rightB [x] = kindB [x] (endsT [x]) 0 x := by
  unfold rightB fitsB
  rw [leaf_inO x h, leaf_deep x h]
  simp [kindsB, List.range, List.range.loop]
theorem leaf_ord (x y : Nd) (hx : x.kids = 0) (hy : y.kids = 0) (wx : x.bits < 2 ^ 64) (wy : y.bits < 2 ^ 64) : ordT [x] [y] = partB x y := by
  rw [leaf_fo x hx, leaf_fo y hy, ord_fo _ _ rfl rfl ?_ ?_]
  · simp only [Fo.cmp]
    by_cases z : partB x y = 0
    · rw [ite_z z, z]; rfl
    · rw [ite_nz z]
  · rw [← leaf_fo x hx]; intro z hz; obtain rfl := List.mem_singleton.1 hz; exact wx
  · rw [← leaf_fo y hy]; intro z hz; obtain rfl := List.mem_singleton.1 hz; exact wy
theorem real_right (a : Nat) : rightB [nR a] = decide (canonB a = a) := by
  rw [leaf_right _ rfl]
  simp [kindB, justB]
theorem real_part (x y : Nat) : partB (nR x) (nR y) = orderB x y := by
  unfold partB
  simp only [cmpI_self]
  rw [ite_z rfl, ite_z rfl]
  by_cases z : orderB x y = 0
  · rw [ite_z z, z]; exact isO_L.self _
  · rw [ite_nz z]
theorem real_ord (x y : Nat) (wx : x < 2 ^ 64) (wy : y < 2 ^ 64) : ordT [nR x] [nR y] = orderB x y := by
  rw [leaf_ord _ _ rfl rfl wx wy, real_part]
theorem real_same (x y : Nat) (wx : x < 2 ^ 64) (wy : y < 2 ^ 64) (cx : canonB x = x) (cy : canonB y = y) : sameT [nR x] [nR y] = decide (x = y) := by
  unfold sameT
  rw [leaf_inO _ rfl, real_ord x y wx wy, Bool.true_and, Bool.eq_iff_iff, beq_iff_eq, decide_eq_true_eq, orderB_zero, pos_canon x y wx wy, cx, cy]
theorem zero_bits (x : Nat) (wx : x < 2 ^ 64) (h : rg x = 0) : x = 0 ∨ x = 9223372036854775808 := by
  unfold rg at h
  omega
/-- What is left where sameness of reals and of terms differ. -/
theorem real_cases (x y : Nat) (wx : x < 2 ^ 64) (wy : y < 2 ^ 64) (cx : canonB x = x) (cy : canonB y = y) :
    sameB x y = decide (x = y) ∨ (x = NAN ∧ y = NAN) ∨ (x ≠ NAN ∧ ((x = 0 ∧ y = 9223372036854775808) ∨ (x = 9223372036854775808 ∧ y = 0))) := by
  by_cases e : x = y
  · subst e
    by_cases nx : isNone x
    · have hx : x = NAN := by rw [← cx]; exact nan_canon x nx
      exact .inr (.inl ⟨hx, hx⟩)
    · left
      rw [decide_eq_true rfl]
      exact (same_pos x x nx nx).2 (.inl rfl)
  · rw [decide_eq_false e]
    cases hs : sameB x y with
    | false => exact .inl rfl
    | true =>
      right; right
      obtain ⟨nx, ny, -⟩ := (same_key x y).1 hs
      have hx : x ≠ NAN := fun h => nx (by rw [h]; exact none_NAN)
      rcases (same_pos x y nx ny).1 hs with h | ⟨h1, h2⟩
      · have := (pos_canon x y wx wy).1 h
        rw [cx, cy] at this
        exact absurd this e
      · refine ⟨hx, ?_⟩
        rcases zero_bits x wx h1 with hx | hx <;> rcases zero_bits y wy h2 with hy | hy
        · exact absurd (hx.trans hy.symm) e
        · exact .inl ⟨hx, hy⟩
        · exact .inr ⟨hx, hy⟩
        · exact absurd (hx.trans hy.symm) e

theorem bits_a : bits .or .u64 0 9223372036854775808 = 9223372036854775808 := by decide +kernel
theorem bits_b : bits .or .u64 9223372036854775808 0 = 9223372036854775808 := by decide +kernel
theorem bits_c : bits .andNot .u64 9223372036854775808 9223372036854775808 = 0 := by decide +kernel
end Go.Proofs.YtilbbemdinpjcaaGreat.T
