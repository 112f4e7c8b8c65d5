/-
  Rows of bundles that are lent (22).
-/
import Derived.Test.YtjngghihciimjaaGreatJLt
namespace Go.Proofs.YtjngghihciimjaaGreat
set_option maxRecDepth 100000
open Go.RowKit Go.Sort Go.Maps
theorem same_sums {vs us : List Va} (h : us.map (fun u => (u.coin, u.l)) = vs.map fun v => (v.coin, v.l)) : coinS us = coinS vs ∧ ctsL us = ctsL vs ∧ us.all rightV = vs.all rightV := by
 have e1 : ∀ l : List Va, coinS l = sumL ((l.map fun u => (u.coin, u.l)).map fun p => wide p.1) := fun l => by
  unfold coinS
  rw [List.map_map]
  rfl
 have e2 : ∀ l : List Va, ctsL l = (l.map fun u => (u.coin, u.l)).flatMap fun p => p.2.map fun a => (a.nm, wide a.amt) := fun l => by
  unfold ctsL
  rw [List.flatMap_map]
  rfl
 have e3 : ∀ l : List Va, l.all rightV = (l.map fun u => (u.coin, u.l)).all fun p => rightB p.1 p.2 := fun l => by
  rw [List.all_map]
  rfl
 exact ⟨by rw [e1, e1, h], by rw [e2, e2, h], by rw [e3, e3, h]⟩
theorem LentA.kept {w U : World} {B : Nat} {l : List As} {v : Value} (h : LentA w B l v) {r : Option Nat} (hg : w.grownBy U r) (hne : v.ownBlock = none ∨ v.ownBlock ≠ r) : LentA U B l v := by
 obtain ⟨g, c, h1, h2, h3⟩ := h
 subst h1
 exact ⟨g, c, rfl, h2, h3.kept hg hne⟩
theorem lent_far {W : World} {B C : Nat} {v s : Value} {l : List As} {us : List Va} (h : LentA W B l v) (k : OwnVs W C s us) : v.ownBlock = none ∨ v.ownBlock ≠ s.ownBlock := by
 obtain ⟨g, c, h1, h2, h3⟩ := h
 subst h1
 exact .inr (fun e => rows_apart k h3 (by decide) g rfl e)
def marksV (k : Nat) : List Va := (List.range k).map fun i => ⟨mkN 1 i, none, [], 0⟩
theorem marksV_succ (k : Nat) : marksV (k + 1) = marksV k ++ [⟨mkN 1 k, none, [], 0⟩] := by simp [marksV, List.range_succ]
theorem marksV_len (k : Nat) : (marksV k).length = k := by simp [marksV]
structure Lents (W : World) (B : Nat) (s : Value) (vs us : List Va) (k : Nat) : Prop where
 own : OwnVs W B s (us ++ marksV k)
 each : ∀ u, u ∈ us → LentA W B u.l (.slice u.pa u.l.length u.c)
 same : us.map (fun u => (u.coin, u.l)) = vs.map fun v => (v.coin, v.l)
theorem Lents.below {W W' : World} {B : Nat} {s : Value} {vs us : List Va} {k : Nat} (h : Lents W B s vs us k) (hb : Below W.heap.size W W') : Lents W' B s vs us k := ⟨ownsRow_below h.own hb, fun u hu => (h.each u hu).below hb, h.same⟩
theorem Lents.len {W : World} {B : Nat} {s : Value} {vs us : List Va} {k : Nat} (h : Lents W B s vs us k) : us.length = vs.length := by
 have := congrArg List.length h.same
 simpa using this
theorem mk_values (n : Nat) (hn : n ≤ 400000) : ∃ z : Value, ∀ w : World, (Instr.makeSlice 28 (.int .i64 0) (.int .i64 n)).run Tryz.prog w = .ok (.slice (some ⟨w.heap.size, 0, none⟩) 0 n) (w.alloc (.cells (madeCells z.cells (n * 2)) 24)) := by
 obtain ⟨i0, z0, hi0, hz0, hz1, hz2, hz3⟩ := info_parts infoV
 refine ⟨z0, fun w => ?_⟩
 have := run_makeSlice (P := Tryz.prog) (w := w) 28 24 i0 z0 Tryz.underlying28 hi0 hz0 .i64 .i64 0 n (by omega) (by omega) (by rw [hz1]; simp; omega) (by rw [hz2]; omega) (by omega)
 rw [hz1] at this
 simp only [Int.toNat_natCast] at this
 exact this
def LentVs (W : World) (B : Nat) (vs : List Va) (g c : Nat) (us : List Va) : Prop := vs.length + 12 ≤ c ∧ Lents W B (.slice (some ⟨g, 0, none⟩) (vs.length + 12) c) vs us 12
def LentVsRes (B : Nat) (vs : List Va) (n : Nat) (e : Ending) (w' : World) : Prop := ∃ g c us, e = .returned (.slice (some ⟨g, 0, none⟩) n c) ∧ LentVs w' B vs g c us
attribute [-go_sem] Instr.build
attribute [-go_sem] Instr.buildSlice
set_option maxHeartbeats 8000000 in
theorem lentVs_any (w : World) (pa : Option Addr) (vs : List Va) (c : Nat) (h : RowV w pa vs) (hl : vs.length ≤ 100000) (hls : ∀ v, v ∈ vs → v.l.length ≤ 100000) (hnil : ∀ v, v ∈ vs → Room v) :
    Calls Tryz.prog 22 #[.slice pa vs.length c] w fun e w' => LentVsRes w.heap.size vs vs.length e w' ∧ Below w.heap.size w w' := by
  obtain ⟨n, hn⟩ : ∃ n, n = vs.length := ⟨_, rfl⟩
  obtain ⟨i0, z0, hi0, hz0, hz1, hz2, hz3⟩ := info_parts infoV
  have HI := Lib.hid (And.intro hi0 (And.intro hz0 (And.intro hz1 (And.intro hz2 hz3))))
  rw [← hn] at hl ⊢
  obtain ⟨z, hz⟩ := mk_values (n + 12) (by omega)
  obtain ⟨mc, hmc⟩ : ∃ mc, mc = madeCells z.cells ((n + 12) * 2) := ⟨_, rfl⟩
  rw [← hmc] at hz
  have hms : mc.size = (n + 12) * 2 := by rw [hmc, made_size]
  have hmk : ∀ V, (Instr.makeSlice 28 (.int .i64 0) (.int .i64 ((n : Int) + 12))).run Tryz.prog V = .ok (.slice (some ⟨V.heap.size, 0, none⟩) 0 (n + 12)) (V.alloc (.cells mc 24)) := fun V => by
    have := hz V
    rwa [show (((n + 12 : Nat)) : Int) = (n : Int) + 12 by omega] at this
  have q1 : (n : Int) ≤ 100000 := by omega
  have q2 : (0 : Int) ≤ (n : Int) := by omega
  have hst : Lents (w.alloc (.cells mc 24)) w.heap.size (.slice (some ⟨w.heap.size, 0, none⟩) 0 (n + 12)) [] [] 0 :=
    ⟨⟨rfl, .inr ⟨w.heap.size, n + 12, mc, rfl, Nat.le_refl _, Lies.new w mc 24, Nat.zero_le _, by unfold maxLen; omega, by rw [hms], rfl⟩⟩, fun u hu => by simp at hu, rfl⟩
  have hb0 : Below w.heap.size w (w.alloc (.cells mc 24)) := (Below.refl _ _).alloc (Nat.le_refl _) _
  have H := Lib.hid (And.intro h (And.intro hn (And.intro hls (And.intro hnil (And.intro hst (And.intro hb0 hl))))))
  clear h hn hls hnil hst hb0 hi0 hz0 hz1 hz2 hz3 hz hmc hms hl
  go_enter Tryz.func22, Tryz.ntmps22
  go_upto_region 2 with fail
  clear hmk
  generalize w.alloc (.cells mc 24) = W0 at H ⊢
  go_wp2_with fail
  go_loopw [3, 4] (fun s i W => ∃ (k : Nat) (us : List Va), k ≤ n ∧ i = .int .i64 k ∧ Lents W w.heap.size s (vs.take k) us 0 ∧ Below w.heap.size w W) (fun _ i _ => n - (intOf i).toNat)
  case atStart => exact ⟨0, [], Nat.zero_le _, rfl, by rw [List.take_zero]; exact H.out.2.2.2.2.1, H.out.2.2.2.2.2.1⟩
  case round =>
    obtain ⟨k, us, hk, rfl, hcp, hb⟩ := hrel
    by_cases hlt : k < n
    · as_aux_lemma =>
      have m1 : (k : Int) < (n : Int) := by omega
      have m1n : k < n := hlt
      have m0 : (0 : Int) ≤ (k : Int) := by omega
      obtain ⟨g, off, rfl, hg, hh⟩ := H.out.1.2 (by have := H.out.2.1; omega)
      obtain ⟨v, hkv⟩ : ∃ v, vs[k]? = some v := ⟨vs[k]'(by have := H.out.2.1; omega), List.getElem?_eq_getElem _⟩
      have hmem := List.mem_of_getElem? hkv
      have hvv := hh.below hb hg (Nat.le_refl _) k v hkv
      have hv0 := (hh k v hkv).2
      have hcall := lentV_any wr v.coin v.pa v.l v.c (hv0.2.2.below hb (Nat.le_refl _)) (H.out.2.2.2.1 v hmem) (H.out.2.2.1 v hmem)
      have HR := Lib.hid (And.intro hb (And.intro hlt (And.intro hkv (And.intro hcp (And.intro hcall hvv)))))
      clear hkv hvv hcall hg hh hb hlt hk hcp hmem hv0
      go_upto_region 6 with (first
        | (refine wpList_load_mid rfl 24 _ rfl g (off + k * 2) rfl (vaC v).toList _ HR.out.2.2.2.2.2.1 Tryz.underlying24 rfl (by rw [Array.length_toList]; exact info_value) ?_)
        | (refine HR.out.2.2.2.2.1.mono ?_; rintro e w2 ⟨⟨s5, rfl, hlent⟩, hb2⟩; obtain ⟨gx, cx, rfl, hcx, hox⟩ := hlent))
      have hlent : LentA w2 w.heap.size v.l (.slice (some ⟨gx, 0, none⟩) v.l.length cx) := LentA.mono ⟨gx, cx, rfl, hcx, hox⟩ HR.out.1.size
      have hcp2 := HR.out.2.2.2.1.below hb2
      have hbw2 := HR.out.1.trans (hb2.mono HR.out.1.size)
      have hb4 : Below w2.heap.size w2 ((w2.alloc (.cells #[.int .i64 v.coin, .slice (some ⟨gx, 0, none⟩) v.l.length cx] 24)).alloc (.cells #[.int .i64 v.coin, .slice (some ⟨gx, 0, none⟩) v.l.length cx] 24)) := ((Below.refl _ _).alloc (Nat.le_refl _) _).alloc (by simp) _
      have hL3 : Lies (w2.alloc (.cells #[.int .i64 v.coin, .slice (some ⟨gx, 0, none⟩) v.l.length cx] 24)) w2.heap.size #[.int .i64 v.coin, .slice (some ⟨gx, 0, none⟩) v.l.length cx] 24 := Lies.new _ _ _
      have hL4 : Lies ((w2.alloc (.cells #[.int .i64 v.coin, .slice (some ⟨gx, 0, none⟩) v.l.length cx] 24)).alloc (.cells #[.int .i64 v.coin, .slice (some ⟨gx, 0, none⟩) v.l.length cx] 24)) (w2.heap.size + 1) (vaC ⟨v.coin, some ⟨gx, 0, none⟩, v.l, cx⟩) 24 := lies_new2 _ _ _ _ (by simp)
      have hsl : ∀ W : World, (Instr.buildSlice 28 1 #[(0, .agg #[.int .i64 v.coin, .slice (some ⟨gx, 0, none⟩) v.l.length cx])]).run Tryz.prog W = .ok (.slice (some ⟨W.heap.size, 0, none⟩) 1 1) (W.alloc (.cells #[.int .i64 v.coin, .slice (some ⟨gx, 0, none⟩) v.l.length cx] 24)) := fun W => run_slice1 W 28 24 2 32 _ Tryz.underlying28 infoV (by decide) (by decide) rfl
      have q5 := hL3.cell 0 (v := .int .i64 v.coin) rfl
      have q6 := hL3.cell 1 (v := .slice (some ⟨gx, 0, none⟩) v.l.length cx) rfl
      have hcp4 := hcp2.below hb4
      have hlent4 := hlent.below hb4
      have hbw4 := hbw2.trans (hb4.mono hbw2.size)
      have hul : us.length = k := by
        rw [hcp4.len, List.length_take]
        have := HR.out.2.1
        have := H.out.2.1
        omega
      have hsrc := lies_src (m := ⟨v.coin, some ⟨gx, 0, none⟩, v.l, cx⟩) hL4
      have HE := Lib.hid (And.intro hcp4 (And.intro hlent4 (And.intro hbw4 (And.intro hul hsrc))))
      clear hcp2 hbw2 hlent hcx hox hb4 hL4 hL3 hcp4 hlent4 hbw4 hul hsrc hb2
      go_wp2_with (at_builtin; go_must (refine wpList_append_V rfl _ _ rfl w.heap.size _ _ (us ++ marksV 0) [⟨v.coin, some ⟨gx, 0, none⟩, v.l, cx⟩] rfl HE.out.1.own rfl HE.out.2.2.2.2 (by rw [List.length_append, marksV_len]; have h1 := HE.out.2.2.2.1; have h2 := HR.out.2.1; have h3 := H.out.2.2.2.2.2.2; simp only [List.length_cons, List.length_nil]; omega) HE.out.2.2.1.size ?_; intro v' w1 hown' hgrow))
      clear q5 q6 hsl
      have hfin : Lents w1 w.heap.size v' (vs.take (k + 1)) (us ++ [⟨v.coin, some ⟨gx, 0, none⟩, v.l, cx⟩]) 0 := by
        refine ⟨?_, fun u hu => ?_, ?_⟩
        · have e : us ++ [⟨v.coin, some ⟨gx, 0, none⟩, v.l, cx⟩] ++ marksV 0 = us ++ marksV 0 ++ [⟨v.coin, some ⟨gx, 0, none⟩, v.l, cx⟩] := by simp [marksV]
          rw [e]
          exact hown'
        · rcases List.mem_append.1 hu with hu | hu
          · exact (HE.out.1.each u hu).kept hgrow (lent_far (HE.out.1.each u hu) HE.out.1.own)
          · rw [List.mem_singleton] at hu
            subst hu
            exact HE.out.2.1.kept hgrow (lent_far HE.out.2.1 HE.out.1.own)
        · rw [List.map_append, HE.out.1.same, List.take_add_one, HR.out.2.2.1]
          simp
      have hbfin := HE.out.2.2.1.grown hgrow HE.out.2.2.1.size (fun j hj => (HE.out.1.own.lt j hj).1)
      have HX := Lib.hid (And.intro hfin hbfin)
      clear hfin hbfin hown' hgrow
      go_wp2_with fail
      refine ⟨⟨k + 1, _, HR.out.2.1, by go_num, HX.out.1, HX.out.2⟩, ?_⟩
      have h := HR.out.2.1
      simp [intOf]; omega
    · as_aux_lemma =>
      have hkn : k = n := by omega
      subst hkn
      have m1 : decide ((k : Int) < (k : Int)) = false := by simp
      have m1n : ¬ k < k := by omega
      have hvs : vs.take k = vs := by rw [H.out.2.1]; exact List.take_length
      rw [hvs] at hcp
      have HE := Lib.hid (And.intro hcp hb)
      clear hcp hb hlt hk hvs
      go_upto_region 7 with fail
      clear m1 m1n
      go_wp2_with fail
      go_loopw [3, 6] (fun s i W => ∃ (j : Nat), j ≤ 12 ∧ i = .int .i64 j ∧ Lents W w.heap.size s vs us j ∧ Below w.heap.size w W) (fun _ i _ => (12 - intOf i).toNat)
      case atStart => exact ⟨0, Nat.zero_le _, rfl, HE.out⟩
      case round =>
        clear HE
        obtain ⟨j, hj, rfl, hcp, hb⟩ := hrel
        by_cases hlt : j < 12
        · as_aux_lemma =>
          have m1 : (j : Int) < 12 := by omega
          have m0 : (0 : Int) ≤ (j : Int) := by omega
          have hmk := markValue_gen wr 1 j (by omega) (by omega)
          unfold mkVc at hmk
          obtain ⟨x, hx⟩ : ∃ x, x = mkN 1 j := ⟨_, rfl⟩
          rw [← hx] at hmk
          have hsl : ∀ W : World, (Instr.buildSlice 28 1 #[(0, .agg #[.int .i64 x, .slice none 0 0])]).run Tryz.prog W = .ok (.slice (some ⟨W.heap.size, 0, none⟩) 1 1) (W.alloc (.cells #[.int .i64 x, .slice none 0 0] 24)) := fun W => run_slice1 W 28 24 2 32 _ Tryz.underlying28 infoV (by decide) (by decide) rfl
          have HM := Lib.hid hmk
          have HR := Lib.hid (And.intro hb (And.intro hlt (And.intro hcp hx)))
          clear hmk hb hlt hcp hx hj
          go_wp2_with (first
            | (go_at_call 64; refine HM.out.mono ?_; rintro e w2 ⟨rfl, hb2⟩
               have hb3 : Below wr.heap.size wr (w2.alloc (.cells #[.int .i64 x, .slice none 0 0] 24)) := hb2.alloc hb2.size _
               have H3 := Lib.hid (And.intro (HR.out.2.2.1.below hb3) (HR.out.1.trans (hb3.mono HR.out.1.size)))
               have HS3 := Lib.hid (lies_src (m := ⟨x, none, [], 0⟩) (Lies.new w2 (vaC ⟨x, none, [], 0⟩) 24))
               clear hb2 hb3)
            | (at_builtin; go_must (refine wpList_append_V rfl _ _ rfl w.heap.size _ _ (us ++ marksV j) [⟨x, none, [], 0⟩] rfl H3.out.1.own rfl HS3.out (by rw [List.length_append, marksV_len, H3.out.1.len]; have h2 := HR.out.2.1; have h3 := H.out.2.1; have h4 := H.out.2.2.2.2.2.2; simp only [List.length_cons, List.length_nil]; omega) H3.out.2.size ?_; intro v' w1 hown' hgrow)
               have hfin : Lents w1 w.heap.size v' vs us (j + 1) := ⟨by rw [marksV_succ, ← List.append_assoc, ← HR.out.2.2.2]; exact hown', fun u hu => (H3.out.1.each u hu).kept hgrow (lent_far (H3.out.1.each u hu) H3.out.1.own), H3.out.1.same⟩
               have HX := Lib.hid (And.intro hfin (H3.out.2.grown hgrow H3.out.2.size (fun i hi => (H3.out.1.own.lt i hi).1)))
               clear hfin hown' hgrow))
          refine ⟨⟨j + 1, HR.out.2.1, by go_num, HX.out.1, HX.out.2⟩, ?_⟩
          have h := HR.out.2.1
          simp [intOf]; omega
        · as_aux_lemma =>
          obtain rfl : j = 12 := by omega
          have m1 : ¬ ((12 : Nat) : Int) < 12 := by omega
          have hlen : (us ++ marksV 12).length = k + 12 := by rw [List.length_append, marksV_len, hcp.len, ← H.out.2.1]
          rcases own_at vaC 2 (fun a _ => vaC_size a) hcp.own with ⟨_, h2⟩ | ⟨g, cap, h1, h2, h3, h4, _, _⟩
          · rw [h2] at hlen; simp at hlen
          · rw [hlen] at h1 h4
            subst h1
            have q5 : (k : Int) ≤ (cap : Int) := by omega
            have hroom : k + 12 ≤ cap := h4
            have HF := Lib.hid (And.intro hcp (And.intro hb hroom))
            clear hcp hb hroom h2 h3 h4 hlen hj hlt
            go_wp2_with fail
            go_ret
            exact ⟨⟨g, cap, us, rfl, by rw [← H.out.2.1]; exact HF.out.2.2, by rw [← H.out.2.1]; exact HF.out.1⟩, HF.out.2.1⟩
end Go.Proofs.YtjngghihciimjaaGreat
