/-
  Copies of assets, of a bundle.
-/
import Derived.Test.YtjngghihciimjaaVba
import Derived.Laws.AppendOwnNone
namespace Go.Proofs.Ytjngghihciimjaa
set_option maxRecDepth 100000
open Go.RowKit Go.Sort Go.Maps

set_option maxHeartbeats 1000000 in
theorem copyAs_any (w : World) (a : Option Addr) (c : Nat) (l : List As) (h : Row w a l) (hl : l.length ≤ 1000000) (hnil : a = none → c = 0) :
    Calls Try.prog 49 #[.slice a l.length c] w fun e w' => (∃ v, e = .returned v ∧ OwnAs w' w.heap.size v l) ∧ Below w.heap.size w w' := by
  cases a with
  | none =>
    have hn : l = [] := by
      rcases Nat.eq_zero_or_pos l.length with h0 | h0
      · exact List.eq_nil_of_length_eq_zero h0
      · obtain ⟨g, off, h1, -⟩ := h.2.2 h0
        cases h1
    subst hn
    have hc0 := hnil rfl
    subst hc0
    obtain ⟨i0, z0, hi0, _⟩ := info_parts info54
    have HI := Lib.hid hi0
    clear h hnil hi0
    show Calls Try.prog 49 #[.slice none 0 0] w _
    go_enter Try.func49, Try.ntmps49
    go_wp2_with (at_builtin; go_must (refine wpList_append_own_none rfl _ _ 22 rfl w.heap.size 54 i0 34 Try.underlying22 HI.out _ _ _ rfl (World.ownsRow_nil w w.heap.size 54 34) rfl ?_))
    go_ret
    exact ⟨⟨_, rfl, World.ownsRow_nil _ _ _ _⟩, Below.refl _ _⟩
  | some ad =>
    have hok : ∀ a, a ∈ l → (asC a).size = 34 := fun a ha => asC_size a (h.2.1 a ha).1
    have hs : ∀ j u, (cellsF asC l)[j]? = some u → w.cell? (ad.add j) = some u := fun j u hu => by
      have h0 : 0 < l.length := by
        have := (List.getElem?_eq_some_iff.1 hu).1
        rw [cellsF_len asC 34 l hok] at this
        omega
      obtain ⟨g, off, h1, h2, h3⟩ := h.2.2 h0
      cases h1
      exact cellsF_src asC 34 (by decide) hok h3 j u hu
    obtain ⟨i0, z0, hi0, hz0, hz1, hz2, hz3⟩ := info_parts info54
    have hlen := cellsF_len asC 34 l hok
    have hone := cellsF_one asC l fun a _ => asC_one a
    have HS := Lib.hid (And.intro hs (And.intro hlen (And.intro hone hl)))
    have HI := Lib.hid (And.intro hi0 (And.intro hz0 (And.intro hz1 (And.intro hz2 hz3))))
    clear hs h hok hlen hone hi0 hz0 hz1 hz2 hz3 hl hnil
    go_enter Try.func49, Try.ntmps49
    go_wp2_with (at_builtin; go_must (refine wpList_append_own_at _ rfl _ _ 22 rfl w.heap.size 54 i0 z0 34 56 Try.underlying22 HI.out.1 HI.out.2.1 HI.out.2.2.1 HI.out.2.2.2.1 HI.out.2.2.2.2 (by decide) _ 0 [] rfl (World.ownsRow_nil w w.heap.size 54 34) ad l.length c (cellsF asC l) rfl HS.out.2.1 HS.out.1 HS.out.2.2.1 (by have := HS.out.2.2.2; unfold maxLen; omega) (by have := HS.out.2.2.2; omega) (by simp) ?_; intro v' w1 hown hgrow _ hat))
    go_ret
    exact ⟨⟨_, rfl, by unfold OwnAs; simpa using hown⟩, (Below.refl w.heap.size w).grown hgrow (Nat.le_refl _) (fun k e => by cases e)⟩
theorem OwnAs.form {w : World} {B : Nat} {v : Value} {l : List As} (h : OwnAs w B v l) (ho : ∀ a, a ∈ l → AsOk a) (hl : l.length ≤ maxLen) : ∃ pa c, v = .slice pa l.length c := by
  obtain ⟨pa, c, h1, _⟩ := h.row ho hl
  exact ⟨pa, c, h1⟩
def CopyRes (x : Int) (l : List As) (B : Nat) (e : Ending) (w' : World) : Prop := ∃ pa c, e = .returned (.agg #[.int .i64 x, .slice pa l.length c]) ∧ OwnAs w' B (.slice pa l.length c) l
set_option maxHeartbeats 2000000 in
theorem copyV_any (w : World) (x : Int) (pa : Option Addr) (l : List As) (c : Nat) (h : Row w pa l) (hl : l.length ≤ 1000000) (hnil : pa = none → c = 0) :
    Calls Try.prog 39 #[.agg #[.int .i64 x, .slice pa l.length c]] w fun e w' => CopyRes x l w.heap.size e w' ∧ Below w.heap.size w w' := by
  have hb0 : Below w.heap.size w ((w.alloc (.cells #[.int .i64 x, .slice pa l.length c] 24)).alloc (.cells #[.int .i64 0, .slice none 0 0] 24)) := ((Below.refl _ _).alloc (Nat.le_refl _) _).alloc (by simp) _
  have hL1 : Lies ((w.alloc (.cells #[.int .i64 x, .slice pa l.length c] 24)).alloc (.cells #[.int .i64 0, .slice none 0 0] 24)) w.heap.size #[.int .i64 x, .slice pa l.length c] 24 := (Lies.new _ _ _).alloc _
  have hL2 : Lies ((w.alloc (.cells #[.int .i64 x, .slice pa l.length c] 24)).alloc (.cells #[.int .i64 0, .slice none 0 0] 24)) (w.heap.size + 1) #[.int .i64 0, .slice none 0 0] 24 := by
    have := Lies.new (w.alloc (.cells #[.int .i64 x, .slice pa l.length c] 24)) #[.int .i64 0, .slice none 0 0] 24
    simpa using this
  have hcp := copyAs_any _ pa c l (h.below hb0 (Nat.le_refl _)) hl hnil
  have q1 := hL1.cell 1 (v := .slice pa l.length c) rfl
  have H := Lib.hid (And.intro h (And.intro hcp (And.intro hb0 (And.intro hL1 hL2))))
  clear h hl hnil hcp hb0 hL1 hL2
  go_enter Try.func39, Try.ntmps39
  go_wp2_with fail
  refine H.out.2.1.mono ?_
  rintro e w2 ⟨⟨v, rfl, hown⟩, hb2⟩
  have hB0 : w.heap.size + 2 ≤ ((w.alloc (.cells #[.int .i64 x, .slice pa l.length c] 24)).alloc (.cells #[.int .i64 0, .slice none 0 0] 24)).heap.size := by simp
  have hL1 := H.out.2.2.2.1.below hb2 H.out.2.2.2.1.lt
  have hL2 := H.out.2.2.2.2.below hb2 H.out.2.2.2.2.lt
  have hbw := H.out.2.2.1.trans (hb2.mono H.out.2.2.1.size)
  obtain ⟨p, c', rfl⟩ := hown.form H.out.1.2.1 H.out.1.1
  generalize ((w.alloc (.cells #[.int .i64 x, .slice pa l.length c] 24)).alloc (.cells #[.int .i64 0, .slice none 0 0] 24)).heap.size = B at hown hB0
  have q0 := hL1.cell 0 (v := .int .i64 x) rfl
  have q1 := hL1.cell 1 (v := .slice pa l.length c) rfl
  have f1 := hL1.free 1
  have q2 := hL2.cell 0 (v := .int .i64 0) rfl
  have q3 := hL2.cell 1 (v := .slice none 0 0) rfl
  have f2 := hL2.free 0
  have f3 := hL2.free 1
  have hne : ∀ k, (Value.slice p l.length c').ownBlock = some k → w.heap.size + 2 ≤ k := fun k hk => Nat.le_trans hB0 (hown.lt k hk).1
  have hkeep : ∀ (W : World) (b j : Nat) (u : Value), OwnAs W B (.slice p l.length c') l → b < w.heap.size + 2 → OwnAs (W.setCell ⟨b, j, none⟩ u) B (.slice p l.length c') l := fun W b j u hW hb => hW.kept (grown_setCell W _ _) (by
    cases hv : (Value.slice p l.length c').ownBlock with
    | none => exact .inl rfl
    | some k =>
      right
      intro e
      have h1 := hne k hv
      have h2 : k = b := Option.some.inj e
      omega)
  have ho3 := hkeep _ (w.heap.size + 1) 1 (.slice p l.length c') (hkeep _ (w.heap.size + 1) 0 (.int .i64 x) (hkeep w2 w.heap.size 1 (.slice p l.length c') hown (by omega)) (by omega)) (by omega)
  have hb3 : Below w.heap.size w (((w2.setCell ⟨w.heap.size, 1, none⟩ (.slice p l.length c')).setCell ⟨w.heap.size + 1, 0, none⟩ (.int .i64 x)).setCell ⟨w.heap.size + 1, 1, none⟩ (.slice p l.length c')) := below_setCell (below_setCell (below_setCell hbw _ _ (Nat.le_refl _)) _ _ (by simp)) _ _ (by simp)
  have hL3 : Lies (((w2.setCell ⟨w.heap.size, 1, none⟩ (.slice p l.length c')).setCell ⟨w.heap.size + 1, 0, none⟩ (.int .i64 x)).setCell ⟨w.heap.size + 1, 1, none⟩ (.slice p l.length c')) (w.heap.size + 1) #[.int .i64 x, .slice p l.length c'] 24 := (((hL2.other ⟨w.heap.size, 1, none⟩ (.slice p l.length c') (by simp)).set 0 (.int .i64 x)).set 1 (.slice p l.length c'))
  have ho4 : OwnAs (((w2.setCell ⟨w.heap.size, 1, none⟩ (.slice p l.length c')).setCell ⟨w.heap.size + 1, 0, none⟩ (.int .i64 x)).setCell ⟨w.heap.size + 1, 1, none⟩ (.slice p l.length c')) w.heap.size (.slice p l.length c') l := by
    obtain ⟨g1, g2⟩ := ho3
    refine ⟨g1, ?_⟩
    rcases g2 with g2 | ⟨g, cap, cur, g3, g4, g5⟩
    · exact .inl g2
    · exact .inr ⟨g, cap, cur, g3, by omega, g5⟩
  have HE := Lib.hid (And.intro ho4 (And.intro hb3 hL3))
  clear ho3 ho4 hb3 hL3 hkeep hne hown hb2 hbw hL1 hL2 hB0
  go_wp2_with fail
  refine bodyPost_ret (v := .agg #[.int .i64 x, .slice p l.length c']) (results_cell_row (p := 2) (ty := 24) (by kernel_rfl) _ _ (w.heap.size + 1) 24 #[.int .i64 x, .slice p l.length c'] (0, 0) _ rfl HE.out.2.2 Try.underlying24 rfl info_value) rfl ⟨⟨p, c', rfl, HE.out.1⟩, HE.out.2.1⟩
theorem own_far {W : World} {B C : Nat} {v s : Value} {l : List As} {us : List Va} (h : OwnAs W B v l) (k : OwnVs W C s us) : v.ownBlock = none ∨ v.ownBlock ≠ s.ownBlock := by
  rcases h.2 with ⟨h1, _⟩ | ⟨g, cap, cur, h1, _, h3, _⟩
  · rw [h1]; exact .inl rfl
  · right
    rcases k.2 with ⟨k1, _⟩ | ⟨g', cap', cur', k1, _, k3, _⟩
    · rw [h1, k1]; exact fun e => by cases e
    · rw [h1, k1]
      intro e
      have e2 : g = g' := Option.some.inj e
      subst e2
      rw [h3] at k3
      simp only [Option.some.injEq, Obj.cells.injEq] at k3
      exact absurd k3.2.1 (by decide)
/-- Copies of bundles. -/
structure Copies (W : World) (B : Nat) (s : Value) (vs us : List Va) : Prop where
  own : OwnVs W B s us
  each : ∀ u, u ∈ us → OwnAs W B (.slice u.pa u.l.length u.c) u.l
  same : us.map (fun u => (u.coin, u.l)) = vs.map fun v => (v.coin, v.l)
theorem Copies.below {W W' : World} {B : Nat} {s : Value} {vs us : List Va} (h : Copies W B s vs us) (hb : Below W.heap.size W W') : Copies W' B s vs us := ⟨ownsRow_below h.own hb, fun u hu => ownsRow_below (h.each u hu) hb, h.same⟩
set_option maxHeartbeats 4000000 in
theorem copyVs_any (w : World) (pa : Option Addr) (vs : List Va) (c : Nat) (h : RowV w pa vs) (hl : vs.length ≤ 1000000) (hls : ∀ v, v ∈ vs → v.l.length ≤ 1000000) (hnil : ∀ v, v ∈ vs → v.pa = none → v.c = 0) :
    Calls Try.prog 18 #[.slice pa vs.length c] w fun e w' => (∃ s, e = .returned s ∧ ∃ us, Copies w' w.heap.size s vs us) ∧ Below w.heap.size w w' := by
  have hli : (vs.length : Int) ≤ 9223372036854775807 := by omega
  obtain ⟨i0, z0, hi0, hz0, hz1, hz2, hz3⟩ := info_parts info24
  have HI := Lib.hid (And.intro hi0 (And.intro hz0 (And.intro hz1 (And.intro hz2 hz3))))
  have H := Lib.hid (And.intro h (And.intro hl (And.intro hls hnil)))
  clear h hl hls hnil hi0 hz0 hz1 hz2 hz3
  go_enter Try.func18, Try.ntmps18
  go_wp2_with fail
  go_loopw [3, 4] (fun s i W => ∃ (k : Nat) (us : List Va), k ≤ vs.length ∧ i = .int .i64 k ∧ Copies W w.heap.size s (vs.take k) us ∧ Below w.heap.size w W) (fun _ i _ => vs.length - (intOf i).toNat)
  case atStart => exact ⟨0, [], Nat.zero_le _, rfl, ⟨World.ownsRow_nil _ _ _ _, fun u hu => by simp at hu, rfl⟩, Below.refl _ _⟩
  case round =>
    obtain ⟨k, us, hk, rfl, hcp, hb⟩ := hrel
    by_cases hlt : k < vs.length
    · have m1 : (k : Int) < (vs.length : Int) := by omega
      have m0 : (0 : Int) ≤ (k : Int) := by omega
      obtain ⟨g, off, rfl, hg, hh⟩ := H.out.1.2 (by omega)
      obtain ⟨v, hv⟩ : ∃ v, v = vs[k] := ⟨_, rfl⟩
      have hkv : vs[k]? = some v := by rw [hv, List.getElem?_eq_getElem hlt]
      have hmem := List.mem_of_getElem? hkv
      have hvv := hh.below hb hg (Nat.le_refl _) k v hkv
      have hv0 := (hh k v hkv).2
      have c0 := hvv.1 0 (.int .i64 v.coin) rfl
      have c1 := hvv.1 1 (.slice v.pa v.l.length v.c) rfl
      have hcall := copyV_any wr v.coin v.pa v.l v.c (hv0.2.2.below hb (Nat.le_refl _)) (H.out.2.2.1 v hmem) (H.out.2.2.2 v hmem)
      have HR := Lib.hid (And.intro hb (And.intro hlt (And.intro hkv (And.intro hcp (And.intro hcall hv0)))))
      rw [Nat.add_zero] at c0
      clear hv hkv hvv hcall hg hh hb hlt hk hcp hmem hv0
      go_wp2_with fail
      refine HR.out.2.2.2.2.1.mono ?_
      rintro e w2 ⟨⟨p, c', rfl, hown⟩, hb2⟩
      have hcp2 := HR.out.2.2.2.1.below hb2
      have hbw2 := HR.out.1.trans (hb2.mono HR.out.1.size)
      have hown2 : OwnAs w2 w.heap.size (.slice p v.l.length c') v.l := by
        obtain ⟨g1, g2⟩ := hown
        refine ⟨g1, ?_⟩
        rcases g2 with g2 | ⟨g3, cap, cur, g4, g5, g6⟩
        · exact .inl g2
        · exact .inr ⟨g3, cap, cur, g4, Nat.le_trans HR.out.1.size g5, g6⟩
      have hb4 : Below w2.heap.size w2 ((w2.alloc (.cells #[.int .i64 v.coin, .slice p v.l.length c'] 24)).alloc (.cells #[.int .i64 v.coin, .slice p v.l.length c'] 24)) := ((Below.refl _ _).alloc (Nat.le_refl _) _).alloc (by simp) _
      have hL4 : Lies ((w2.alloc (.cells #[.int .i64 v.coin, .slice p v.l.length c'] 24)).alloc (.cells #[.int .i64 v.coin, .slice p v.l.length c'] 24)) (w2.heap.size + 1) (vaC ⟨v.coin, p, v.l, c'⟩) 24 := by
        have := Lies.new (w2.alloc (.cells #[.int .i64 v.coin, .slice p v.l.length c'] 24)) #[.int .i64 v.coin, .slice p v.l.length c'] 24
        show Lies _ _ #[.int .i64 v.coin, .slice p v.l.length c'] _
        simpa using this
      have hcp4 := hcp2.below hb4
      have hown4 : OwnAs ((w2.alloc (.cells #[.int .i64 v.coin, .slice p v.l.length c'] 24)).alloc (.cells #[.int .i64 v.coin, .slice p v.l.length c'] 24)) w.heap.size (.slice p v.l.length c') v.l := ownsRow_below hown2 hb4
      have hbw4 := hbw2.trans (hb4.mono hbw2.size)
      have hul : us.length = k := by
        have := congrArg List.length hcp4.same
        simpa [Nat.min_eq_left (Nat.le_of_lt HR.out.2.1)] using this
      have hsrc := src_one vaC hL4
      have HE := Lib.hid (And.intro hcp4 (And.intro hown4 (And.intro hbw4 (And.intro hul hsrc))))
      clear hcp2 hbw2 hown2 hown hb4 hL4 hcp4 hown4 hbw4 hul hsrc hb2 c0 c1
      go_wp2_with (at_builtin; go_must (refine wpList_append_own_at _ rfl _ _ 29 rfl w.heap.size 24 i0 z0 2 32 Try.underlying29 HI.out.1 HI.out.2.1 HI.out.2.2.1 HI.out.2.2.2.1 HI.out.2.2.2.2 (by decide) _ us.length _ rfl HE.out.1.own ⟨w2.heap.size + 1, 0, none⟩ 1 1 (cellsF vaC [⟨v.coin, p, v.l, c'⟩]) rfl (cellsF_len vaC 2 _ fun a _ => vaC_size a) HE.out.2.2.2.2 (cellsF_one vaC _ fun a _ => vaC_one a) (by have h1 := HE.out.2.2.2.1; have h2 := HR.out.2.1; have h3 := H.out.2.1; unfold maxLen; omega) (by have h1 := HE.out.2.2.2.1; have h2 := HR.out.2.1; have h3 := H.out.2.1; omega) HE.out.2.2.1.size ?_; intro v' w1 hown' hgrow _ hat))
      have e1 : (k : Int) + 1 = ((k + 1 : Nat) : Int) := by omega
      rw [e1]
      refine ⟨⟨k + 1, us ++ [⟨v.coin, p, v.l, c'⟩], HR.out.2.1, rfl, ⟨?_, fun u hu => ?_, ?_⟩, HE.out.2.2.1.grown hgrow HE.out.2.2.1.size (fun j hj => (HE.out.1.own.lt j hj).1)⟩, ?_⟩
      · unfold OwnVs
        rw [cellsF_app, List.length_append]
        exact hown'
      · rcases List.mem_append.1 hu with hu | hu
        · exact World.ownsRow.kept (HE.out.1.each u hu) hgrow (own_far (HE.out.1.each u hu) HE.out.1.own)
        · rw [List.mem_singleton] at hu
          subst hu
          exact World.ownsRow.kept HE.out.2.1 hgrow (own_far HE.out.2.1 HE.out.1.own)
      · rw [List.map_append, HE.out.1.same, List.take_add_one, HR.out.2.2.1]
        simp
      · have h := HR.out.2.1
        show vs.length - (k + 1) < vs.length - k
        omega
    · have m1 : ¬ (k : Int) < (vs.length : Int) := by omega
      have hkk : k = vs.length := by omega
      subst hkk
      rw [List.take_length] at hcp
      have HE := Lib.hid (And.intro hcp hb)
      clear hcp hb hlt hk
      go_wp2_with fail
      go_ret
      exact ⟨⟨_, rfl, us, HE.out.1⟩, HE.out.2⟩
end Go.Proofs.Ytjngghihciimjaa
