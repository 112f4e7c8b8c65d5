/-
  The sum of bundles hangs on no order: the law's walk.
-/
import Derived.Test.YtjngghihciimjaaVaw
namespace Go.Proofs.Ytjngghihciimjaa
set_option maxRecDepth 100000
open Go.RowKit Go.Sort Go.Maps

theorem tri_row (w : World) (a b c : Va) (ha : VaOk w a) (hb : VaOk w b) (hc : VaOk w c) :
    RowV (w.alloc (.cells #[.int .i64 a.coin, .slice a.pa a.l.length a.c, .int .i64 b.coin, .slice b.pa b.l.length b.c, .int .i64 c.coin, .slice c.pa c.l.length c.c] 24)) (some ⟨w.heap.size, 0, none⟩) [a, b, c] :=
  rowV_of (Lies.new w _ 24) rfl (fun v hv => by
    have hb1 := (Below.refl w.heap.size w).alloc (Nat.le_refl _) (.cells #[.int .i64 a.coin, .slice a.pa a.l.length a.c, .int .i64 b.coin, .slice b.pa b.l.length b.c, .int .i64 c.coin, .slice c.pa c.l.length c.c] 24)
    rcases List.mem_cons.1 hv with rfl | hv
    · exact ha.below hb1 (Nat.le_refl _)
    · rcases List.mem_cons.1 hv with rfl | hv
      · exact hb.below hb1 (Nat.le_refl _)
      · rw [List.mem_singleton] at hv
        rw [hv]
        exact hc.below hb1 (Nat.le_refl _)) (show 3 ≤ maxLen by decide)
theorem duo_row (w : World) (a b : Va) (ha : VaOk w a) (hb : VaOk w b) :
    RowV (w.alloc (.cells #[.int .i64 a.coin, .slice a.pa a.l.length a.c, .int .i64 b.coin, .slice b.pa b.l.length b.c] 24)) (some ⟨w.heap.size, 0, none⟩) [a, b] :=
  rowV_of (Lies.new w _ 24) rfl (fun v hv => by
    have hb1 := (Below.refl w.heap.size w).alloc (Nat.le_refl _) (.cells #[.int .i64 a.coin, .slice a.pa a.l.length a.c, .int .i64 b.coin, .slice b.pa b.l.length b.c] 24)
    rcases List.mem_cons.1 hv with rfl | hv
    · exact ha.below hb1 (Nat.le_refl _)
    · rw [List.mem_singleton] at hv
      rw [hv]
      exact hb.below hb1 (Nat.le_refl _)) (show 2 ≤ maxLen by decide)
theorem same_m (w : World) (a b : Va) (ha : Row w a.pa a.l) (hb : Row w b.pa b.l) :
    Calls Try.prog 8 #[.agg #[.int .i64 a.coin, .slice a.pa a.l.length a.c], .agg #[.int .i64 b.coin, .slice b.pa b.l.length b.c]] w fun e w' => e = .returned (.bool (sameB a.coin b.coin a.l b.l)) ∧ Below w.heap.size w w' := sameV_any w a.coin b.coin a.pa b.pa a.l b.l a.c b.c ha hb
theorem sameB_yes (x : Int) (l : List As) : sameB x x l l = true := by simp [sameB]
theorem right_m (w : World) (a : Va) (ha : Row w a.pa a.l) :
    Calls Try.prog 9 #[.agg #[.int .i64 a.coin, .slice a.pa a.l.length a.c]] w fun e w' => e = .returned (.bool (rightV a)) ∧ Below w.heap.size w w' := right_any w a.coin a.pa a.l a.c ha
theorem cov_m (w : World) (a b : Va) (ha : VaOk w a) (hb : VaOk w b) (hz : ∃ coin l, SubZ a b coin l) :
    Calls Try.prog 11 #[.agg #[.int .i64 a.coin, .slice a.pa a.l.length a.c], .agg #[.int .i64 b.coin, .slice b.pa b.l.length b.c]] w fun e w' => e = .returned (.bool true) ∧ Below w.heap.size w w' :=
  (covers_any w a b ha hb).mono fun e w' hh => by
    obtain ⟨h1 | h1, h2⟩ := hh
    · exact ⟨h1.choose_spec.choose_spec.2, h2⟩
    · obtain ⟨coin, l, hz⟩ := hz
      exact absurd hz (h1.1 coin l)
theorem of_m (w : World) (a : Va) (p t : List UInt8) (ha : Row w a.pa a.l) (hp : p.length = 32) (ht : t.length ≤ maxLen) :
    Calls Try.prog 12 #[.agg #[.int .i64 a.coin, .slice a.pa a.l.length a.c], .agg (B8 p), .string (txt t)] w fun e w' => e = .returned (.int .i64 (amtOf a.l (p, t))) ∧ Below w.heap.size w w' := of_any w a.coin a.pa a.l a.c p t ha hp ht
theorem add_r (w : World) (vs : List Va) (g : Nat) (h : RowV w (some ⟨g, 0, none⟩) vs) (hn : vs.length ≤ 1000) :
    Calls Try.prog 7 #[.slice (some ⟨g, 0, none⟩) vs.length vs.length] w fun e w' => (∃ (ok : Bool) (S : Va), e = .returned (.tuple #[.agg #[.int .i64 S.coin, .slice S.pa S.l.length S.c], .bool ok]) ∧ Row w' S.pa S.l ∧ AddM vs ok S.coin S.l) ∧ Below w.heap.size w w' :=
  (add_m w _ vs vs.length h hn).mono fun e w' hh => by
    obtain ⟨⟨ok, coin, l, p, c, h1, h2, h3⟩, h4⟩ := hh
    exact ⟨⟨ok, ⟨coin, p, l, c⟩, h1, h2, h3⟩, h4⟩
theorem sub_r (w : World) (a b : Va) (ha : VaOk w a) (hb : VaOk w b) :
    Calls Try.prog 10 #[.agg #[.int .i64 a.coin, .slice a.pa a.l.length a.c], .agg #[.int .i64 b.coin, .slice b.pa b.l.length b.c]] w fun e w' => (∃ (ok : Bool) (S : Va), e = .returned (.tuple #[.agg #[.int .i64 S.coin, .slice S.pa S.l.length S.c], .bool ok]) ∧ Row w' S.pa S.l ∧ SubM a b ok S.coin S.l) ∧ Below w.heap.size w w' :=
  (sub_m w a b ha hb).mono fun e w' hh => by
    obtain ⟨⟨ok, coin, l, p, c, h1, h2, h3⟩, h4⟩ := hh
    exact ⟨⟨ok, ⟨coin, p, l, c⟩, h1, h2, h3⟩, h4⟩
theorem AddM.ok_of {vs us : List Va} (ht : ∀ coin l, AddZ vs coin l ↔ AddZ us coin l) {ok is : Bool} {x y : Int} {l m : List As} (h : AddM vs ok x l) (k : AddM us is y m) : is = ok ∧ y = x ∧ m = l := by
  rcases h with ⟨rfl, h2⟩ | ⟨rfl, rfl, rfl, h4⟩
  · obtain ⟨e1, e2, e3⟩ := k.yes ((ht _ _).1 h2)
    exact ⟨e1, e2, e3⟩
  · exact k.no fun coin l hz => h4 coin l ((ht _ _).2 hz)
theorem turn_iff (a b c : Va) (coin : Int) (l : List As) : AddZ [a, b, c] coin l ↔ AddZ [c, b, a] coin l := ⟨add_turn, add_turn⟩
theorem AddM.vaOk {w : World} {vs : List Va} {ok : Bool} {S : Va} (h : AddM vs ok S.coin S.l) (hr : Row w S.pa S.l) : VaOk w S := by
  rcases h with ⟨_, _, h2, h3, _⟩ | ⟨_, h2, _, _⟩
  · have := fits_nat h2
    exact ⟨by omega, by omega, hr⟩
  · exact ⟨by omega, by omega, hr⟩
theorem wpList_load_rowG {P : Program} {ops : Array Oper} {rest : List Oper} {o : Oper} {a : Act} {w : World} {Q : Exit → Act → World → Prop} (hw : Region.wanted o (yielded ops a.tmps) = true) (ty : TypeId) (x : Operand) (ho : o.op = .load ty x)
    (g : Nat) (hx : a.eval x = .pointer (some ⟨g, 0, none⟩)) (t : TypeId) (cs : Array Value) (fr : Nat × Nat) (d : TypeDesc) (hg : w.heap[g]? = some (.cells cs t fr))
    (hu : P.underlying ty = some d) (hd : (match d with | .struct _ | .array _ _ => true | _ => false) = true) (hi : (P.info? ty).map (·.size) = some cs.size)
    (h : wpList P ops Q rest (a.put o.dst (.agg cs)) w) : wpList P ops Q (o :: rest) a w := by
  unfold wpList
  rw [if_pos hw]
  exact .inl (wp_load_row ty x ho g hx t cs fr d hg hu hd hi h)
set_option maxHeartbeats 16000000 in
theorem ring_any (w : World) (a b c : Va) (p t : List UInt8) (ha : VaOk w a) (hb : VaOk w b) (hc : VaOk w c) (hp : p.length = 32) (ht : t.length ≤ maxLen) :
    Calls Try.prog 3 #[.agg #[.int .i64 a.coin, .slice a.pa a.l.length a.c], .agg #[.int .i64 b.coin, .slice b.pa b.l.length b.c], .agg #[.int .i64 c.coin, .slice c.pa c.l.length c.c], .agg (B8 p), .string (txt t)] w fun e w' => e = .returned (.bool true) ∧ Below w.heap.size w w' := by
  obtain ⟨pv, hpv⟩ : ∃ v, v = B8 p := ⟨_, rfl⟩
  obtain ⟨tv, htv⟩ : ∃ v, v = txt t := ⟨_, rfl⟩
  have hps : (Try.prog.info? 26).map (·.size) = some pv.size := by rw [hpv, B8_size, hp]; exact info_hash
  have hts : tv.size = t.length := by rw [htv]; exact txt_size t
  have hti : (tv.size : Int) ≤ 9223372036854775807 := by rw [hts]; unfold maxLen at ht; omega
  have hofs : ∀ W (v : Va), Row W v.pa v.l → Calls Try.prog 12 #[.agg #[.int .i64 v.coin, .slice v.pa v.l.length v.c], .agg pv, .string tv] W fun e w' => e = .returned (.int .i64 (amtOf v.l (p, t))) ∧ Below W.heap.size W w' := fun W v hv => by
    rw [hpv, htv]; exact of_m W v p t hv hp ht
  rw [← hpv, ← htv]
  have HP := Lib.hid (And.intro hps hofs)
  clear hpv htv hps hts hofs hp ht
  have hbw : Below w.heap.size w ((((w.alloc (.cells #[.int .i64 a.coin, .slice a.pa a.l.length a.c] 24)).alloc (.cells #[.int .i64 b.coin, .slice b.pa b.l.length b.c] 24)).alloc (.cells #[.int .i64 c.coin, .slice c.pa c.l.length c.c] 24)).alloc (.cells pv 26)) := ((((Below.refl _ _).alloc (Nat.le_refl _) _).alloc (by simp) _).alloc (by simp; omega) _).alloc (by simp; omega) _
  have hA : Lies ((((w.alloc (.cells #[.int .i64 a.coin, .slice a.pa a.l.length a.c] 24)).alloc (.cells #[.int .i64 b.coin, .slice b.pa b.l.length b.c] 24)).alloc (.cells #[.int .i64 c.coin, .slice c.pa c.l.length c.c] 24)).alloc (.cells pv 26)) w.heap.size #[.int .i64 a.coin, .slice a.pa a.l.length a.c] 24 := (((Lies.new _ _ _).alloc _).alloc _).alloc _
  have hB : Lies ((((w.alloc (.cells #[.int .i64 a.coin, .slice a.pa a.l.length a.c] 24)).alloc (.cells #[.int .i64 b.coin, .slice b.pa b.l.length b.c] 24)).alloc (.cells #[.int .i64 c.coin, .slice c.pa c.l.length c.c] 24)).alloc (.cells pv 26)) (w.heap.size + 1) #[.int .i64 b.coin, .slice b.pa b.l.length b.c] 24 := ((lies_new2 _ _ _ _ (by simp)).alloc _).alloc _
  have hC : Lies ((((w.alloc (.cells #[.int .i64 a.coin, .slice a.pa a.l.length a.c] 24)).alloc (.cells #[.int .i64 b.coin, .slice b.pa b.l.length b.c] 24)).alloc (.cells #[.int .i64 c.coin, .slice c.pa c.l.length c.c] 24)).alloc (.cells pv 26)) (w.heap.size + 2) #[.int .i64 c.coin, .slice c.pa c.l.length c.c] 24 := (lies_new2 _ _ _ _ (by simp)).alloc _
  have hP : Lies ((((w.alloc (.cells #[.int .i64 a.coin, .slice a.pa a.l.length a.c] 24)).alloc (.cells #[.int .i64 b.coin, .slice b.pa b.l.length b.c] 24)).alloc (.cells #[.int .i64 c.coin, .slice c.pa c.l.length c.c] 24)).alloc (.cells pv 26)) (w.heap.size + 3) pv 26 := lies_new2 _ _ _ _ (by simp)
  have hva := ha.below hbw (Nat.le_refl _)
  have hvb := hb.below hbw (Nat.le_refl _)
  have hvc := hc.below hbw (Nat.le_refl _)
  clear ha hb hc
  have haw := awake_any ((((w.alloc (.cells #[.int .i64 a.coin, .slice a.pa a.l.length a.c] 24)).alloc (.cells #[.int .i64 b.coin, .slice b.pa b.l.length b.c] 24)).alloc (.cells #[.int .i64 c.coin, .slice c.pa c.l.length c.c] 24)).alloc (.cells pv 26))
  have HAW := Lib.hid haw
  clear haw
  have HK := Lib.hid (And.intro hA (And.intro hB (And.intro hC (And.intro hP (And.intro hva (And.intro hvb (And.intro hvc hbw)))))))
  clear hA hB hC hP hva hvb hvc hbw
  go_enter Try.func3, Try.ntmps3
  go_wp2_with fail
  refine HAW.out.mono ?_
  rintro e W ⟨rfl, hb⟩
  clear HAW
  obtain ⟨hA, hB, hC, hP, hva, hvb, hvc, hbw⟩ := HK.out
  clear HK
  have hA := hA.below hb hA.lt
  have hB := hB.below hb hB.lt
  have hC := hC.below hb hC.lt
  have hP := hP.below hb hP.lt
  have hva := hva.below hb (Nat.le_refl _)
  have hvb := hvb.below hb (Nat.le_refl _)
  have hvc := hvc.below hb (Nat.le_refl _)
  have hbw := hbw.trans (hb.mono hbw.size)
  clear hb
  have qhA0 := hA.cell 0 (v := .int .i64 a.coin) rfl
  have qhA1 := hA.cell 1 (v := .slice a.pa a.l.length a.c) rfl
  have qhB0 := hB.cell 0 (v := .int .i64 b.coin) rfl
  have qhB1 := hB.cell 1 (v := .slice b.pa b.l.length b.c) rfl
  have qhC0 := hC.cell 0 (v := .int .i64 c.coin) rfl
  have qhC1 := hC.cell 1 (v := .slice c.pa c.l.length c.c) rfl
  have hbg : Below W.heap.size W ((W.alloc (.cells #[.int .i64 a.coin, .slice a.pa a.l.length a.c, .int .i64 b.coin, .slice b.pa b.l.length b.c, .int .i64 c.coin, .slice c.pa c.l.length c.c] 24)).alloc (.cells #[.slice (some ⟨W.heap.size, 0, none⟩) 3 3] 29)) := ((Below.refl _ _).alloc (Nat.le_refl _) _).alloc (by simp) _
  have hgr := great_any ((W.alloc (.cells #[.int .i64 a.coin, .slice a.pa a.l.length a.c, .int .i64 b.coin, .slice b.pa b.l.length b.c, .int .i64 c.coin, .slice c.pa c.l.length c.c] 24)).alloc (.cells #[.slice (some ⟨W.heap.size, 0, none⟩) 3 3] 29)) (some ⟨W.heap.size + 1, 0, none⟩) [⟨some ⟨W.heap.size, 0, none⟩, [a, b, c], 3⟩] 1 ⟨show 1 ≤ maxLen by decide, fun _ => ⟨W.heap.size + 1, 0, rfl, by simp, fun i r hr => by
      have hi : i = 0 := by have := (List.getElem?_eq_some_iff.1 hr).1; simp at this; exact this
      subst hi
      simp at hr
      subst hr
      have hL := Lies.new (W.alloc (.cells #[.int .i64 a.coin, .slice a.pa a.l.length a.c, .int .i64 b.coin, .slice b.pa b.l.length b.c, .int .i64 c.coin, .slice c.pa c.l.length c.c] 24)) #[.slice (some ⟨W.heap.size, 0, none⟩) 3 3] 29
      refine ⟨?_, (tri_row W a b c hva hvb hvc).below ((Below.refl _ _).alloc (Nat.le_refl _) _) (Nat.le_refl _)⟩
      have h0 := hL.cell 0 (v := .slice (some ⟨W.heap.size, 0, none⟩) 3 3) rfl
      simp⟩⟩
  have HG := Lib.hid (And.intro hgr hbg)
  clear hgr hbg
  have HK := Lib.hid (And.intro hA (And.intro hB (And.intro hC (And.intro hP (And.intro hva (And.intro hvb (And.intro hvc hbw)))))))
  clear hA hB hC hP hva hvb hvc hbw
  go_wp2_with fail
  refine HG.out.1.mono ?_
  rintro e W2 ⟨⟨gb, rfl⟩, hb⟩
  obtain ⟨hA, hB, hC, hP, hva, hvb, hvc, hbw⟩ := HK.out
  clear HK
  have hb := HG.out.2.trans (hb.mono HG.out.2.size)
  clear HG qhA0 qhA1 qhB0 qhB1 qhC0 qhC1
  have hA := hA.below hb hA.lt
  have hB := hB.below hb hB.lt
  have hC := hC.below hb hC.lt
  have hP := hP.below hb hP.lt
  have hva := hva.below hb (Nat.le_refl _)
  have hvb := hvb.below hb (Nat.le_refl _)
  have hvc := hvc.below hb (Nat.le_refl _)
  have hbw := hbw.trans (hb.mono hbw.size)
  clear hb
  cases gb with
  | true =>
    have HE := Lib.hid hbw
    clear hA hB hC hP hva hvb hvc hbw
    go_wp2_with fail
    go_ret
    exact ⟨rfl, HE.out⟩
  | false =>
    by_cases hlen : (200 : Int) < (tv.size : Int)
    · have HE := Lib.hid hbw
      clear hA hB hC hP hva hvb hvc hbw
      go_wp2_with fail
      go_ret
      exact ⟨rfl, HE.out⟩
    · skip
      have HK := Lib.hid (And.intro hA (And.intro hB (And.intro hC (And.intro hP (And.intro hva (And.intro hvb (And.intro hvc hbw)))))))
      clear hA hB hC hP hva hvb hvc hbw
      go_upto_region 5 with fail
      clear hlen
      obtain ⟨hA, hB, hC, hP, hva, hvb, hvc, hbw⟩ := HK.out
      clear HK
      have qhA0 := hA.cell 0 (v := .int .i64 a.coin) rfl
      have qhA1 := hA.cell 1 (v := .slice a.pa a.l.length a.c) rfl
      have qhB0 := hB.cell 0 (v := .int .i64 b.coin) rfl
      have qhB1 := hB.cell 1 (v := .slice b.pa b.l.length b.c) rfl
      have qhC0 := hC.cell 0 (v := .int .i64 c.coin) rfl
      have qhC1 := hC.cell 1 (v := .slice c.pa c.l.length c.c) rfl
      have hbn : Below W2.heap.size W2 (W2.alloc (.cells #[.int .i64 a.coin, .slice a.pa a.l.length a.c, .int .i64 b.coin, .slice b.pa b.l.length b.c, .int .i64 c.coin, .slice c.pa c.l.length c.c] 24)) := (Below.refl _ _).alloc (Nat.le_refl _) _
      have hadd := add_r (W2.alloc (.cells #[.int .i64 a.coin, .slice a.pa a.l.length a.c, .int .i64 b.coin, .slice b.pa b.l.length b.c, .int .i64 c.coin, .slice c.pa c.l.length c.c] 24)) [a, b, c] W2.heap.size (tri_row W2 a b c hva hvb hvc) (show 3 ≤ 1000 by decide)
      have HG := Lib.hid (And.intro hadd hbn)
      clear hadd hbn
      have HK := Lib.hid (And.intro hA (And.intro hB (And.intro hC (And.intro hP (And.intro hva (And.intro hvb (And.intro hvc hbw)))))))
      clear hA hB hC hP hva hvb hvc hbw
      go_wp2_with fail
      refine HG.out.1.mono ?_
      rintro e US ⟨⟨ok, S, rfl, hRS, hm1⟩, hb⟩
      obtain ⟨hA, hB, hC, hP, hva, hvb, hvc, hbw⟩ := HK.out
      clear HK
      have hb := HG.out.2.trans (hb.mono HG.out.2.size)
      clear HG qhA0 qhA1 qhB0 qhB1 qhC0 qhC1
      have hA := hA.below hb hA.lt
      have hB := hB.below hb hB.lt
      have hC := hC.below hb hC.lt
      have hP := hP.below hb hP.lt
      have hva := hva.below hb (Nat.le_refl _)
      have hvb := hvb.below hb (Nat.le_refl _)
      have hvc := hvc.below hb (Nat.le_refl _)
      have hbw := hbw.trans (hb.mono hbw.size)
      clear hb
      have hvS := hm1.vaOk hRS
      clear hRS
      have HMS := Lib.hid hm1
      clear hm1
      have HK := Lib.hid (And.intro hA (And.intro hB (And.intro hC (And.intro hP (And.intro hva (And.intro hvb (And.intro hvc (And.intro hvS hbw))))))))
      clear hA hB hC hP hva hvb hvc hvS hbw
      go_upto_region 6 with fail
      obtain ⟨hA, hB, hC, hP, hva, hvb, hvc, hvS, hbw⟩ := HK.out
      clear HK
      have hb : Below US.heap.size US (US.alloc (.cells #[.int .i64 S.coin, .slice S.pa S.l.length S.c] 24)) := (Below.refl _ _).alloc (Nat.le_refl _) _
      have hLS : Lies (US.alloc (.cells #[.int .i64 S.coin, .slice S.pa S.l.length S.c] 24)) US.heap.size #[.int .i64 S.coin, .slice S.pa S.l.length S.c] 24 := Lies.new _ _ _
      generalize US.alloc (.cells #[.int .i64 S.coin, .slice S.pa S.l.length S.c] 24) = W1 at hb hLS ⊢
      obtain ⟨bS, hbe⟩ : ∃ b, b = US.heap.size := ⟨_, rfl⟩
      rw [← hbe] at hLS ⊢
      clear hbe
      have hA := hA.below hb hA.lt
      have hB := hB.below hb hB.lt
      have hC := hC.below hb hC.lt
      have hP := hP.below hb hP.lt
      have hva := hva.below hb (Nat.le_refl _)
      have hvb := hvb.below hb (Nat.le_refl _)
      have hvc := hvc.below hb (Nat.le_refl _)
      have hvS := hvS.below hb (Nat.le_refl _)
      have hbw := hbw.trans (hb.mono hbw.size)
      clear hb
      have qhA0 := hA.cell 0 (v := .int .i64 a.coin) rfl
      have qhA1 := hA.cell 1 (v := .slice a.pa a.l.length a.c) rfl
      have qhB0 := hB.cell 0 (v := .int .i64 b.coin) rfl
      have qhB1 := hB.cell 1 (v := .slice b.pa b.l.length b.c) rfl
      have qhC0 := hC.cell 0 (v := .int .i64 c.coin) rfl
      have qhC1 := hC.cell 1 (v := .slice c.pa c.l.length c.c) rfl
      have hbn : Below W1.heap.size W1 (W1.alloc (.cells #[.int .i64 c.coin, .slice c.pa c.l.length c.c, .int .i64 b.coin, .slice b.pa b.l.length b.c, .int .i64 a.coin, .slice a.pa a.l.length a.c] 24)) := (Below.refl _ _).alloc (Nat.le_refl _) _
      have hadd := add_r (W1.alloc (.cells #[.int .i64 c.coin, .slice c.pa c.l.length c.c, .int .i64 b.coin, .slice b.pa b.l.length b.c, .int .i64 a.coin, .slice a.pa a.l.length a.c] 24)) [c, b, a] W1.heap.size (tri_row W1 c b a hvc hvb hva) (show 3 ≤ 1000 by decide)
      have HG := Lib.hid (And.intro hadd hbn)
      clear hadd hbn
      have HK := Lib.hid (And.intro hA (And.intro hB (And.intro hC (And.intro hP (And.intro hLS (And.intro hva (And.intro hvb (And.intro hvc (And.intro hvS hbw)))))))))
      clear hA hB hC hP hLS hva hvb hvc hvS hbw
      go_wp2_with fail
      refine HG.out.1.mono ?_
      rintro e UT ⟨⟨is, T, rfl, hRT, hm2⟩, hb⟩
      obtain ⟨hA, hB, hC, hP, hLS, hva, hvb, hvc, hvS, hbw⟩ := HK.out
      clear HK
      have hb := HG.out.2.trans (hb.mono HG.out.2.size)
      clear HG qhA0 qhA1 qhB0 qhB1 qhC0 qhC1
      have hA := hA.below hb hA.lt
      have hB := hB.below hb hB.lt
      have hC := hC.below hb hC.lt
      have hP := hP.below hb hP.lt
      have hLS := hLS.below hb hLS.lt
      have hva := hva.below hb (Nat.le_refl _)
      have hvb := hvb.below hb (Nat.le_refl _)
      have hvc := hvc.below hb (Nat.le_refl _)
      have hvS := hvS.below hb (Nat.le_refl _)
      have hbw := hbw.trans (hb.mono hbw.size)
      clear hb
      have hvT := hm2.vaOk hRT
      clear hRT
      have HMT := Lib.hid hm2
      clear hm2
      have HK := Lib.hid (And.intro hA (And.intro hB (And.intro hC (And.intro hP (And.intro hLS (And.intro hva (And.intro hvb (And.intro hvc (And.intro hvS (And.intro hvT hbw))))))))))
      clear hA hB hC hP hLS hva hvb hvc hvS hvT hbw
      go_upto_region 7 with fail
      obtain ⟨hA, hB, hC, hP, hLS, hva, hvb, hvc, hvS, hvT, hbw⟩ := HK.out
      clear HK
      have hb : Below UT.heap.size UT (UT.alloc (.cells #[.int .i64 T.coin, .slice T.pa T.l.length T.c] 24)) := (Below.refl _ _).alloc (Nat.le_refl _) _
      have hLT : Lies (UT.alloc (.cells #[.int .i64 T.coin, .slice T.pa T.l.length T.c] 24)) UT.heap.size #[.int .i64 T.coin, .slice T.pa T.l.length T.c] 24 := Lies.new _ _ _
      generalize UT.alloc (.cells #[.int .i64 T.coin, .slice T.pa T.l.length T.c] 24) = W2 at hb hLT ⊢
      obtain ⟨bT, hbe⟩ : ∃ b, b = UT.heap.size := ⟨_, rfl⟩
      rw [← hbe] at hLT ⊢
      clear hbe
      have hA := hA.below hb hA.lt
      have hB := hB.below hb hB.lt
      have hC := hC.below hb hC.lt
      have hP := hP.below hb hP.lt
      have hLS := hLS.below hb hLS.lt
      have hva := hva.below hb (Nat.le_refl _)
      have hvb := hvb.below hb (Nat.le_refl _)
      have hvc := hvc.below hb (Nat.le_refl _)
      have hvS := hvS.below hb (Nat.le_refl _)
      have hvT := hvT.below hb (Nat.le_refl _)
      have hbw := hbw.trans (hb.mono hbw.size)
      clear hb
      obtain ⟨e1, e2, e3⟩ := AddM.ok_of (turn_iff a b c) HMS.out HMT.out
      have HT := Lib.hid (And.intro e2 e3)
      clear e2 e3 HMT
      have hsame : sameB S.coin T.coin S.l T.l = true := by rw [HT.out.1, HT.out.2]; exact sameB_yes _ _
      have HSM := Lib.hid hsame
      clear hsame HT
      cases ok with
      | false =>
        subst e1
        have qhLS0 := hLS.cell 0 (v := .int .i64 S.coin) rfl
        have qhLS1 := hLS.cell 1 (v := .slice S.pa S.l.length S.c) rfl
        have qhLT0 := hLT.cell 0 (v := .int .i64 T.coin) rfl
        have qhLT1 := hLT.cell 1 (v := .slice T.pa T.l.length T.c) rfl
        have hcall := same_m W2 S T hvS.2.2 hvT.2.2
        rw [HSM.out] at hcall
        have HG := Lib.hid hcall
        clear hcall
        have HK := Lib.hid (And.intro hA (And.intro hB (And.intro hC (And.intro hP (And.intro hLS (And.intro hLT (And.intro hva (And.intro hvb (And.intro hvc (And.intro hvS (And.intro hvT hbw)))))))))))
        clear hA hB hC hP hLS hLT hva hvb hvc hvS hvT hbw
        go_wp2_with fail
        refine HG.out.mono ?_
        rintro e X1 ⟨rfl, hb⟩
        obtain ⟨hA, hB, hC, hP, hLS, hLT, hva, hvb, hvc, hvS, hvT, hbw⟩ := HK.out
        clear HK
        clear HG qhLS0 qhLS1 qhLT0 qhLT1
        have hA := hA.below hb hA.lt
        have hB := hB.below hb hB.lt
        have hC := hC.below hb hC.lt
        have hP := hP.below hb hP.lt
        have hLS := hLS.below hb hLS.lt
        have hLT := hLT.below hb hLT.lt
        have hva := hva.below hb (Nat.le_refl _)
        have hvb := hvb.below hb (Nat.le_refl _)
        have hvc := hvc.below hb (Nat.le_refl _)
        have hvS := hvS.below hb (Nat.le_refl _)
        have hvT := hvT.below hb (Nat.le_refl _)
        have hbw := hbw.trans (hb.mono hbw.size)
        clear hb
        clear HSM
        have HK := Lib.hid (And.intro hA (And.intro hB (And.intro hC (And.intro hP (And.intro hLS (And.intro hLT (And.intro hva (And.intro hvb (And.intro hvc (And.intro hvS (And.intro hvT hbw)))))))))))
        clear hA hB hC hP hLS hLT hva hvb hvc hvS hvT hbw
        go_upto_region 9 with fail
        obtain ⟨hA, hB, hC, hP, hLS, hLT, hva, hvb, hvc, hvS, hvT, hbw⟩ := HK.out
        clear HK
        have qhA0 := hA.cell 0 (v := .int .i64 a.coin) rfl
        have qhA1 := hA.cell 1 (v := .slice a.pa a.l.length a.c) rfl
        have qhB0 := hB.cell 0 (v := .int .i64 b.coin) rfl
        have qhB1 := hB.cell 1 (v := .slice b.pa b.l.length b.c) rfl
        have hbn : Below X1.heap.size X1 (X1.alloc (.cells #[.int .i64 a.coin, .slice a.pa a.l.length a.c, .int .i64 b.coin, .slice b.pa b.l.length b.c] 24)) := (Below.refl _ _).alloc (Nat.le_refl _) _
        have hadd := add_r (X1.alloc (.cells #[.int .i64 a.coin, .slice a.pa a.l.length a.c, .int .i64 b.coin, .slice b.pa b.l.length b.c] 24)) [a, b] X1.heap.size (duo_row X1 a b hva hvb) (show 2 ≤ 1000 by decide)
        have HG := Lib.hid (And.intro hadd hbn)
        clear hadd hbn
        have HK := Lib.hid (And.intro hA (And.intro hB (And.intro hC (And.intro hP (And.intro hLS (And.intro hLT (And.intro hva (And.intro hvb (And.intro hvc (And.intro hvS (And.intro hvT hbw)))))))))))
        clear hA hB hC hP hLS hLT hva hvb hvc hvS hvT hbw
        go_wp2_with fail
        refine HG.out.1.mono ?_
        rintro e UD ⟨⟨two, D, rfl, hRD, hm3⟩, hb⟩
        obtain ⟨hA, hB, hC, hP, hLS, hLT, hva, hvb, hvc, hvS, hvT, hbw⟩ := HK.out
        clear HK
        have hb := HG.out.2.trans (hb.mono HG.out.2.size)
        clear HG qhA0 qhA1 qhB0 qhB1
        have hA := hA.below hb hA.lt
        have hB := hB.below hb hB.lt
        have hC := hC.below hb hC.lt
        have hP := hP.below hb hP.lt
        have hLS := hLS.below hb hLS.lt
        have hLT := hLT.below hb hLT.lt
        have hva := hva.below hb (Nat.le_refl _)
        have hvb := hvb.below hb (Nat.le_refl _)
        have hvc := hvc.below hb (Nat.le_refl _)
        have hvS := hvS.below hb (Nat.le_refl _)
        have hvT := hvT.below hb (Nat.le_refl _)
        have hbw := hbw.trans (hb.mono hbw.size)
        clear hb
        have hvD := hm3.vaOk hRD
        clear hRD
        have HMD := Lib.hid hm3
        clear hm3
        have HK := Lib.hid (And.intro hA (And.intro hB (And.intro hC (And.intro hP (And.intro hLS (And.intro hLT (And.intro hva (And.intro hvb (And.intro hvc (And.intro hvS (And.intro hvT (And.intro hvD hbw))))))))))))
        clear hA hB hC hP hLS hLT hva hvb hvc hvS hvT hvD hbw
        go_upto_region 11 with fail
        obtain ⟨hA, hB, hC, hP, hLS, hLT, hva, hvb, hvc, hvS, hvT, hvD, hbw⟩ := HK.out
        clear HK
        have hb : Below UD.heap.size UD (UD.alloc (.cells #[.int .i64 D.coin, .slice D.pa D.l.length D.c] 24)) := (Below.refl _ _).alloc (Nat.le_refl _) _
        have hLD : Lies (UD.alloc (.cells #[.int .i64 D.coin, .slice D.pa D.l.length D.c] 24)) UD.heap.size #[.int .i64 D.coin, .slice D.pa D.l.length D.c] 24 := Lies.new _ _ _
        generalize UD.alloc (.cells #[.int .i64 D.coin, .slice D.pa D.l.length D.c] 24) = W3 at hb hLD ⊢
        obtain ⟨bD, hbe⟩ : ∃ b, b = UD.heap.size := ⟨_, rfl⟩
        rw [← hbe] at hLD ⊢
        clear hbe
        have hA := hA.below hb hA.lt
        have hB := hB.below hb hB.lt
        have hC := hC.below hb hC.lt
        have hP := hP.below hb hP.lt
        have hLS := hLS.below hb hLS.lt
        have hLT := hLT.below hb hLT.lt
        have hva := hva.below hb (Nat.le_refl _)
        have hvb := hvb.below hb (Nat.le_refl _)
        have hvc := hvc.below hb (Nat.le_refl _)
        have hvS := hvS.below hb (Nat.le_refl _)
        have hvT := hvT.below hb (Nat.le_refl _)
        have hvD := hvD.below hb (Nat.le_refl _)
        have hbw := hbw.trans (hb.mono hbw.size)
        clear hb
        have hz : S.coin = 0 ∧ S.l = [] := by
          rcases HMS.out with ⟨h1, _⟩ | ⟨_, h2, h3, _⟩
          · cases h1
          · exact ⟨h2, h3⟩
        have HZ := Lib.hid hz
        clear hz
        have qhLS0 := hLS.cell 0 (v := .int .i64 S.coin) rfl
        have qhLS1 := hLS.cell 1 (v := .slice S.pa S.l.length S.c) rfl
        have hcall := same_m W3 S (coinV 0) hvS.2.2 (row_nil _)
        have hsb : sameB S.coin (coinV 0).coin S.l (coinV 0).l = true := by rw [HZ.out.1, HZ.out.2]; rfl
        rw [hsb] at hcall
        clear hsb
        have HG := Lib.hid hcall
        clear hcall
        have HK := Lib.hid (And.intro hA (And.intro hB (And.intro hC (And.intro hP (And.intro hLS (And.intro hLT (And.intro hLD (And.intro hva (And.intro hvb (And.intro hvc (And.intro hvS (And.intro hvT (And.intro hvD hbw)))))))))))))
        clear hA hB hC hP hLS hLT hLD hva hvb hvc hvS hvT hvD hbw
        go_wp2_with fail
        refine HG.out.mono ?_
        rintro e X2 ⟨rfl, hb⟩
        obtain ⟨hA, hB, hC, hP, hLS, hLT, hLD, hva, hvb, hvc, hvS, hvT, hvD, hbw⟩ := HK.out
        clear HK
        clear HG qhLS0 qhLS1
        have hA := hA.below hb hA.lt
        have hB := hB.below hb hB.lt
        have hC := hC.below hb hC.lt
        have hP := hP.below hb hP.lt
        have hLS := hLS.below hb hLS.lt
        have hLT := hLT.below hb hLT.lt
        have hLD := hLD.below hb hLD.lt
        have hva := hva.below hb (Nat.le_refl _)
        have hvb := hvb.below hb (Nat.le_refl _)
        have hvc := hvc.below hb (Nat.le_refl _)
        have hvS := hvS.below hb (Nat.le_refl _)
        have hvT := hvT.below hb (Nat.le_refl _)
        have hvD := hvD.below hb (Nat.le_refl _)
        have hbw := hbw.trans (hb.mono hbw.size)
        clear hb
        cases two with
        | true =>
          have HE := Lib.hid hbw
          clear hA hB hC hP hLS hLT hLD hva hvb hvc hvS hvT hvD hbw
          go_wp2_with fail
          go_ret
          exact ⟨rfl, HE.out⟩
        | false =>
          have hd : D.coin = 0 ∧ D.l = [] := by
            rcases HMD.out with ⟨h1, _⟩ | ⟨_, h2, h3, _⟩
            · cases h1
            · exact ⟨h2, h3⟩
          have HDD := Lib.hid hd
          clear hd
          have qhLD0 := hLD.cell 0 (v := .int .i64 D.coin) rfl
          have qhLD1 := hLD.cell 1 (v := .slice D.pa D.l.length D.c) rfl
          have hcall := same_m X2 D (coinV 0) hvD.2.2 (row_nil _)
          have hsb : sameB D.coin (coinV 0).coin D.l (coinV 0).l = true := by rw [HDD.out.1, HDD.out.2]; rfl
          rw [hsb] at hcall
          clear hsb
          have HG := Lib.hid hcall
          clear hcall
          have HK := Lib.hid (And.intro hA (And.intro hB (And.intro hC (And.intro hP (And.intro hLS (And.intro hLT (And.intro hLD (And.intro hva (And.intro hvb (And.intro hvc (And.intro hvS (And.intro hvT (And.intro hvD hbw)))))))))))))
          clear hA hB hC hP hLS hLT hLD hva hvb hvc hvS hvT hvD hbw
          go_wp2_with fail
          refine HG.out.mono ?_
          rintro e X3 ⟨rfl, hb⟩
          obtain ⟨hA, hB, hC, hP, hLS, hLT, hLD, hva, hvb, hvc, hvS, hvT, hvD, hbw⟩ := HK.out
          clear HK
          clear HG qhLD0 qhLD1
          have hA := hA.below hb hA.lt
          have hB := hB.below hb hB.lt
          have hC := hC.below hb hC.lt
          have hP := hP.below hb hP.lt
          have hLS := hLS.below hb hLS.lt
          have hLT := hLT.below hb hLT.lt
          have hLD := hLD.below hb hLD.lt
          have hva := hva.below hb (Nat.le_refl _)
          have hvb := hvb.below hb (Nat.le_refl _)
          have hvc := hvc.below hb (Nat.le_refl _)
          have hvS := hvS.below hb (Nat.le_refl _)
          have hvT := hvT.below hb (Nat.le_refl _)
          have hvD := hvD.below hb (Nat.le_refl _)
          have hbw := hbw.trans (hb.mono hbw.size)
          clear hb
          have HE := Lib.hid hbw
          clear hA hB hC hP hLS hLT hLD hva hvb hvc hvS hvT hvD hbw
          go_wp2_with fail
          go_ret
          exact ⟨rfl, HE.out⟩
      | true =>
        subst e1
        have h3 : Three a b c S := by
          rcases HMS.out with ⟨_, h1⟩ | ⟨h1, _⟩
          · have h2 := (addZ3.1 h1).1
            exact ⟨hva.good h2.1, hvb.good h2.2.1, hvc.good h2.2.2, h1⟩
          · cases h1
        have H3 := Lib.hid h3
        clear h3 HMS
        have qhLS0 := hLS.cell 0 (v := .int .i64 S.coin) rfl
        have qhLS1 := hLS.cell 1 (v := .slice S.pa S.l.length S.c) rfl
        have qhLT0 := hLT.cell 0 (v := .int .i64 T.coin) rfl
        have qhLT1 := hLT.cell 1 (v := .slice T.pa T.l.length T.c) rfl
        have hcall := same_m W2 S T hvS.2.2 hvT.2.2
        rw [HSM.out] at hcall
        have HG := Lib.hid hcall
        clear hcall
        have HK := Lib.hid (And.intro hA (And.intro hB (And.intro hC (And.intro hP (And.intro hLS (And.intro hLT (And.intro hva (And.intro hvb (And.intro hvc (And.intro hvS (And.intro hvT hbw)))))))))))
        clear hA hB hC hP hLS hLT hva hvb hvc hvS hvT hbw
        go_wp2_with fail
        refine HG.out.mono ?_
        rintro e X1 ⟨rfl, hb⟩
        obtain ⟨hA, hB, hC, hP, hLS, hLT, hva, hvb, hvc, hvS, hvT, hbw⟩ := HK.out
        clear HK
        clear HG qhLS0 qhLS1 qhLT0 qhLT1
        have hA := hA.below hb hA.lt
        have hB := hB.below hb hB.lt
        have hC := hC.below hb hC.lt
        have hP := hP.below hb hP.lt
        have hLS := hLS.below hb hLS.lt
        have hLT := hLT.below hb hLT.lt
        have hva := hva.below hb (Nat.le_refl _)
        have hvb := hvb.below hb (Nat.le_refl _)
        have hvc := hvc.below hb (Nat.le_refl _)
        have hvS := hvS.below hb (Nat.le_refl _)
        have hvT := hvT.below hb (Nat.le_refl _)
        have hbw := hbw.trans (hb.mono hbw.size)
        clear hb
        clear HSM
        have qhLS0 := hLS.cell 0 (v := .int .i64 S.coin) rfl
        have qhLS1 := hLS.cell 1 (v := .slice S.pa S.l.length S.c) rfl
        have hcall := right_m X1 S hvS.2.2
        rw [H3.out.right] at hcall
        have HG := Lib.hid hcall
        clear hcall
        have HK := Lib.hid (And.intro hA (And.intro hB (And.intro hC (And.intro hP (And.intro hLS (And.intro hLT (And.intro hva (And.intro hvb (And.intro hvc (And.intro hvS (And.intro hvT hbw)))))))))))
        clear hA hB hC hP hLS hLT hva hvb hvc hvS hvT hbw
        go_wp2_with fail
        refine HG.out.mono ?_
        rintro e X2 ⟨rfl, hb⟩
        obtain ⟨hA, hB, hC, hP, hLS, hLT, hva, hvb, hvc, hvS, hvT, hbw⟩ := HK.out
        clear HK
        clear HG qhLS0 qhLS1
        have hA := hA.below hb hA.lt
        have hB := hB.below hb hB.lt
        have hC := hC.below hb hC.lt
        have hP := hP.below hb hP.lt
        have hLS := hLS.below hb hLS.lt
        have hLT := hLT.below hb hLT.lt
        have hva := hva.below hb (Nat.le_refl _)
        have hvb := hvb.below hb (Nat.le_refl _)
        have hvc := hvc.below hb (Nat.le_refl _)
        have hvS := hvS.below hb (Nat.le_refl _)
        have hvT := hvT.below hb (Nat.le_refl _)
        have hbw := hbw.trans (hb.mono hbw.size)
        clear hb
        have qhA0 := hA.cell 0 (v := .int .i64 a.coin) rfl
        have qhA1 := hA.cell 1 (v := .slice a.pa a.l.length a.c) rfl
        have hcall := right_m X2 a hva.2.2
        rw [H3.out.ga.right] at hcall
        have HG := Lib.hid hcall
        clear hcall
        have HK := Lib.hid (And.intro hA (And.intro hB (And.intro hC (And.intro hP (And.intro hLS (And.intro hLT (And.intro hva (And.intro hvb (And.intro hvc (And.intro hvS (And.intro hvT hbw)))))))))))
        clear hA hB hC hP hLS hLT hva hvb hvc hvS hvT hbw
        go_wp2_with fail
        refine HG.out.mono ?_
        rintro e X3 ⟨rfl, hb⟩
        obtain ⟨hA, hB, hC, hP, hLS, hLT, hva, hvb, hvc, hvS, hvT, hbw⟩ := HK.out
        clear HK
        clear HG qhA0 qhA1
        have hA := hA.below hb hA.lt
        have hB := hB.below hb hB.lt
        have hC := hC.below hb hC.lt
        have hP := hP.below hb hP.lt
        have hLS := hLS.below hb hLS.lt
        have hLT := hLT.below hb hLT.lt
        have hva := hva.below hb (Nat.le_refl _)
        have hvb := hvb.below hb (Nat.le_refl _)
        have hvc := hvc.below hb (Nat.le_refl _)
        have hvS := hvS.below hb (Nat.le_refl _)
        have hvT := hvT.below hb (Nat.le_refl _)
        have hbw := hbw.trans (hb.mono hbw.size)
        clear hb
        have qhB0 := hB.cell 0 (v := .int .i64 b.coin) rfl
        have qhB1 := hB.cell 1 (v := .slice b.pa b.l.length b.c) rfl
        have hcall := right_m X3 b hvb.2.2
        rw [H3.out.gb.right] at hcall
        have HG := Lib.hid hcall
        clear hcall
        have HK := Lib.hid (And.intro hA (And.intro hB (And.intro hC (And.intro hP (And.intro hLS (And.intro hLT (And.intro hva (And.intro hvb (And.intro hvc (And.intro hvS (And.intro hvT hbw)))))))))))
        clear hA hB hC hP hLS hLT hva hvb hvc hvS hvT hbw
        go_wp2_with fail
        refine HG.out.mono ?_
        rintro e X4 ⟨rfl, hb⟩
        obtain ⟨hA, hB, hC, hP, hLS, hLT, hva, hvb, hvc, hvS, hvT, hbw⟩ := HK.out
        clear HK
        clear HG qhB0 qhB1
        have hA := hA.below hb hA.lt
        have hB := hB.below hb hB.lt
        have hC := hC.below hb hC.lt
        have hP := hP.below hb hP.lt
        have hLS := hLS.below hb hLS.lt
        have hLT := hLT.below hb hLT.lt
        have hva := hva.below hb (Nat.le_refl _)
        have hvb := hvb.below hb (Nat.le_refl _)
        have hvc := hvc.below hb (Nat.le_refl _)
        have hvS := hvS.below hb (Nat.le_refl _)
        have hvT := hvT.below hb (Nat.le_refl _)
        have hbw := hbw.trans (hb.mono hbw.size)
        clear hb
        have qhC0 := hC.cell 0 (v := .int .i64 c.coin) rfl
        have qhC1 := hC.cell 1 (v := .slice c.pa c.l.length c.c) rfl
        have hcall := right_m X4 c hvc.2.2
        rw [H3.out.gc.right] at hcall
        have HG := Lib.hid hcall
        clear hcall
        have HK := Lib.hid (And.intro hA (And.intro hB (And.intro hC (And.intro hP (And.intro hLS (And.intro hLT (And.intro hva (And.intro hvb (And.intro hvc (And.intro hvS (And.intro hvT hbw)))))))))))
        clear hA hB hC hP hLS hLT hva hvb hvc hvS hvT hbw
        go_wp2_with fail
        refine HG.out.mono ?_
        rintro e X5 ⟨rfl, hb⟩
        obtain ⟨hA, hB, hC, hP, hLS, hLT, hva, hvb, hvc, hvS, hvT, hbw⟩ := HK.out
        clear HK
        clear HG qhC0 qhC1
        have hA := hA.below hb hA.lt
        have hB := hB.below hb hB.lt
        have hC := hC.below hb hC.lt
        have hP := hP.below hb hP.lt
        have hLS := hLS.below hb hLS.lt
        have hLT := hLT.below hb hLT.lt
        have hva := hva.below hb (Nat.le_refl _)
        have hvb := hvb.below hb (Nat.le_refl _)
        have hvc := hvc.below hb (Nat.le_refl _)
        have hvS := hvS.below hb (Nat.le_refl _)
        have hvT := hvT.below hb (Nat.le_refl _)
        have hbw := hbw.trans (hb.mono hbw.size)
        clear hb
        have HK := Lib.hid (And.intro hA (And.intro hB (And.intro hC (And.intro hP (And.intro hLS (And.intro hLT (And.intro hva (And.intro hvb (And.intro hvc (And.intro hvS (And.intro hvT hbw)))))))))))
        clear hA hB hC hP hLS hLT hva hvb hvc hvS hvT hbw
        go_upto_region 9 with fail
        obtain ⟨hA, hB, hC, hP, hLS, hLT, hva, hvb, hvc, hvS, hvT, hbw⟩ := HK.out
        clear HK
        have qhA0 := hA.cell 0 (v := .int .i64 a.coin) rfl
        have qhA1 := hA.cell 1 (v := .slice a.pa a.l.length a.c) rfl
        have qhB0 := hB.cell 0 (v := .int .i64 b.coin) rfl
        have qhB1 := hB.cell 1 (v := .slice b.pa b.l.length b.c) rfl
        have hbn : Below X5.heap.size X5 (X5.alloc (.cells #[.int .i64 a.coin, .slice a.pa a.l.length a.c, .int .i64 b.coin, .slice b.pa b.l.length b.c] 24)) := (Below.refl _ _).alloc (Nat.le_refl _) _
        have hadd := add_r (X5.alloc (.cells #[.int .i64 a.coin, .slice a.pa a.l.length a.c, .int .i64 b.coin, .slice b.pa b.l.length b.c] 24)) [a, b] X5.heap.size (duo_row X5 a b hva hvb) (show 2 ≤ 1000 by decide)
        have HG := Lib.hid (And.intro hadd hbn)
        clear hadd hbn
        have HK := Lib.hid (And.intro hA (And.intro hB (And.intro hC (And.intro hP (And.intro hLS (And.intro hLT (And.intro hva (And.intro hvb (And.intro hvc (And.intro hvS (And.intro hvT hbw)))))))))))
        clear hA hB hC hP hLS hLT hva hvb hvc hvS hvT hbw
        go_wp2_with fail
        refine HG.out.1.mono ?_
        rintro e UD ⟨⟨two, D, rfl, hRD, hm3⟩, hb⟩
        obtain ⟨hA, hB, hC, hP, hLS, hLT, hva, hvb, hvc, hvS, hvT, hbw⟩ := HK.out
        clear HK
        have hb := HG.out.2.trans (hb.mono HG.out.2.size)
        clear HG qhA0 qhA1 qhB0 qhB1
        have hA := hA.below hb hA.lt
        have hB := hB.below hb hB.lt
        have hC := hC.below hb hC.lt
        have hP := hP.below hb hP.lt
        have hLS := hLS.below hb hLS.lt
        have hLT := hLT.below hb hLT.lt
        have hva := hva.below hb (Nat.le_refl _)
        have hvb := hvb.below hb (Nat.le_refl _)
        have hvc := hvc.below hb (Nat.le_refl _)
        have hvS := hvS.below hb (Nat.le_refl _)
        have hvT := hvT.below hb (Nat.le_refl _)
        have hbw := hbw.trans (hb.mono hbw.size)
        clear hb
        have hvD := hm3.vaOk hRD
        clear hRD
        have HMD := Lib.hid hm3
        clear hm3
        have HK := Lib.hid (And.intro hA (And.intro hB (And.intro hC (And.intro hP (And.intro hLS (And.intro hLT (And.intro hva (And.intro hvb (And.intro hvc (And.intro hvS (And.intro hvT (And.intro hvD hbw))))))))))))
        clear hA hB hC hP hLS hLT hva hvb hvc hvS hvT hvD hbw
        go_upto_region 12 with fail
        obtain ⟨hA, hB, hC, hP, hLS, hLT, hva, hvb, hvc, hvS, hvT, hvD, hbw⟩ := HK.out
        clear HK
        have hb : Below UD.heap.size UD (UD.alloc (.cells #[.int .i64 D.coin, .slice D.pa D.l.length D.c] 24)) := (Below.refl _ _).alloc (Nat.le_refl _) _
        have hLD : Lies (UD.alloc (.cells #[.int .i64 D.coin, .slice D.pa D.l.length D.c] 24)) UD.heap.size #[.int .i64 D.coin, .slice D.pa D.l.length D.c] 24 := Lies.new _ _ _
        generalize UD.alloc (.cells #[.int .i64 D.coin, .slice D.pa D.l.length D.c] 24) = W4 at hb hLD ⊢
        obtain ⟨bD, hbe⟩ : ∃ b, b = UD.heap.size := ⟨_, rfl⟩
        rw [← hbe] at hLD ⊢
        clear hbe
        have hA := hA.below hb hA.lt
        have hB := hB.below hb hB.lt
        have hC := hC.below hb hC.lt
        have hP := hP.below hb hP.lt
        have hLS := hLS.below hb hLS.lt
        have hLT := hLT.below hb hLT.lt
        have hva := hva.below hb (Nat.le_refl _)
        have hvb := hvb.below hb (Nat.le_refl _)
        have hvc := hvc.below hb (Nat.le_refl _)
        have hvS := hvS.below hb (Nat.le_refl _)
        have hvT := hvT.below hb (Nat.le_refl _)
        have hvD := hvD.below hb (Nat.le_refl _)
        have hbw := hbw.trans (hb.mono hbw.size)
        clear hb
        obtain ⟨xc, xl, hx⟩ := H3.out.two
        obtain ⟨e2, e3, e4⟩ := HMD.out.yes hx
        rw [← e3, ← e4] at hx
        have HD := Lib.hid hx
        clear hx e3 e4 HMD
        subst e2
        have qhC0 := hC.cell 0 (v := .int .i64 c.coin) rfl
        have qhC1 := hC.cell 1 (v := .slice c.pa c.l.length c.c) rfl
        have qhLD0 := hLD.cell 0 (v := .int .i64 D.coin) rfl
        have qhLD1 := hLD.cell 1 (v := .slice D.pa D.l.length D.c) rfl
        have hbn : Below W4.heap.size W4 (W4.alloc (.cells #[.int .i64 D.coin, .slice D.pa D.l.length D.c, .int .i64 c.coin, .slice c.pa c.l.length c.c] 24)) := (Below.refl _ _).alloc (Nat.le_refl _) _
        have hadd := add_r (W4.alloc (.cells #[.int .i64 D.coin, .slice D.pa D.l.length D.c, .int .i64 c.coin, .slice c.pa c.l.length c.c] 24)) [D, c] W4.heap.size (duo_row W4 D c hvD hvc) (show 2 ≤ 1000 by decide)
        have HG := Lib.hid (And.intro hadd hbn)
        clear hadd hbn
        have HK := Lib.hid (And.intro hA (And.intro hB (And.intro hC (And.intro hP (And.intro hLS (And.intro hLT (And.intro hLD (And.intro hva (And.intro hvb (And.intro hvc (And.intro hvS (And.intro hvT (And.intro hvD hbw)))))))))))))
        clear hA hB hC hP hLS hLT hLD hva hvb hvc hvS hvT hvD hbw
        go_wp2_with fail
        refine HG.out.1.mono ?_
        rintro e UE ⟨⟨three, E, rfl, hRE, hm4⟩, hb⟩
        obtain ⟨hA, hB, hC, hP, hLS, hLT, hLD, hva, hvb, hvc, hvS, hvT, hvD, hbw⟩ := HK.out
        clear HK
        have hb := HG.out.2.trans (hb.mono HG.out.2.size)
        clear HG qhC0 qhC1 qhLD0 qhLD1
        have hA := hA.below hb hA.lt
        have hB := hB.below hb hB.lt
        have hC := hC.below hb hC.lt
        have hP := hP.below hb hP.lt
        have hLS := hLS.below hb hLS.lt
        have hLT := hLT.below hb hLT.lt
        have hLD := hLD.below hb hLD.lt
        have hva := hva.below hb (Nat.le_refl _)
        have hvb := hvb.below hb (Nat.le_refl _)
        have hvc := hvc.below hb (Nat.le_refl _)
        have hvS := hvS.below hb (Nat.le_refl _)
        have hvT := hvT.below hb (Nat.le_refl _)
        have hvD := hvD.below hb (Nat.le_refl _)
        have hbw := hbw.trans (hb.mono hbw.size)
        clear hb
        have hvE := hm4.vaOk hRE
        clear hRE
        have HME := Lib.hid hm4
        clear hm4
        have HK := Lib.hid (And.intro hA (And.intro hB (And.intro hC (And.intro hP (And.intro hLS (And.intro hLT (And.intro hLD (And.intro hva (And.intro hvb (And.intro hvc (And.intro hvS (And.intro hvT (And.intro hvD (And.intro hvE hbw))))))))))))))
        clear hA hB hC hP hLS hLT hLD hva hvb hvc hvS hvT hvD hvE hbw
        go_upto_region 13 with fail
        obtain ⟨hA, hB, hC, hP, hLS, hLT, hLD, hva, hvb, hvc, hvS, hvT, hvD, hvE, hbw⟩ := HK.out
        clear HK
        have hb : Below UE.heap.size UE (UE.alloc (.cells #[.int .i64 E.coin, .slice E.pa E.l.length E.c] 24)) := (Below.refl _ _).alloc (Nat.le_refl _) _
        have hLE : Lies (UE.alloc (.cells #[.int .i64 E.coin, .slice E.pa E.l.length E.c] 24)) UE.heap.size #[.int .i64 E.coin, .slice E.pa E.l.length E.c] 24 := Lies.new _ _ _
        generalize UE.alloc (.cells #[.int .i64 E.coin, .slice E.pa E.l.length E.c] 24) = W5 at hb hLE ⊢
        obtain ⟨bE, hbe⟩ : ∃ b, b = UE.heap.size := ⟨_, rfl⟩
        rw [← hbe] at hLE ⊢
        clear hbe
        have hA := hA.below hb hA.lt
        have hB := hB.below hb hB.lt
        have hC := hC.below hb hC.lt
        have hP := hP.below hb hP.lt
        have hLS := hLS.below hb hLS.lt
        have hLT := hLT.below hb hLT.lt
        have hLD := hLD.below hb hLD.lt
        have hva := hva.below hb (Nat.le_refl _)
        have hvb := hvb.below hb (Nat.le_refl _)
        have hvc := hvc.below hb (Nat.le_refl _)
        have hvS := hvS.below hb (Nat.le_refl _)
        have hvT := hvT.below hb (Nat.le_refl _)
        have hvD := hvD.below hb (Nat.le_refl _)
        have hvE := hvE.below hb (Nat.le_refl _)
        have hbw := hbw.trans (hb.mono hbw.size)
        clear hb
        obtain ⟨f2, f3, f4⟩ := HME.out.yes (H3.out.again (T := D) HD.out)
        have HEE := Lib.hid (And.intro f3 f4)
        clear f3 f4 HME
        subst f2
        have qhLS0 := hLS.cell 0 (v := .int .i64 S.coin) rfl
        have qhLS1 := hLS.cell 1 (v := .slice S.pa S.l.length S.c) rfl
        have qhC0 := hC.cell 0 (v := .int .i64 c.coin) rfl
        have qhC1 := hC.cell 1 (v := .slice c.pa c.l.length c.c) rfl
        have hsub := sub_r W5 S c hvS hvc
        have HG := Lib.hid hsub
        clear hsub
        have HK := Lib.hid (And.intro hA (And.intro hB (And.intro hC (And.intro hP (And.intro hLS (And.intro hLT (And.intro hLD (And.intro hLE (And.intro hva (And.intro hvb (And.intro hvc (And.intro hvS (And.intro hvT (And.intro hvD (And.intro hvE hbw)))))))))))))))
        clear hA hB hC hP hLS hLT hLD hLE hva hvb hvc hvS hvT hvD hvE hbw
        go_wp2_with fail
        refine HG.out.mono ?_
        rintro e UL ⟨⟨less, L, rfl, hRL, hm5⟩, hb⟩
        obtain ⟨hA, hB, hC, hP, hLS, hLT, hLD, hLE, hva, hvb, hvc, hvS, hvT, hvD, hvE, hbw⟩ := HK.out
        clear HK
        clear HG qhLS0 qhLS1 qhC0 qhC1
        have hA := hA.below hb hA.lt
        have hB := hB.below hb hB.lt
        have hC := hC.below hb hC.lt
        have hP := hP.below hb hP.lt
        have hLS := hLS.below hb hLS.lt
        have hLT := hLT.below hb hLT.lt
        have hLD := hLD.below hb hLD.lt
        have hLE := hLE.below hb hLE.lt
        have hva := hva.below hb (Nat.le_refl _)
        have hvb := hvb.below hb (Nat.le_refl _)
        have hvc := hvc.below hb (Nat.le_refl _)
        have hvS := hvS.below hb (Nat.le_refl _)
        have hvT := hvT.below hb (Nat.le_refl _)
        have hvD := hvD.below hb (Nat.le_refl _)
        have hvE := hvE.below hb (Nat.le_refl _)
        have hbw := hbw.trans (hb.mono hbw.size)
        clear hb
        obtain ⟨g2, g3, g4⟩ := hm5.yes (H3.out.left HD.out)
        have hvL : VaOk UL L := ⟨by rw [g3]; exact hvD.1, by rw [g3]; exact hvD.2.1, hRL⟩
        clear hRL hm5
        have HLL := Lib.hid (And.intro g3 g4)
        clear g3 g4
        subst g2
        have HK := Lib.hid (And.intro hA (And.intro hB (And.intro hC (And.intro hP (And.intro hLS (And.intro hLT (And.intro hLD (And.intro hLE (And.intro hva (And.intro hvb (And.intro hvc (And.intro hvS (And.intro hvT (And.intro hvD (And.intro hvE (And.intro hvL hbw))))))))))))))))
        clear hA hB hC hP hLS hLT hLD hLE hva hvb hvc hvS hvT hvD hvE hvL hbw
        go_upto_region 14 with fail
        obtain ⟨hA, hB, hC, hP, hLS, hLT, hLD, hLE, hva, hvb, hvc, hvS, hvT, hvD, hvE, hvL, hbw⟩ := HK.out
        clear HK
        have hb : Below UL.heap.size UL (UL.alloc (.cells #[.int .i64 L.coin, .slice L.pa L.l.length L.c] 24)) := (Below.refl _ _).alloc (Nat.le_refl _) _
        have hLL : Lies (UL.alloc (.cells #[.int .i64 L.coin, .slice L.pa L.l.length L.c] 24)) UL.heap.size #[.int .i64 L.coin, .slice L.pa L.l.length L.c] 24 := Lies.new _ _ _
        generalize UL.alloc (.cells #[.int .i64 L.coin, .slice L.pa L.l.length L.c] 24) = W6 at hb hLL ⊢
        obtain ⟨bL, hbe⟩ : ∃ b, b = UL.heap.size := ⟨_, rfl⟩
        rw [← hbe] at hLL ⊢
        clear hbe
        have hA := hA.below hb hA.lt
        have hB := hB.below hb hB.lt
        have hC := hC.below hb hC.lt
        have hP := hP.below hb hP.lt
        have hLS := hLS.below hb hLS.lt
        have hLT := hLT.below hb hLT.lt
        have hLD := hLD.below hb hLD.lt
        have hLE := hLE.below hb hLE.lt
        have hva := hva.below hb (Nat.le_refl _)
        have hvb := hvb.below hb (Nat.le_refl _)
        have hvc := hvc.below hb (Nat.le_refl _)
        have hvS := hvS.below hb (Nat.le_refl _)
        have hvT := hvT.below hb (Nat.le_refl _)
        have hvD := hvD.below hb (Nat.le_refl _)
        have hvE := hvE.below hb (Nat.le_refl _)
        have hvL := hvL.below hb (Nat.le_refl _)
        have hbw := hbw.trans (hb.mono hbw.size)
        clear hb
        have hs1 : sameB E.coin S.coin E.l S.l = true := by rw [HEE.out.1, HEE.out.2]; exact sameB_yes _ _
        have HS1 := Lib.hid hs1
        clear hs1 HEE
        have hs2 : sameB L.coin D.coin L.l D.l = true := by rw [HLL.out.1, HLL.out.2]; exact sameB_yes _ _
        have HS2 := Lib.hid hs2
        clear hs2 HLL
        have qhLE0 := hLE.cell 0 (v := .int .i64 E.coin) rfl
        have qhLE1 := hLE.cell 1 (v := .slice E.pa E.l.length E.c) rfl
        have qhLS0 := hLS.cell 0 (v := .int .i64 S.coin) rfl
        have qhLS1 := hLS.cell 1 (v := .slice S.pa S.l.length S.c) rfl
        have hcall := same_m W6 E S hvE.2.2 hvS.2.2
        rw [HS1.out] at hcall
        clear HS1
        have HG := Lib.hid hcall
        clear hcall
        have HK := Lib.hid (And.intro hA (And.intro hB (And.intro hC (And.intro hP (And.intro hLS (And.intro hLT (And.intro hLD (And.intro hLE (And.intro hLL (And.intro hva (And.intro hvb (And.intro hvc (And.intro hvS (And.intro hvT (And.intro hvD (And.intro hvE (And.intro hvL hbw)))))))))))))))))
        clear hA hB hC hP hLS hLT hLD hLE hLL hva hvb hvc hvS hvT hvD hvE hvL hbw
        go_wp2_with fail
        refine HG.out.mono ?_
        rintro e Y1 ⟨rfl, hb⟩
        obtain ⟨hA, hB, hC, hP, hLS, hLT, hLD, hLE, hLL, hva, hvb, hvc, hvS, hvT, hvD, hvE, hvL, hbw⟩ := HK.out
        clear HK
        clear HG qhLE0 qhLE1 qhLS0 qhLS1
        have hA := hA.below hb hA.lt
        have hB := hB.below hb hB.lt
        have hC := hC.below hb hC.lt
        have hP := hP.below hb hP.lt
        have hLS := hLS.below hb hLS.lt
        have hLT := hLT.below hb hLT.lt
        have hLD := hLD.below hb hLD.lt
        have hLE := hLE.below hb hLE.lt
        have hLL := hLL.below hb hLL.lt
        have hva := hva.below hb (Nat.le_refl _)
        have hvb := hvb.below hb (Nat.le_refl _)
        have hvc := hvc.below hb (Nat.le_refl _)
        have hvS := hvS.below hb (Nat.le_refl _)
        have hvT := hvT.below hb (Nat.le_refl _)
        have hvD := hvD.below hb (Nat.le_refl _)
        have hvE := hvE.below hb (Nat.le_refl _)
        have hvL := hvL.below hb (Nat.le_refl _)
        have hbw := hbw.trans (hb.mono hbw.size)
        clear hb
        have qhLL0 := hLL.cell 0 (v := .int .i64 L.coin) rfl
        have qhLL1 := hLL.cell 1 (v := .slice L.pa L.l.length L.c) rfl
        have qhLD0 := hLD.cell 0 (v := .int .i64 D.coin) rfl
        have qhLD1 := hLD.cell 1 (v := .slice D.pa D.l.length D.c) rfl
        have hcall := same_m Y1 L D hvL.2.2 hvD.2.2
        rw [HS2.out] at hcall
        clear HS2
        have HG := Lib.hid hcall
        clear hcall
        have HK := Lib.hid (And.intro hA (And.intro hB (And.intro hC (And.intro hP (And.intro hLS (And.intro hLT (And.intro hLD (And.intro hLE (And.intro hLL (And.intro hva (And.intro hvb (And.intro hvc (And.intro hvS (And.intro hvT (And.intro hvD (And.intro hvE (And.intro hvL hbw)))))))))))))))))
        clear hA hB hC hP hLS hLT hLD hLE hLL hva hvb hvc hvS hvT hvD hvE hvL hbw
        go_wp2_with fail
        refine HG.out.mono ?_
        rintro e Y2 ⟨rfl, hb⟩
        obtain ⟨hA, hB, hC, hP, hLS, hLT, hLD, hLE, hLL, hva, hvb, hvc, hvS, hvT, hvD, hvE, hvL, hbw⟩ := HK.out
        clear HK
        clear HG qhLL0 qhLL1 qhLD0 qhLD1
        have hA := hA.below hb hA.lt
        have hB := hB.below hb hB.lt
        have hC := hC.below hb hC.lt
        have hP := hP.below hb hP.lt
        have hLS := hLS.below hb hLS.lt
        have hLT := hLT.below hb hLT.lt
        have hLD := hLD.below hb hLD.lt
        have hLE := hLE.below hb hLE.lt
        have hLL := hLL.below hb hLL.lt
        have hva := hva.below hb (Nat.le_refl _)
        have hvb := hvb.below hb (Nat.le_refl _)
        have hvc := hvc.below hb (Nat.le_refl _)
        have hvS := hvS.below hb (Nat.le_refl _)
        have hvT := hvT.below hb (Nat.le_refl _)
        have hvD := hvD.below hb (Nat.le_refl _)
        have hvE := hvE.below hb (Nat.le_refl _)
        have hvL := hvL.below hb (Nat.le_refl _)
        have hbw := hbw.trans (hb.mono hbw.size)
        clear hb
        have qhLS0 := hLS.cell 0 (v := .int .i64 S.coin) rfl
        have qhLS1 := hLS.cell 1 (v := .slice S.pa S.l.length S.c) rfl
        have qhA0 := hA.cell 0 (v := .int .i64 a.coin) rfl
        have qhA1 := hA.cell 1 (v := .slice a.pa a.l.length a.c) rfl
        have hcall := cov_m Y2 S a hvS hva H3.out.coversA
        have HG := Lib.hid hcall
        clear hcall
        have HK := Lib.hid (And.intro hA (And.intro hB (And.intro hC (And.intro hP (And.intro hLS (And.intro hLT (And.intro hLD (And.intro hLE (And.intro hLL (And.intro hva (And.intro hvb (And.intro hvc (And.intro hvS (And.intro hvT (And.intro hvD (And.intro hvE (And.intro hvL hbw)))))))))))))))))
        clear hA hB hC hP hLS hLT hLD hLE hLL hva hvb hvc hvS hvT hvD hvE hvL hbw
        go_wp2_with fail
        refine HG.out.mono ?_
        rintro e Y3 ⟨rfl, hb⟩
        obtain ⟨hA, hB, hC, hP, hLS, hLT, hLD, hLE, hLL, hva, hvb, hvc, hvS, hvT, hvD, hvE, hvL, hbw⟩ := HK.out
        clear HK
        clear HG qhLS0 qhLS1 qhA0 qhA1
        have hA := hA.below hb hA.lt
        have hB := hB.below hb hB.lt
        have hC := hC.below hb hC.lt
        have hP := hP.below hb hP.lt
        have hLS := hLS.below hb hLS.lt
        have hLT := hLT.below hb hLT.lt
        have hLD := hLD.below hb hLD.lt
        have hLE := hLE.below hb hLE.lt
        have hLL := hLL.below hb hLL.lt
        have hva := hva.below hb (Nat.le_refl _)
        have hvb := hvb.below hb (Nat.le_refl _)
        have hvc := hvc.below hb (Nat.le_refl _)
        have hvS := hvS.below hb (Nat.le_refl _)
        have hvT := hvT.below hb (Nat.le_refl _)
        have hvD := hvD.below hb (Nat.le_refl _)
        have hvE := hvE.below hb (Nat.le_refl _)
        have hvL := hvL.below hb (Nat.le_refl _)
        have hbw := hbw.trans (hb.mono hbw.size)
        clear hb
        have qhLS0 := hLS.cell 0 (v := .int .i64 S.coin) rfl
        have qhLS1 := hLS.cell 1 (v := .slice S.pa S.l.length S.c) rfl
        have qhB0 := hB.cell 0 (v := .int .i64 b.coin) rfl
        have qhB1 := hB.cell 1 (v := .slice b.pa b.l.length b.c) rfl
        have hcall := cov_m Y3 S b hvS hvb H3.out.coversB
        have HG := Lib.hid hcall
        clear hcall
        have HK := Lib.hid (And.intro hA (And.intro hB (And.intro hC (And.intro hP (And.intro hLS (And.intro hLT (And.intro hLD (And.intro hLE (And.intro hLL (And.intro hva (And.intro hvb (And.intro hvc (And.intro hvS (And.intro hvT (And.intro hvD (And.intro hvE (And.intro hvL hbw)))))))))))))))))
        clear hA hB hC hP hLS hLT hLD hLE hLL hva hvb hvc hvS hvT hvD hvE hvL hbw
        go_wp2_with fail
        refine HG.out.mono ?_
        rintro e Y4 ⟨rfl, hb⟩
        obtain ⟨hA, hB, hC, hP, hLS, hLT, hLD, hLE, hLL, hva, hvb, hvc, hvS, hvT, hvD, hvE, hvL, hbw⟩ := HK.out
        clear HK
        clear HG qhLS0 qhLS1 qhB0 qhB1
        have hA := hA.below hb hA.lt
        have hB := hB.below hb hB.lt
        have hC := hC.below hb hC.lt
        have hP := hP.below hb hP.lt
        have hLS := hLS.below hb hLS.lt
        have hLT := hLT.below hb hLT.lt
        have hLD := hLD.below hb hLD.lt
        have hLE := hLE.below hb hLE.lt
        have hLL := hLL.below hb hLL.lt
        have hva := hva.below hb (Nat.le_refl _)
        have hvb := hvb.below hb (Nat.le_refl _)
        have hvc := hvc.below hb (Nat.le_refl _)
        have hvS := hvS.below hb (Nat.le_refl _)
        have hvT := hvT.below hb (Nat.le_refl _)
        have hvD := hvD.below hb (Nat.le_refl _)
        have hvE := hvE.below hb (Nat.le_refl _)
        have hvL := hvL.below hb (Nat.le_refl _)
        have hbw := hbw.trans (hb.mono hbw.size)
        clear hb
        have HK := Lib.hid (And.intro hA (And.intro hB (And.intro hC (And.intro hP (And.intro hLS (And.intro hLT (And.intro hLD (And.intro hLE (And.intro hLL (And.intro hva (And.intro hvb (And.intro hvc (And.intro hvS (And.intro hvT (And.intro hvD (And.intro hvE (And.intro hvL hbw)))))))))))))))))
        clear hA hB hC hP hLS hLT hLD hLE hLL hva hvb hvc hvS hvT hvD hvE hvL hbw
        go_upto_region 16 with fail
        obtain ⟨hA, hB, hC, hP, hLS, hLT, hLD, hLE, hLL, hva, hvb, hvc, hvS, hvT, hvD, hvE, hvL, hbw⟩ := HK.out
        clear HK
        have hof := H3.out.of (p, t)
        obtain ⟨xa, hxa⟩ : ∃ x, x = amtOf a.l (p, t) := ⟨_, rfl⟩
        obtain ⟨xb, hxb⟩ : ∃ x, x = amtOf b.l (p, t) := ⟨_, rfl⟩
        obtain ⟨xc, hxc⟩ : ∃ x, x = amtOf c.l (p, t) := ⟨_, rfl⟩
        rw [← hxa, ← hxb, ← hxc] at hof
        have hw1 : IntKind.i64.wrap (xa + xb) = xa + xb := by rw [IntKind.wrap_i64]; omega
        have hw2 : IntKind.i64.wrap (xa + xb + xc) = xa + xb + xc := by rw [IntKind.wrap_i64]; omega
        have hofS : ∀ W x, Below Y4.heap.size Y4 W → Calls Try.prog 12 #[.agg #[.int .i64 x, .slice S.pa S.l.length S.c], .agg pv, .string tv] W fun e w' => e = .returned (.int .i64 (xa + xb + xc)) ∧ Below W.heap.size W w' := fun W x hW => by
          rw [← hof.1]
          exact HP.out.2 W ⟨x, S.pa, S.l, S.c⟩ (hvS.2.2.below hW (Nat.le_refl _))
        have hofA : ∀ W, Below Y4.heap.size Y4 W → Calls Try.prog 12 #[.agg #[.int .i64 a.coin, .slice a.pa a.l.length a.c], .agg pv, .string tv] W fun e w' => e = .returned (.int .i64 xa) ∧ Below W.heap.size W w' := fun W hW => by rw [hxa]; exact HP.out.2 W a (hva.2.2.below hW (Nat.le_refl _))
        have hofB : ∀ W, Below Y4.heap.size Y4 W → Calls Try.prog 12 #[.agg #[.int .i64 b.coin, .slice b.pa b.l.length b.c], .agg pv, .string tv] W fun e w' => e = .returned (.int .i64 xb) ∧ Below W.heap.size W w' := fun W hW => by rw [hxb]; exact HP.out.2 W b (hvb.2.2.below hW (Nat.le_refl _))
        have hofC : ∀ W, Below Y4.heap.size Y4 W → Calls Try.prog 12 #[.agg #[.int .i64 c.coin, .slice c.pa c.l.length c.c], .agg pv, .string tv] W fun e w' => e = .returned (.int .i64 xc) ∧ Below W.heap.size W w' := fun W hW => by rw [hxc]; exact HP.out.2 W c (hvc.2.2.below hW (Nat.le_refl _))
        have HO := Lib.hid (And.intro hofA (And.intro hofB (And.intro hofC hofS)))
        clear hofA hofB hofC hofS hof hxa hxb hxc
        have HS : Hid (∀ U, Below Y4.heap.size Y4 U → Lies U w.heap.size #[.int .i64 a.coin, .slice a.pa a.l.length a.c] 24 ∧ Lies U (w.heap.size + 1) #[.int .i64 b.coin, .slice b.pa b.l.length b.c] 24 ∧ Lies U (w.heap.size + 2) #[.int .i64 c.coin, .slice c.pa c.l.length c.c] 24 ∧ Lies U (w.heap.size + 3) pv 26) := Lib.hid fun U hU => ⟨hA.below hU hA.lt, hB.below hU hB.lt, hC.below hU hC.lt, hP.below hU hP.lt⟩
        have HK := Lib.hid (And.intro hA (And.intro hB (And.intro hC (And.intro hP (And.intro hLS (And.intro hLT (And.intro hLD (And.intro hLE (And.intro hLL (And.intro hva (And.intro hvb (And.intro hvc (And.intro hvS (And.intro hvT (And.intro hvD (And.intro hvE (And.intro hvL hbw)))))))))))))))))
        clear hA hB hC hP hLS hLT hLD hLE hLL hva hvb hvc hvS hvT hvD hvE hvL hbw
        refine wp_region_noPanic (wp_region_held (S := fun U => Lies U w.heap.size #[.int .i64 a.coin, .slice a.pa a.l.length a.c] 24 ∧ Lies U (w.heap.size + 1) #[.int .i64 b.coin, .slice b.pa b.l.length b.c] 24 ∧ Lies U (w.heap.size + 2) #[.int .i64 c.coin, .slice c.pa c.l.length c.c] 24 ∧ Lies U (w.heap.size + 3) pv 26) (by kernel_rfl) ?_)
        change wpAnyH _ _ _ _ _ 15 _ _ (World.drew Y4)
        have hbd : Below Y4.heap.size Y4 Y4.drew := (Below.refl _ _).drew
        generalize World.drew Y4 = wd at hbd ⊢
        have hcur := HS.out _ hbd
        refine held_take (i := 0) (v := (.agg #[.int .i64 a.coin, .slice a.pa a.l.length a.c])) rfl 151 rfl (by kernel_rfl) (by kernel_rfl) (by kernel_rfl) (fun _ _ _ h => h) (by rfl) (by intro w' hS'; exact exec_loadM 24 _ rfl _ _ rfl #[.int .i64 a.coin, .slice a.pa a.l.length a.c] (range_lies hS'.1) Try.underlying24 rfl info_value) hcur _ rfl ?_
        simp only [Act.put, List.setIfInBounds_toArray, List.set_cons_zero, List.set_cons_succ]
        refine held_take (i := 1) (v := (.agg pv)) rfl 152 rfl (by kernel_rfl) (by kernel_rfl) (by kernel_rfl) (fun _ _ _ h => h) (by rfl) (by intro w' hS'; exact exec_loadM 26 _ rfl _ _ rfl pv (range_lies hS'.2.2.2) Try.underlying26 rfl HP.out.1) hcur _ rfl ?_
        simp only [Act.put, List.setIfInBounds_toArray, List.set_cons_zero, List.set_cons_succ]
        refine held_take (i := 2) (v := (.string tv)) rfl 153 rfl (by kernel_rfl) (by kernel_rfl) (by kernel_rfl) (fun _ _ _ h => h) (by rfl) (by intro w' hS'; unfold execOp; simp [go_sem]) hcur _ rfl ?_
        simp only [Act.put, List.setIfInBounds_toArray, List.set_cons_zero, List.set_cons_succ]
        refine held_take (i := 4) (v := (.agg #[.int .i64 b.coin, .slice b.pa b.l.length b.c])) rfl 155 rfl (by kernel_rfl) (by kernel_rfl) (by kernel_rfl) (fun _ _ _ h => h) (by rfl) (by intro w' hS'; exact exec_loadM 24 _ rfl _ _ rfl #[.int .i64 b.coin, .slice b.pa b.l.length b.c] (range_lies hS'.2.1) Try.underlying24 rfl info_value) hcur _ rfl ?_
        simp only [Act.put, List.setIfInBounds_toArray, List.set_cons_zero, List.set_cons_succ]
        refine held_take (i := 5) (v := (.agg pv)) rfl 156 rfl (by kernel_rfl) (by kernel_rfl) (by kernel_rfl) (fun _ _ _ h => h) (by rfl) (by intro w' hS'; exact exec_loadM 26 _ rfl _ _ rfl pv (range_lies hS'.2.2.2) Try.underlying26 rfl HP.out.1) hcur _ rfl ?_
        simp only [Act.put, List.setIfInBounds_toArray, List.set_cons_zero, List.set_cons_succ]
        refine held_take (i := 6) (v := (.string tv)) rfl 157 rfl (by kernel_rfl) (by kernel_rfl) (by kernel_rfl) (fun _ _ _ h => h) (by rfl) (by intro w' hS'; unfold execOp; simp [go_sem]) hcur _ rfl ?_
        simp only [Act.put, List.setIfInBounds_toArray, List.set_cons_zero, List.set_cons_succ]
        refine held_take (i := 9) (v := (.agg #[.int .i64 c.coin, .slice c.pa c.l.length c.c])) rfl 160 rfl (by kernel_rfl) (by kernel_rfl) (by kernel_rfl) (fun _ _ _ h => h) (by rfl) (by intro w' hS'; exact exec_loadM 24 _ rfl _ _ rfl #[.int .i64 c.coin, .slice c.pa c.l.length c.c] (range_lies hS'.2.2.1) Try.underlying24 rfl info_value) hcur _ rfl ?_
        simp only [Act.put, List.setIfInBounds_toArray, List.set_cons_zero, List.set_cons_succ]
        refine held_take (i := 10) (v := (.agg pv)) rfl 161 rfl (by kernel_rfl) (by kernel_rfl) (by kernel_rfl) (fun _ _ _ h => h) (by rfl) (by intro w' hS'; exact exec_loadM 26 _ rfl _ _ rfl pv (range_lies hS'.2.2.2) Try.underlying26 rfl HP.out.1) hcur _ rfl ?_
        simp only [Act.put, List.setIfInBounds_toArray, List.set_cons_zero, List.set_cons_succ]
        refine held_take (i := 11) (v := (.string tv)) rfl 162 rfl (by kernel_rfl) (by kernel_rfl) (by kernel_rfl) (fun _ _ _ h => h) (by rfl) (by intro w' hS'; unfold execOp; simp [go_sem]) hcur _ rfl ?_
        simp only [Act.put, List.setIfInBounds_toArray, List.set_cons_zero, List.set_cons_succ]
        refine held_one (i := 3) (by kernel_rfl) _ rfl (wpOp_callG rfl (by rfl) 154 rfl 12 #[.agg #[.int .i64 a.coin, .slice a.pa a.l.length a.c], .agg pv, .string tv] (by unfold execOp; simp [go_sem]) _ (ret_of (HO.out.1 wd hbd)) ?_)
        rintro v1 z1 ⟨rfl, hb1⟩
        have hc1 := hbd.trans (hb1.mono hbd.size)
        have hcur := HS.out _ hc1
        refine ⟨hcur, ?_⟩
        simp only [Act.put, List.setIfInBounds_toArray, List.set_cons_zero, List.set_cons_succ]
        refine held_one (i := 7) (by kernel_rfl) _ rfl (wpOp_callG rfl (by rfl) 158 rfl 12 #[.agg #[.int .i64 b.coin, .slice b.pa b.l.length b.c], .agg pv, .string tv] (by unfold execOp; simp [go_sem]) _ (ret_of (HO.out.2.1 z1 hc1)) ?_)
        rintro v2 z2 ⟨rfl, hb2⟩
        have hc2 := hc1.trans (hb2.mono hc1.size)
        have hcur := HS.out _ hc2
        refine ⟨hcur, ?_⟩
        simp only [Act.put, List.setIfInBounds_toArray, List.set_cons_zero, List.set_cons_succ]
        refine held_take (i := 8) (v := (.int .i64 (xa + xb))) rfl 159 rfl (by kernel_rfl) (by kernel_rfl) (by kernel_rfl) (fun _ _ _ h => h) (by rfl) (by intro w' hS'; unfold execOp; simp [go_sem, hw1]) hcur _ rfl ?_
        simp only [Act.put, List.setIfInBounds_toArray, List.set_cons_zero, List.set_cons_succ]
        refine held_one (i := 12) (by kernel_rfl) _ rfl (wpOp_callG rfl (by rfl) 163 rfl 12 #[.agg #[.int .i64 c.coin, .slice c.pa c.l.length c.c], .agg pv, .string tv] (by unfold execOp; simp [go_sem]) _ (ret_of (HO.out.2.2.1 z2 hc2)) ?_)
        rintro v3 z3 ⟨rfl, hb3⟩
        have hc3 := hc2.trans (hb3.mono hc2.size)
        have hcur := HS.out _ hc3
        refine ⟨hcur, ?_⟩
        simp only [Act.put, List.setIfInBounds_toArray, List.set_cons_zero, List.set_cons_succ]
        refine held_take (i := 13) (v := (.int .i64 (xa + xb + xc))) rfl 164 rfl (by kernel_rfl) (by kernel_rfl) (by kernel_rfl) (fun _ _ _ h => h) (by rfl) (by intro w' hS'; unfold execOp; simp [go_sem, hw2]) hcur _ rfl ?_
        simp only [Act.put, List.setIfInBounds_toArray, List.set_cons_zero, List.set_cons_succ]
        refine held_take (i := 14) (v := (.int .i64 (xa + xb + xc))) rfl 21 rfl (by kernel_rfl) (by kernel_rfl) (by kernel_rfl) (fun _ _ _ h => h) (by rfl) (by intro w' hS'; unfold execOp; simp [go_sem]) hcur _ rfl ?_
        simp only [Act.put, List.setIfInBounds_toArray, List.set_cons_zero, List.set_cons_succ]
        refine wpAnyH_done (by kernel_rfl) ?_ _
        unfold NoPanic
        dsimp only
        clear hcur hb1 hb2 hb3 hc1 hc2 hbd hw1 hw2
        obtain ⟨hA, hB, hC, hP, hLS, hLT, hLD, hLE, hLL, hva, hvb, hvc, hvS, hvT, hvD, hvE, hvL, hbw⟩ := HK.out
        clear HK
        have hA := hA.below hc3 hA.lt
        have hB := hB.below hc3 hB.lt
        have hC := hC.below hc3 hC.lt
        have hP := hP.below hc3 hP.lt
        have hLS := hLS.below hc3 hLS.lt
        have hLT := hLT.below hc3 hLT.lt
        have hLD := hLD.below hc3 hLD.lt
        have hLE := hLE.below hc3 hLE.lt
        have hLL := hLL.below hc3 hLL.lt
        have hva := hva.below hc3 (Nat.le_refl _)
        have hvb := hvb.below hc3 (Nat.le_refl _)
        have hvc := hvc.below hc3 (Nat.le_refl _)
        have hvS := hvS.below hc3 (Nat.le_refl _)
        have hvT := hvT.below hc3 (Nat.le_refl _)
        have hvD := hvD.below hc3 (Nat.le_refl _)
        have hvE := hvE.below hc3 (Nat.le_refl _)
        have hvL := hvL.below hc3 (Nat.le_refl _)
        have hbw := hbw.trans (hc3.mono hbw.size)
        have hcn := H3.out.coins
        have hw3 : IntKind.i64.wrap (a.coin + b.coin) = a.coin + b.coin := by rw [IntKind.wrap_i64]; omega
        have hw4 : IntKind.i64.wrap (a.coin + b.coin + c.coin) = a.coin + b.coin + c.coin := by rw [IntKind.wrap_i64]; omega
        have hse : S.coin = a.coin + b.coin + c.coin := hcn.1
        clear hcn
        have qhA0 := hA.cell 0 (v := .int .i64 a.coin) rfl
        have qhA1 := hA.cell 1 (v := .slice a.pa a.l.length a.c) rfl
        have qhB0 := hB.cell 0 (v := .int .i64 b.coin) rfl
        have qhB1 := hB.cell 1 (v := .slice b.pa b.l.length b.c) rfl
        have qhC0 := hC.cell 0 (v := .int .i64 c.coin) rfl
        have qhC1 := hC.cell 1 (v := .slice c.pa c.l.length c.c) rfl
        have qhLS0 := hLS.cell 0 (v := .int .i64 S.coin) rfl
        have qhLS1 := hLS.cell 1 (v := .slice S.pa S.l.length S.c) rfl
        have hoS := fun x => HO.out.2.2.2 z3 x hc3
        have HOS := Lib.hid hoS
        have HPZ := Lib.hid hP
        clear hoS hc3
        have HK := Lib.hid (And.intro hA (And.intro hB (And.intro hC (And.intro hP (And.intro hLS (And.intro hLT (And.intro hLD (And.intro hLE (And.intro hLL (And.intro hva (And.intro hvb (And.intro hvc (And.intro hvS (And.intro hvT (And.intro hvD (And.intro hvE (And.intro hvL hbw)))))))))))))))))
        clear hA hB hC hP hLS hLT hLD hLE hLL hva hvb hvc hvS hvT hvD hvE hvL hbw
        go_wp2_with (first | (refine wpList_load_rowG (by rfl) 26 _ rfl (w.heap.size + 3) rfl 26 pv (0, 0) _ HPZ.out Try.underlying26 rfl HP.out.1 ?_) | fail)
        refine (HOS.out _).mono ?_
        rintro e z4 ⟨rfl, hb⟩
        obtain ⟨hA, hB, hC, hP, hLS, hLT, hLD, hLE, hLL, hva, hvb, hvc, hvS, hvT, hvD, hvE, hvL, hbw⟩ := HK.out
        clear HK
        clear qhA0 qhA1 qhB0 qhB1 qhC0 qhC1 qhLS0 qhLS1
        have hA := hA.below hb hA.lt
        have hB := hB.below hb hB.lt
        have hC := hC.below hb hC.lt
        have hP := hP.below hb hP.lt
        have hLS := hLS.below hb hLS.lt
        have hLT := hLT.below hb hLT.lt
        have hLD := hLD.below hb hLD.lt
        have hLE := hLE.below hb hLE.lt
        have hLL := hLL.below hb hLL.lt
        have hva := hva.below hb (Nat.le_refl _)
        have hvb := hvb.below hb (Nat.le_refl _)
        have hvc := hvc.below hb (Nat.le_refl _)
        have hvS := hvS.below hb (Nat.le_refl _)
        have hvT := hvT.below hb (Nat.le_refl _)
        have hvD := hvD.below hb (Nat.le_refl _)
        have hvE := hvE.below hb (Nat.le_refl _)
        have hvL := hvL.below hb (Nat.le_refl _)
        have hbw := hbw.trans (hb.mono hbw.size)
        have HE := Lib.hid hbw
        clear hA hB hC hP hLS hLT hLD hLE hLL hva hvb hvc hvS hvT hvD hvE hvL hbw hb
        go_wp2_with fail
        go_ret
        exact ⟨rfl, HE.out⟩
end Go.Proofs.Ytjngghihciimjaa
