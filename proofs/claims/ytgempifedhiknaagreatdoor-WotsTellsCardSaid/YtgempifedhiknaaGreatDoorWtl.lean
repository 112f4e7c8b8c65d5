/-
  WotsTells' walk: what any seed signs, and its key, are what the document tells; two signatures lie apart (3).
-/
import Derived.Test.YtgempifedhiknaaGreatDoorWts
import Derived.Test.YtgempifedhiknaaGreatDoorApr
import Derived.Laws.IdiomStrings
import Derived.Laws.BytesString
import Derived.Deep.RegionHeld3
namespace Go.Proofs.YtgempifedhiknaaGreatDoor
set_option maxRecDepth 100000
open Go.RowKit Go.Shelf Sha

set_option maxHeartbeats 1000000 in
theorem same_any (F : List UInt8) (hF : F.length = 1120) (g1 c1 g2 c2 : Nat) (w : World) (h1 : g1 < w.heap.size) (s1 : Src w g1 0 F) (h2 : g2 < w.heap.size) (s2 : Src w g2 0 F) :
    Calls Tryz.prog 6 #[.agg #[.slice (some ⟨g1, 0, none⟩) 35 c1], .agg #[.slice (some ⟨g2, 0, none⟩) 35 c2]] w fun e w' => e = .returned (.bool true) ∧ Below w.heap.size w w' := by
  have hb : Below w.heap.size w ((w.alloc (.cells #[.slice (some ⟨g1, 0, none⟩) 35 c1] 28)).alloc (.cells #[.slice (some ⟨g2, 0, none⟩) 35 c2] 28)) := ((Below.refl _ _).alloc (Nat.le_refl _) _).alloc (by simp) _
  have hsh := samehashes_any F 35 hF (by omega) (some ⟨g1, 0, none⟩) (some ⟨g2, 0, none⟩) c1 c2 ((w.alloc (.cells #[.slice (some ⟨g1, 0, none⟩) 35 c1] 28)).alloc (.cells #[.slice (some ⟨g2, 0, none⟩) 35 c2] 28))
    (fun _ => ⟨g1, 0, rfl, Nat.lt_of_lt_of_le h1 hb.size, fun j hj => (hb.cell (p := ⟨g1, 0 + j, none⟩) h1).trans (s1 j hj)⟩) (fun _ => ⟨g2, 0, rfl, Nat.lt_of_lt_of_le h2 hb.size, fun j hj => (hb.cell (p := ⟨g2, 0 + j, none⟩) h2).trans (s2 j hj)⟩)
  have HSH := Lib.hid (And.intro hsh hb)
  clear hsh hb s1 s2 h1 h2 hF
  go_enter Tryz.func6, Tryz.ntmps6
  go_wp2_with fail
  refine HSH.out.1.mono ?_
  rintro e w3 ⟨rfl, hb3⟩
  have hbb := HSH.out.2.trans (hb3.mono HSH.out.2.size)
  clear hb3
  go_wp2_with fail
  go_ret
  exact ⟨rfl, hbb⟩
theorem text_src {W : World} {k off c : Nat} {l : List UInt8} (h : Src W k off l) : (convert 22 9 (.slice (some ⟨k, off, none⟩) l.length c)).run Tryz.prog W = .ok (.string ⟨l.toArray⟩) W :=
  run_convert_bytes_back W 22 9 5 ⟨k, off, none⟩ c l Tryz.underlying22 Tryz.underlying5 Tryz.underlying9 (fun j hj => by
    rw [Addr.add_mid, h j hj]
    simp [hj])
/-- A part's bytes as a text. -/
theorem good_text {W : World} {pa : Option Addr} {xs : List UInt8} {pc : Nat} (hg : Good W ⟨pa, xs, pc⟩) : (convert 22 9 (.slice pa xs.length pc)).run Tryz.prog W = .ok (.string ⟨xs.toArray⟩) W := by
  cases xs with
  | nil =>
    rw [run_convert_bytes_string W 22 9 5 pa _ pc Tryz.underlying22 Tryz.underlying5 Tryz.underlying9]
    cases pa <;> simp [Conv.bytesToString, loadCells]
    all_goals rfl
  | cons x l =>
    obtain ⟨g, off, e, _, hs⟩ := hg.2.2 (by simp)
    cases e
    exact text_src hs
theorem bytes_own (w : World) : (w.alloc (.cells #[] 5)).ownsRow w.heap.size 5 1 (.slice (some ⟨w.heap.size, 0, none⟩) 0 0) 0 [] :=
  ⟨rfl, .inr ⟨w.heap.size, 0, #[], rfl, Nat.le_refl _, heap_alloc_new w _, Nat.le_refl _, Nat.zero_le _, rfl, rfl⟩⟩
/-- A copy of any bytes, behind an empty slice. -/
theorem run_copy (w : World) (pa : Option Addr) (xs : List UInt8) (pc : Nat) (hg : Good w ⟨pa, xs, pc⟩) (hx : xs.length ≤ 900000) (hn : pa = none → pc = 0) (ty : TypeId) :
    ∃ g c w', (Builtin.append_ #[22, 22] ty #[.slice (some ⟨w.heap.size, 0, none⟩) 0 0, .slice pa xs.length pc]).run Tryz.prog (w.alloc (.cells #[] 5)) = .ok (.slice (some ⟨g, 0, none⟩) xs.length c) w' ∧
      Good w' ⟨some ⟨g, 0, none⟩, xs, c⟩ ∧ Below w.heap.size w w' := by
  obtain ⟨i0, hi0, hz0, hz1, hz2⟩ := info_parts info5
  have hb0 : Below w.heap.size w (w.alloc (.cells #[] 5)) := (Below.refl _ _).alloc (Nat.le_refl _) _
  have main : ∀ ad : Addr, (∀ j u, (B8 xs).toList[j]? = some u → (w.alloc (.cells #[] 5)).cell? (ad.add j) = some u) → ∃ g c w', (Builtin.append_ #[22, 22] ty #[.slice (some ⟨w.heap.size, 0, none⟩) 0 0, .slice (some ad) xs.length pc]).run Tryz.prog (w.alloc (.cells #[] 5)) = .ok (.slice (some ⟨g, 0, none⟩) xs.length c) w' ∧
      Good w' ⟨some ⟨g, 0, none⟩, xs, c⟩ ∧ Below w.heap.size w w' := by
    intro ad hnews
    obtain ⟨g', c', w', h1, h2, h3⟩ := run_append_keep (P := Tryz.prog) (w.alloc (.cells #[] 5)) w.heap.size 22 ty 5 i0 (.int .u8 0) 1 1 Tryz.underlying22 hi0 hz0 hz1 hz2 rfl w.heap.size 0 0 [] (bytes_own w) ad xs.length pc (B8 xs).toList (by rw [Array.length_toList, B8_size]; omega) hnews (byts_one _) (by unfold maxLen; omega) (by omega) (by simp)
    rw [Nat.zero_add] at h1 h2
    have hsz : g' < w'.heap.size ∧ xs.length ≤ c' ∧ c' ≤ maxLen := by
      rcases h2.2 with ⟨e, _⟩ | ⟨g2, cap2, cur, e, _, hg2, q1, q2, _⟩
      · cases e
      · cases e
        exact ⟨(Array.getElem?_eq_some_iff.1 hg2).1, q1, q2⟩
    refine ⟨g', c', w', h1, ⟨hsz.2.1, hsz.2.2, fun _ => ⟨g', 0, rfl, hsz.1, fun j hj => ?_⟩⟩, ?_⟩
    · have := h2.cells (g := g') rfl j (.int .u8 (xs.getD j 0).toNat) (by rw [List.nil_append, Array.getElem?_toList]; exact B8_get xs j hj)
      rwa [Addr.add_mid] at this
    · rcases h3 with ⟨_, _, hg3⟩ | ⟨_, hb3⟩
      · exact hb0.grown hg3 (by simp) (fun j e => by cases e; exact Nat.le_refl _)
      · exact hb0.trans (hb3.mono (by simp))
  cases hxs : xs with
  | nil =>
    subst hxs
    cases pa with
    | some ad => exact main ad (fun j u hu => by simp [B8] at hu)
    | none =>
      obtain rfl := hn rfl
      refine ⟨w.heap.size, 0, w.alloc (.cells #[] 5), ?_, ⟨Nat.le_refl _, Nat.zero_le _, fun h => absurd h (by simp)⟩, hb0⟩
      simp [Builtin.append_, run_underlying Tryz.underlying22, sizeOf, typeInfo, hi0, Builtin.lenOf, Builtin.firstCells, storeCells]
  | cons x l =>
    rw [← hxs]
    obtain ⟨g, off, e, hgl, hs⟩ := hg.2.2 (by simp [hxs])
    have e' : pa = some ⟨g, off, none⟩ := e
    subst e'
    exact main _ (src_news (fun j hj => (hb0.cell (p := ⟨g, off + j, none⟩) hgl).trans (hs j hj)))
theorem wpList_copyIn {w : World} {ops : Array Oper} {rest : List Oper} {o : Oper} {a : Act} {Q : Exit → Act → World → Prop} (hg : o.guard = none) (s x : Operand) (ho : o.op = .call { callee := .builtin .append, args := #[s, x], argTypes := #[22, 22] })
    (pa : Option Addr) (xs : List UInt8) (pc : Nat) (hgood : Good w ⟨pa, xs, pc⟩) (hx : xs.length ≤ 900000) (hn : pa = none → pc = 0)
    (hs : a.eval s = .slice (some ⟨w.heap.size, 0, none⟩) 0 0) (hxx : a.eval x = .slice pa xs.length pc)
    (k : ∀ g c w', Good w' ⟨some ⟨g, 0, none⟩, xs, c⟩ → Below w.heap.size w w' → wpList Tryz.prog ops Q rest (a.put o.dst (.slice (some ⟨g, 0, none⟩) xs.length c)) w') : wpList Tryz.prog ops Q (o :: rest) a (w.alloc (.cells #[] 5)) :=
  wpList_plain hg fun K hK => by
    obtain ⟨g, c, w', h1, h2, h3⟩ := run_copy w pa xs pc hgood hx hn o.type
    unfold Oper.wp execOp
    simp only [ho, resolve, invoke, builtin, Sem.run_bind, Sem.run_pure, Result.andThen_ok, List.map_toArray, List.map_cons, List.map_nil, hs, hxx, h1]
    exact hK _ _ (k g c w' h2 h3)
theorem blk_sig {W : World} {g c : Nat} {cs : Array Value} (h : W.heap[g]? = some (.cells cs 24 (0, 0))) (hz : cs.size = c * 32) : Blk W g c := ⟨cs, h, hz⟩
set_option maxHeartbeats 4000000 in
theorem tellslaw_any (w : World) (pa : Option Addr) (xs : List UInt8) (pc : Nat) (m : List UInt8) (hm : m.length = 32) (hx : xs.length ≤ maxLen) (hg : Good w ⟨pa, xs, pc⟩) (hn : pa = none → pc = 0) (hs : Starts w) (hc : Cubes w) :
    Calls Tryz.prog 3 #[.slice pa xs.length pc, .agg (B8 m)] w fun e w' => e = .returned (.bool true) ∧ Below w.heap.size w w' := by
  obtain ⟨mv, hmv⟩ : ∃ mv, mv = B8 m := ⟨_, rfl⟩
  have hm32 : mv.size = 32 := by rw [hmv, B8_size, hm]
  rw [← hmv]
  have HV := Lib.hid (And.intro hmv (And.intro hm32 hm))
  have HSC := Lib.hid (And.intro hs (And.intro hc (And.intro hg hn)))
  have hxi : (xs.length : Int) ≤ 9223372036854775807 := by unfold maxLen at hx; omega
  clear hmv hm hs hc hg hx hn
  go_enter Tryz.func3, Tryz.ntmps3
  go_upto_region 1 with fail
  have hA : Lies (w.alloc (.cells mv 24)) w.heap.size mv 24 := Lies.new _ _ _
  have hb0 : Below w.heap.size w (w.alloc (.cells mv 24)) := (Below.refl _ _).alloc (Nat.le_refl _) _
  generalize w.alloc (.cells mv 24) = W0 at hA hb0 ⊢
  have h1n := Lies.lt HSC.out.2.1
  have hk : ∀ V, Below W0.heap.size W0 V → Starts V ∧ Cubes V ∧ Good V ⟨pa, xs, pc⟩ ∧ Below w.heap.size w V ∧ Lies V w.heap.size mv 24 := fun V hV => by
    have hbv := hb0.trans (hV.mono hb0.size)
    exact ⟨HSC.out.1.below hbv (by omega), HSC.out.2.1.below hbv h1n, HSC.out.2.2.1.below hbv, hbv, hA.below hV hA.lt⟩
  have HK := Lib.hid hk
  clear hA hb0 hk h1n
  by_cases hlong : 300 < xs.length
  · have m1 : (300 : Int) < (xs.length : Int) := by omega
    have haw := awake_any W0 (HK.out _ (Below.refl _ _)).1 (HK.out _ (Below.refl _ _)).2.1
    have HAW := Lib.hid haw
    clear haw hlong
    go_wp2_with (go_at_call 4; refine HAW.out.mono ?_; rintro e w1 ⟨rfl, hb1⟩)
    have hend := (HK.out _ hb1).2.2.2.1
    clear hb1
    go_wp2_with fail
    go_ret
    exact ⟨rfl, hend⟩
  · have m1 : decide ((300 : Int) < (xs.length : Int)) = false := by simp; omega
    have hx9 : xs.length ≤ 900000 := by omega
    have HX := Lib.hid hx9
    have hgw := (HK.out _ (Below.refl _ _)).2.2.1
    have HGW := Lib.hid hgw
    clear hlong hx9 hgw
    go_upto_region 4 with (at_builtin; go_must (refine wpList_copyIn rfl _ _ rfl pa xs pc HGW.out HX.out HSC.out.2.2.2 rfl rfl ?_); intro gi ci W1 hgi hb1)
    have hk1 : ∀ V, Below W1.heap.size W1 V → Starts V ∧ Cubes V ∧ Good V ⟨pa, xs, pc⟩ ∧ Good V ⟨some ⟨gi, 0, none⟩, xs, ci⟩ ∧ Below w.heap.size w V ∧ Lies V w.heap.size mv 24 := fun V hV => by
      have h := HK.out V (hb1.trans (hV.mono hb1.size))
      exact ⟨h.1, h.2.1, h.2.2.1, hgi.below hV, h.2.2.2.1, h.2.2.2.2⟩
    have HK1 := Lib.hid hk1
    have sizeM : (Tryz.prog.info? 24).map (·.size) = some mv.toList.length := by rw [Array.length_toList, HV.out.2.1]; kernel_rfl
    have SM := Lib.hid sizeM
    clear hgi hb1 hk1 sizeM
    refine wp_region_held (S := Below W1.heap.size W1) (by kernel_rfl) ?_
    change wpAnyH _ _ _ _ _ 10 _ _ (World.drew W1)
    have hcur : Below W1.heap.size W1 W1.drew := (Below.refl _ _).drew
    refine held_take (i := 0) (v := (.slice (some ⟨gi, 0, none⟩) xs.length ci)) rfl 15 rfl (by kernel_rfl) (by kernel_rfl) (by kernel_rfl) (fun _ _ _ h => h) (by rfl) (by intro w' hS'; unfold execOp; simp [go_sem]) hcur _ rfl ?_
    simp only [Act.put, List.setIfInBounds_toArray, List.set_cons_zero, List.set_cons_succ]
    refine held_take (i := 1) (v := (.agg mv)) rfl 16 rfl (by kernel_rfl) (by kernel_rfl) (by kernel_rfl) (fun _ _ _ h => h) (by rfl) (by intro w' hS'; exact exec_loadA _ rfl _ _ rfl (range_lies (HK1.out _ hS').2.2.2.2.2) SM.out) hcur _ rfl ?_
    simp only [Act.put, List.setIfInBounds_toArray, List.set_cons_zero, List.set_cons_succ]
    refine held_take (i := 3) (v := (.slice (some ⟨gi, 0, none⟩) xs.length ci)) rfl 18 rfl (by kernel_rfl) (by kernel_rfl) (by kernel_rfl) (fun _ _ _ h => h) (by rfl) (by intro w' hS'; unfold execOp; simp [go_sem]) hcur _ rfl ?_
    simp only [Act.put, List.setIfInBounds_toArray, List.set_cons_zero, List.set_cons_succ]
    refine held_take (i := 4) (v := (.agg mv)) rfl 19 rfl (by kernel_rfl) (by kernel_rfl) (by kernel_rfl) (fun _ _ _ h => h) (by rfl) (by intro w' hS'; exact exec_loadA _ rfl _ _ rfl (range_lies (HK1.out _ hS').2.2.2.2.2) SM.out) hcur _ rfl ?_
    simp only [Act.put, List.setIfInBounds_toArray, List.set_cons_zero, List.set_cons_succ]
    refine signs3_any W1 (signL xs m) (signL xs m) _ 17 20 6 7 (by decide) (by decide) (by decide) (by decide) (by decide) (by decide) (by show (17 : Nat) < 50; decide) (by show (20 : Nat) < 50; decide) (by show (6 : Nat) < 50; decide) (by show (7 : Nat) < 50; decide)
      5 #[.slice (some ⟨gi, 0, none⟩) xs.length ci, .agg mv] #[.slice (some ⟨gi, 0, none⟩) xs.length ci, .agg mv] _ _ _ _ _ _ rfl rfl rfl (fun _ _ _ _ _ => by kernel_rfl) rfl rfl rfl (fun _ _ _ _ _ => by kernel_rfl) rfl rfl rfl rfl rfl rfl rfl rfl rfl rfl rfl rfl rfl rfl rfl rfl (by kernel_rfl) ?hd1 ?hd2 ?hR _ hcur
    case hd1 =>
      intro W hW
      have h := HK1.out _ hW
      rw [HV.out.1]
      exact (sign_any W (some ⟨gi, 0, none⟩) xs ci m HV.out.2.2 HX.out h.2.2.2.1 h.1 h.2.1).mono fun e w' ⟨v, he, hr, hb⟩ => ⟨_, he, (sigw_of hr).mono (Nat.le_succ _), hb⟩
    case hd2 =>
      intro W hW
      have h := HK1.out _ hW
      rw [HV.out.1]
      exact (sign_any W (some ⟨gi, 0, none⟩) xs ci m HV.out.2.2 HX.out h.2.2.2.1 h.1 h.2.1).mono fun e w' ⟨v, he, hr, hb⟩ => ⟨_, he, (sigw_of hr).mono (Nat.le_succ _), hb⟩
    rintro v1 v2 b9 b10 x1 x2 w6 hb9 hb10 ⟨k1, d1, cs1, he1, hcs1, hF1, hz1, hq1, hr1, hn1⟩ ⟨k2, d2, cs2, he2, hcs2, hF2, hz2, hq2, hr2, hn2⟩ hne hl9 hl10 hb6
    obtain rfl : x1 = _ := by simpa using he1
    obtain rfl : x2 = _ := by simpa using he2
    simp only [put4, Act.put, List.setIfInBounds_toArray, List.set_cons_zero, List.set_cons_succ]
    have hne' : k1 ≠ k2 := hne
    have hs1 : Src w6 k1 0 (signL xs m) := fun j hj => by rw [Nat.zero_add, cell_of_row w6 k1 j cs1 24 (0, 0) hcs1]; exact hF1 j hj
    have hk1l := (Array.getElem?_eq_some_iff.1 hcs1).1
    have hk2l := (Array.getElem?_eq_some_iff.1 hcs2).1
    have hall : ∀ V, Below w6.heap.size w6 V → Below W1.heap.size W1 V ∧ Src V k1 0 (signL xs m) ∧ k1 < V.heap.size ∧ Lies V b9 #[.slice (some ⟨k1, 0, none⟩) 35 d1] 28 ∧ Lies V b10 #[.slice (some ⟨k2, 0, none⟩) 35 d2] 28 ∧ Blk V k1 d1 ∧ Blk V k2 d2 := fun V hV =>
      ⟨hb6.trans (hV.mono hb6.size), fun j hj => (hV.cell (p := ⟨k1, 0 + j, none⟩) hk1l).trans (hs1 j hj), Nat.lt_of_lt_of_le hk1l hV.size, hl9.below hV hl9.lt, hl10.below hV hl10.lt, (blk_sig hcs1 hz1).below hV hk1l, (blk_sig hcs2 hz2).below hV hk2l⟩
    have HALL := Lib.hid hall
    have HN := Lib.hid (And.intro hne' (And.intro (And.intro hq1 hr1) (And.intro (And.intro hq2 hr2) (And.intro hn1 (And.intro hn2 hb6.size)))))
    clear hall hs1 hcs1 hcs2 hF1 hF2 he1 he2 hl9 hl10 hb6 hb9 hb10 hne hne' hk1l hk2l hz1 hz2 hq1 hq2 hr1 hr2 hn1 hn2 hcur
    go_upto_region 5 with fail
    obtain ⟨tx, htx⟩ : ∃ tx : ByteArray, tx = ⟨xs.toArray⟩ := ⟨_, rfl⟩
    obtain ⟨n, hn⟩ : ∃ n, n = xs.length := ⟨_, rfl⟩
    obtain ⟨kvv, hkvv⟩ : ∃ v, v = B8 (keyH xs) := ⟨_, rfl⟩
    have hS : ∀ V, Below w6.heap.size w6 V → V.cell? ⟨b9, 0, none⟩ = some (.slice (some ⟨k1, 0, none⟩) 35 d1) ∧ V.rangeAt w.heap.size 0 mv.toList ∧ (convert 22 9 (.slice (some ⟨gi, 0, none⟩) n ci)).run Tryz.prog V = .ok (.string tx) V ∧ (convert 22 9 (.slice pa n pc)).run Tryz.prog V = .ok (.string tx) V := fun V hV => by
      have h := HALL.out V hV
      have h1 := HK1.out V h.1
      rw [htx, hn]
      exact ⟨h.2.2.2.1.cell 0 rfl, range_lies h1.2.2.2.2.2, good_text h1.2.2.2.1, good_text h1.2.2.1⟩
    have hrs : ∀ V, Below w6.heap.size w6 V → Calls Tryz.prog 7 #[.slice pa n pc, .agg mv] V fun e w' => ∃ g c, e = .returned (.agg #[.slice (some ⟨g, 0, none⟩) 35 c]) ∧ g < w'.heap.size ∧ Src w' g 0 (signL xs m) ∧ Below V.heap.size V w' := fun V hV => by
      have h1 := HK1.out V (HALL.out V hV).1
      rw [hn, HV.out.1]
      refine (rsign_any V pa xs pc m HV.out.2.2 HX.out h1.2.2.1 HSC.out.2.2.2).mono ?_
      rintro e w' ⟨v, rfl, hr, hb⟩
      obtain ⟨g, c, rfl, _⟩ := hr.shape (by omega)
      exact ⟨g, c, rfl, (hr.block g rfl).2.1, hr.src, hb⟩
    have hsm : ∀ V g c, Below w6.heap.size w6 V → g < V.heap.size → Src V g 0 (signL xs m) → Calls Tryz.prog 6 #[.agg #[.slice (some ⟨k1, 0, none⟩) 35 d1], .agg #[.slice (some ⟨g, 0, none⟩) 35 c]] V fun e w' => e = .returned (.bool true) ∧ Below V.heap.size V w' := fun V g c hV hg hs =>
      same_any _ (signL_length _ _) k1 d1 g c V (HALL.out V hV).2.2.1 (HALL.out V hV).2.1 hg hs
    have hky : ∀ V, Below w6.heap.size w6 V → Calls Tryz.prog 8 #[.slice (some ⟨gi, 0, none⟩) n ci] V fun e w' => e = .returned (.agg kvv) ∧ Below V.heap.size V w' := fun V hV => by
      have h1 := HK1.out V (HALL.out V hV).1
      rw [hn, hkvv]
      exact key_any V (some ⟨gi, 0, none⟩) xs ci HX.out h1.2.2.2.1 h1.1 h1.2.1
    have hrk : ∀ V, Below w6.heap.size w6 V → Calls Tryz.prog 9 #[.slice pa n pc] V fun e w' => e = .returned (.agg kvv) ∧ Below V.heap.size V w' := fun V hV => by
      have h1 := HK1.out V (HALL.out V hV).1
      rw [hn, hkvv]
      exact rkey_any V pa xs pc HX.out h1.2.2.1 HSC.out.2.2.2
    have heq1 : ∀ V, (Op.equalIn 10000 24 (.agg kvv) (.agg kvv)).run Tryz.prog V = .ok true V := fun V => by rw [hkvv]; exact equal_same _ (keyH_length xs) V
    have hgu := guard26
    have under24 := Tryz.underlying24
    have size1 := SM.out
    have d5 : Below w6.heap.size w6 w6.drew := (Below.refl _ _).drew
    have s5 := hS _ d5
    have HS := Lib.hid hS
    have HRS := Lib.hid hrs
    have HSM := Lib.hid hsm
    have HKY := Lib.hid hky
    have HRK := Lib.hid hrk
    rw [← hn]
    clear hS hrs hsm hky hrk htx hn hkvv hxi m1
    go_region_held3 (fun V => V.cell? ⟨b9, 0, none⟩ = some (.slice (some ⟨k1, 0, none⟩) 35 d1) ∧ V.rangeAt w.heap.size 0 mv.toList ∧ (convert 22 9 (.slice (some ⟨gi, 0, none⟩) n ci)).run Tryz.prog V = .ok (.string tx) V ∧ (convert 22 9 (.slice pa n pc)).run Tryz.prog V = .ok (.string tx) V)
      (first | exact s5 | exact HS.out _ (by assumption))
      (first
        | (with_reducible refine (HRS.out _ (by assumption)).mono ?_; rintro e w7 ⟨g7, c7, rfl, hg7, hs7, hb7'⟩; have hb7 : Below w6.heap.size w6 w7 := d5.trans (hb7'.mono d5.size))
        | (with_reducible refine (HSM.out _ _ _ (by assumption) (by assumption) (by assumption)).mono ?_; rintro e w8 ⟨rfl, hb8'⟩; have hb8 : Below w6.heap.size w6 w8 := hb7.trans (hb8'.mono hb7.size))
        | (with_reducible refine (HKY.out _ (by assumption)).mono ?_; rintro e w9 ⟨rfl, hb9'⟩; have hb9 : Below w6.heap.size w6 w9 := hb8.trans (hb9'.mono hb8.size))
        | (with_reducible refine (HRK.out _ (by assumption)).mono ?_; rintro e w10 ⟨rfl, hb10'⟩; have hb10 : Below w6.heap.size w6 w10 := hb9.trans (hb10'.mono hb9.size)))
    have h10 := HALL.out _ hb10
    have c9 := h10.2.2.2.1.cell 0 (v := .slice (some ⟨k1, 0, none⟩) 35 d1) rfl
    have c10 := h10.2.2.2.2.1.cell 0 (v := .slice (some ⟨k2, 0, none⟩) 35 d2) rfl
    have hbx : Below W1.heap.size W1 (w10.alloc (.cells #[.slice (some ⟨k1, 0, none⟩) 35 d1, .slice (some ⟨k2, 0, none⟩) 35 d2] 26)) := h10.1.alloc h10.1.size _
    have hbn : Below w10.heap.size w10 (w10.alloc (.cells #[.slice (some ⟨k1, 0, none⟩) 35 d1, .slice (some ⟨k2, 0, none⟩) 35 d2] 26)) := (Below.refl _ _).alloc (Nat.le_refl _) _
    have hlx := Lies.new w10 #[.slice (some ⟨k1, 0, none⟩) 35 d1, .slice (some ⟨k2, 0, none⟩) 35 d2] 26
    have hap := apart10 (w10.alloc (.cells #[.slice (some ⟨k1, 0, none⟩) 35 d1, .slice (some ⟨k2, 0, none⟩) 35 d2] 26)) w10.heap.size W1.heap.size (fun k => if k = 0 then k1 else k2) (fun k => if k = 0 then d1 else d2) hlx.lt
      (fun k hk => by
        have : k = 0 ∨ k = 1 := by omega
        rcases this with rfl | rfl
        · exact hlx.cell 0 rfl
        · exact hlx.cell 1 rfl)
      (fun k hk => by
        have : k = 0 ∨ k = 1 := by omega
        rcases this with rfl | rfl
        · exact ⟨h10.2.2.2.2.2.1.below hbn h10.2.2.2.2.2.1.lt, HN.out.2.1.1, HN.out.2.1.2, HN.out.2.2.2.1⟩
        · exact ⟨h10.2.2.2.2.2.2.below hbn h10.2.2.2.2.2.2.lt, HN.out.2.2.1.1, HN.out.2.2.1.2, HN.out.2.2.2.2.1⟩)
      HN.out.1 hbx.size
    have HAP := Lib.hid (And.intro hap hbx)
    clear hap hbx hbn hlx h10 hb10 hb10' hb9 hb9' hb8 hb8' hb7 hb7' hs7 hg7 d5 s5 heq1 hgu under24 size1
    go_wp2_with (first
      | (go_at_call 10; refine HAP.out.1.mono ?_; rintro e w11 ⟨rfl, hb11⟩
         have hw11 : Below W1.heap.size W1 w11 := HAP.out.2.trans hb11
         have H11 := Lib.hid (HK1.out _ hw11)
         have HAW := Lib.hid (awake_any w11 H11.out.1 H11.out.2.1)
         clear hb11 hw11)
      | (go_at_call 4; refine HAW.out.mono ?_; rintro e w12 ⟨rfl, hb12⟩))
    go_ret
    have h11 := H11.out.2.2.2.2.1
    exact ⟨rfl, h11.trans (hb12.mono h11.size)⟩
end Go.Proofs.YtgempifedhiknaaGreatDoor
