/-
  TermTree's walk (5).
-/
import Derived.Test.YtieoiklgoeclaaaTkg
import Derived.Test.YtieoiklgoeclaaaTap
import Derived.Lib.QuietBelow
namespace Go.Proofs.Ytieoiklgoeclaaa
open Go.RowKit

theorem deepT_any (w : World) (a : Option Addr) (nc : Nat) (xs : List Nd) (h : TAt w a xs) :
    Calls Try.prog 16 #[.agg #[.slice a xs.length nc]] w fun e w' => e = .returned (.int .i64 (deepT xs)) ∧ Below w.heap.size w w' :=
  deep_any w a xs.length nc (ksOf xs) h.2.1 h.ks
theorem right_in {xs : List Nd} (h : inO xs = false) : rightB xs = false := by
  unfold rightB fitsB
  rw [h]; simp
theorem same_bad {xs : List Nd} (h : inO xs = false) : sameT xs xs = false := by
  unfold sameT
  rw [h]; rfl
theorem mem_flat_len : ∀ (L : List (List Nd)) (ys : List Nd), ys ∈ L → ys.length ≤ L.flatten.length
  | z :: L, ys, h => by
    rw [List.flatten_cons, List.length_append]
    rcases List.mem_cons.1 h with rfl | h
    · omega
    · have := mem_flat_len L ys h; omega
theorem wrap_small (x : Int) (h0 : 0 ≤ x) (h1 : x ≤ 1000) : IntKind.i64.wrap x = x := by
  first
    | (rw [IntKind.wrap_i64]; unfold wrap64; omega)
    | (rw [IntKind.wrap_i64]; omega)
    | (unfold IntKind.wrap; simp [IntKind.bits, IntKind.signed]; omega)
    | (simp [go_sem]; omega)
theorem dep_len : ∀ f : Fo, f.dep ≤ f.len
  | .nil => Nat.le_refl _
  | .cons n k r => by
    have h1 := dep_len k
    have h2 := dep_len r
    simp only [Fo.dep, Fo.len]
    omega
theorem kidsFo_pos : ∀ (f : Fo) (ys : List Nd), ys ∈ kidsFo f → 0 < ys.length
  | .cons n k r, ys, h => by
    simp only [kidsFo, List.mem_cons] at h
    rcases h with rfl | h
    · simp [Fo.flat]
    · exact kidsFo_pos r ys h
set_option maxRecDepth 100000 in
set_option maxHeartbeats 4000000 in
theorem treeL_any (w : World) (t : TK) (n : Nd) (ht : TIn w t) (hn : n.bits < 2 ^ 64) (hd : n.kids ≤ 9223372036854775807) :
    Calls Try.prog 5 #[.agg #[t.v], .agg n.cells] w fun e w' => e = .returned (.bool true) ∧ Below w.heap.size w w' := by
  have hbA : Lies ((w.alloc (.cells #[t.v] 24)).alloc (.cells n.cells 32)) w.heap.size #[t.v] 24 := (Lies.new _ _ _).alloc _
  have hbB : Lies ((w.alloc (.cells #[t.v] 24)).alloc (.cells n.cells 32)) (w.heap.size + 1) n.cells 32 := by
    have := Lies.new (w.alloc (.cells #[t.v] 24)) n.cells 32
    simpa using this
  have hb0 : Below w.heap.size w ((w.alloc (.cells #[t.v] 24)).alloc (.cells n.cells 32)) := ((Below.refl _ _).alloc (Nat.le_refl _) _).alloc (by simp) _
  obtain ⟨aa, ca, xs⟩ := t
  obtain ⟨k1, n1, b1, t1, d1⟩ := n
  unfold TK.v Nd.cells at *
  simp only at *
  obtain ⟨na, hna⟩ : ∃ k, k = xs.length := ⟨_, rfl⟩
  rw [← hna] at hbA hbB hb0 ⊢
  have H := Lib.hid (And.intro ht (And.intro hn hna))
  have HDK := Lib.hid hd
  clear ht hn hna hd
  go_enter Try.func5, Try.ntmps5
  go_upto_region 1 with fail
  generalize ((w.alloc (.cells #[.slice aa na ca] 24)).alloc (.cells #[.int .i64 k1, .int .i64 n1, .int .u64 b1, .string t1, .int .i64 d1] 32)) = W0 at hbA hbB hb0 ⊢
  have hcells : ∀ V, Below W0.heap.size W0 V → V.cell? ⟨w.heap.size, 0, none⟩ = some (.slice aa na ca) ∧
      V.cell? ⟨w.heap.size + 1, 0, none⟩ = some (.int .i64 k1) ∧ V.cell? ⟨w.heap.size + 1, 1, none⟩ = some (.int .i64 n1) ∧ V.cell? ⟨w.heap.size + 1, 2, none⟩ = some (.int .u64 b1) ∧ V.cell? ⟨w.heap.size + 1, 3, none⟩ = some (.string t1) ∧ V.cell? ⟨w.heap.size + 1, 4, none⟩ = some (.int .i64 d1) := fun V hV => by
    have l1 := hbA.below hV hbA.lt
    have l4 := hbB.below hV hbB.lt
    exact ⟨l1.cell 0 rfl, l4.cell 0 rfl, l4.cell 1 rfl, l4.cell 2 rfl, l4.cell 3 rfl, l4.cell 4 rfl⟩
  have HS := Lib.hid hcells
  have HB0 := Lib.hid hb0
  clear hcells hbA hbB hb0
  go_wp2_with fail
  refine (awakeT_any W0).mono ?_
  rintro e w1 ⟨rfl, hb1⟩
  obtain ⟨c0, -, -, -, c3, -⟩ := HS.out w1 hb1
  have hT := H.out.1.below (HB0.out.trans (hb1.mono HB0.out.size))
  have hof := termOf_any w1 aa ca xs hT.raw hT.txt hT.len
  rw [← H.out.2.2] at hof
  have HO := Lib.hid (And.intro hof hb1)
  clear hT hof hb1
  go_wp2_with fail
  refine HO.out.1.mono ?_
  rintro e w2 ⟨r, rfl, hr, hr2, hb2⟩
  have hb2' := HO.out.2.trans (hb2.mono HO.out.2.size)
  obtain ⟨-, -, -, -, d3, -⟩ := HS.out w2 hb2'
  have HR := Lib.hid hr
  have HB2 := Lib.hid hb2'
  clear hr hb2 hb2' c0 c3
  by_cases h3 : r ≤ 300
  rotate_left
  · have q1 : (300 : Int) < (r : Int) := by omega
    go_wp2_with fail
    go_ret
    exact ⟨rfl, HB0.out.trans (HB2.out.mono HB0.out.size)⟩
  have q1 : ¬ (300 : Int) < (r : Int) := by omega
  by_cases h4 : t1.size ≤ 300
  rotate_left
  · have q2 : (300 : Int) < (t1.size : Int) := by omega
    go_wp2_with fail
    go_ret
    exact ⟨rfl, HB0.out.trans (HB2.out.mono HB0.out.size)⟩
  have q2 : ¬ (300 : Int) < (t1.size : Int) := by omega
  have HCO := Lib.hid (And.intro (HR.out h3) h3)
  have HT4' := Lib.hid h4
  clear h3 h4 HO
  go_upto_region 5 with fail
  have hlen : xs.length ≤ 300 := by have := cost_len xs; have := HCO.out; omega
  have hTA : ∀ V, Below W0.heap.size W0 V → TAt V aa xs := fun V hV => by
    have hbw := HB0.out.trans (hV.mono HB0.out.size)
    exact (H.out.1.below hbw).tat (by have := HCO.out; simp only; omega)
  have hroom := H.out.1.room
  have htxt := H.out.1.txtIn
  have hwords := H.out.1.words
  simp only at hroom htxt hwords
  have KT := Lib.hid (And.intro hTA (And.intro hlen (And.intro hroom (And.intro htxt hwords))))
  have up : ∀ (V : World) (v : Value), Below W0.heap.size W0 V → ∀ e w', (e = Ending.returned v ∧ Below V.heap.size V w') → (e = Ending.returned v ∧ Below W0.heap.size W0 w') := fun V v hV e w' k => ⟨k.1, hV.trans (k.2.mono hV.size)⟩
  have HUP := Lib.hid up
  clear hTA hlen hroom htxt hwords up d3 q1 q2
  cases hin : inO xs with
  | false =>
    have k19 : Calls Try.prog 19 #[.agg #[.slice aa na ca]] w2 fun e w' => e = .returned (.slice none 0 0) ∧ Below W0.heap.size W0 w' := by
      rw [H.out.2.2]
      exact (kids_bad w2 aa ca xs hin (KT.out.1 w2 HB2.out)).mono (HUP.out _ _ HB2.out)
    have k16 : ∀ V, Below W0.heap.size W0 V → Calls Try.prog 16 #[.agg #[.slice aa na ca]] V fun e w' => e = .returned (.int .i64 0) ∧ Below W0.heap.size W0 w' := fun V hV => by
      rw [H.out.2.2]
      have := deepT_any V aa ca xs (KT.out.1 V hV)
      rw [deep_zero.2 hin] at this
      exact this.mono (HUP.out _ _ hV)
    have k20 : ∀ V, Below W0.heap.size W0 V → Calls Try.prog 20 #[.agg #[.slice aa na ca], .int .i64 0] V fun e w' => e = .returned (.tuple #[.agg #[.slice none 0 0], .bool false]) ∧ Below W0.heap.size W0 w' := fun V hV => by
      rw [H.out.2.2]
      exact (kid_bad V aa ca xs 0 hin (KT.out.1 V hV)).mono (HUP.out _ _ hV)
    have k14 : ∀ V, Below W0.heap.size W0 V → Calls Try.prog 14 #[.agg #[.slice aa na ca]] V fun e w' => e = .returned (.bool false) ∧ Below W0.heap.size W0 w' := fun V hV => by
      rw [H.out.2.2]
      have := rightT_any V aa ca xs (KT.out.1 V hV) KT.out.2.2.1
      rw [right_in hin] at this
      exact this.mono (HUP.out _ _ hV)
    have k17 : ∀ V, Below W0.heap.size W0 V → Calls Try.prog 17 #[.agg #[.slice aa na ca], .agg #[.slice aa na ca]] V fun e w' => e = .returned (.bool false) ∧ Below W0.heap.size W0 w' := fun V hV => by
      rw [H.out.2.2]
      have := sameT_any V aa aa ca ca xs xs (KT.out.1 V hV) (KT.out.1 V hV)
      rw [same_bad hin] at this
      exact this.mono (HUP.out _ _ hV)
    have K := Lib.hid (And.intro k19 (And.intro k16 (And.intro k20 (And.intro k14 k17))))
    obtain ⟨c0, -, -, -, -, -⟩ := HS.out w2 HB2.out
    clear k19 k16 k20 k14 k17 hin
    go_wp2_with fail
    refine K.out.1.mono ?_
    rintro e w3 ⟨rfl, hb3⟩
    clear c0
    obtain ⟨c0, -, -, -, -, -⟩ := HS.out w3 hb3
    have HB3 := Lib.hid hb3
    clear hb3
    go_wp2_with fail
    refine (K.out.2.1 _ HB3.out).mono ?_
    rintro e w4 ⟨rfl, hb4⟩
    clear c0
    obtain ⟨c0, -, -, -, -, -⟩ := HS.out w4 hb4
    have HB4 := Lib.hid hb4
    clear hb4
    go_wp2_with fail
    refine (K.out.2.2.1 _ HB4.out).mono ?_
    rintro e w5 ⟨rfl, hb5⟩
    have HB5 := Lib.hid hb5
    clear hb5 c0
    go_upto_region 8 with fail
    have hb6 := HB5.out.trans (((Below.refl w5.heap.size w5).alloc (Nat.le_refl _) (.cells #[.slice none 0 0] 24)).mono HB5.out.size)
    generalize w5.alloc (.cells #[.slice none 0 0] 24) = w6 at hb6 ⊢
    obtain ⟨c0, -, -, -, -, -⟩ := HS.out w6 hb6
    have HB6 := Lib.hid hb6
    clear hb6
    go_wp2_with fail
    refine (K.out.2.2.2.1 _ HB6.out).mono ?_
    rintro e w7 ⟨rfl, hb7⟩
    clear c0
    obtain ⟨c0, -, -, -, -, -⟩ := HS.out w7 hb7
    have HB7 := Lib.hid hb7
    clear hb7
    go_wp2_with fail
    refine (K.out.2.2.2.2 _ HB7.out).mono ?_
    rintro e w8 ⟨rfl, hb8⟩
    have HB8 := Lib.hid hb8
    clear hb8 c0
    go_wp2_with fail
    go_ret
    exact ⟨rfl, HB0.out.trans (HB8.out.mono HB0.out.size)⟩
  | true =>
    obtain ⟨x0, K, hxs⟩ := tree_fo hin
    have k19 : Calls Try.prog 19 #[.agg #[.slice aa na ca]] w2 (SliceR w2 (KidsR w2.heap.size K)) := by
      rw [H.out.2.2]
      exact kids_ok w2 aa ca xs x0 K hxs (KT.out.1 w2 HB2.out) KT.out.2.2.2.1 KT.out.2.2.1
    have k16 : ∀ V, Below W0.heap.size W0 V → Calls Try.prog 16 #[.agg #[.slice aa na ca]] V fun e w' => e = .returned (.int .i64 ((K.dep : Int) + 1)) ∧ Below V.heap.size V w' := fun V hV => by
      rw [H.out.2.2]
      have := deepT_any V aa ca xs (KT.out.1 V hV)
      rw [hxs, deep_tree] at this
      rw [hxs]
      rw [show ((K.dep : Int) + 1) = ((K.dep + 1 : Nat) : Int) by omega]
      exact this
    have k20o : ∀ (i : Int), (i < 0 ∨ (K.cnt : Int) ≤ i) → ∀ V, Below W0.heap.size W0 V → Calls Try.prog 20 #[.agg #[.slice aa na ca], .int .i64 i] V fun e w' => e = .returned (.tuple #[.agg #[.slice none 0 0], .bool false]) ∧ Below V.heap.size V w' := fun i hi V hV => by
      rw [H.out.2.2]
      exact (kid_out V aa ca xs i x0 K hxs (KT.out.1 V hV) KT.out.2.2.2.1 KT.out.2.2.1 hi)
    have k17 : ∀ V, Below W0.heap.size W0 V → Calls Try.prog 17 #[.agg #[.slice aa na ca], .agg #[.slice aa na ca]] V fun e w' => e = .returned (.bool true) ∧ Below V.heap.size V w' := fun V hV => by
      rw [H.out.2.2]
      have := sameT_any V aa aa ca ca xs xs (KT.out.1 V hV) (KT.out.1 V hV)
      rw [same_self hin KT.out.2.2.2.2] at this
      exact this
    have hkb := kids_bound hxs
    have hkl : ∀ ys ∈ kidsFo K, ys.length ≤ 1000000 ∧ (∀ y ∈ ys, y.kids ≤ 9223372036854775807) ∧ TxtIn ys ∧ 0 < ys.length := by
      intro ys hys
      have h1 := hkb.2 ys hys
      have h2 := KT.out.2.2.2.1
      have h3 := (KT.out.1 W0 (Below.refl _ _)).2.2
      have h4 : ys.length ≤ K.flat.length := by rw [← kidsFo_flat]; exact mem_flat_len _ _ hys
      have h5 : K.flat.length + 1 = xs.length := by rw [hxs]; simp [Fo.flat]
      have h6 := KT.out.2.1
      exact ⟨by omega, fun y hy => h3 y (h1 y hy), fun y hy => h2 y (h1 y hy), kidsFo_pos K ys hys⟩
    have hcnt : K.cnt ≤ 300 := by have := hkb.1; have := KT.out.2.1; omega
    have KX := Lib.hid (And.intro hxs (And.intro hin (And.intro hkb.2 (And.intro hkl hcnt))))
    have KO := Lib.hid (And.intro k19 (And.intro k16 (And.intro k20o k17)))
    obtain ⟨c0, -, -, -, -, -⟩ := HS.out w2 HB2.out
    clear k19 k16 k20o k17 hin hxs hkb hkl hcnt
    go_wp2_with fail
    refine KO.out.1.mono ?_
    rintro e w3 ⟨la, ln, lc, rfl, ⟨l, hown, hlm⟩, hb3⟩
    have hb3' := HB2.out.trans (hb3.mono HB2.out.size)
    obtain ⟨la', lc', hsl, hlc, hcl, hts⟩ := hown.ts (fun t ht => by
      have hm : t.xs ∈ kidsFo K := by rw [← hlm]; exact List.mem_map_of_mem ht
      obtain ⟨h1, h2, h3, -⟩ := KX.out.2.2.2.1 _ hm
      exact ⟨h1, h2, h3⟩)
    cases hsl
    have hll : l.length = K.cnt := by
      have := congrArg List.length hlm
      rwa [List.length_map, kidsFo_len] at this
    obtain ⟨m, hm⟩ : ∃ m, m = l.length := ⟨_, rfl⟩
    rw [← hm]
    rw [← hm] at hlc
    have HL := Lib.hid (And.intro hts (And.intro hlm (And.intro hll hm)))
    have HB3 := Lib.hid (And.intro hb3' hlc)
    clear hts hlm hll hm hown hb3 hb3' hcl hlc c0
    obtain ⟨c0, -, -, -, -, -⟩ := HS.out w3 HB3.out.1
    go_wp2_with fail
    refine (KO.out.2.1 _ HB3.out.1).mono ?_
    rintro e w4 ⟨rfl, hb4⟩
    have hnz : ((((K.dep : Int) + 1) == 0) : Bool) = false := by rw [beq_eq_false_iff_ne]; omega
    have hnz2 : ¬ ((K.dep : Int) + 1) = 0 := by omega
    have HB4 := Lib.hid (HB3.out.1.trans (hb4.mono HB3.out.1.size))
    have HT4 := Lib.hid (HL.out.1.below hb4 (Nat.le_refl _))
    clear hb4 c0
    go_upto_region 11 with fail
    clear hnz hnz2
    go_loopw [8, 9] (fun v i W => ∃ (j mx : Nat) (r : Fo), v = .int .i64 mx ∧ i = .int .i64 j ∧ (kidsFo K).drop j = kidsFo r ∧ r.cnt + j = K.cnt ∧ max mx r.dep = K.dep ∧ Below w4.heap.size w4 W) (fun _ i _ => (K.cnt - intOf i).toNat)
    case atStart => exact ⟨0, 0, K, by go_num, by go_num, by simp, by omega, by omega, Below.refl _ _⟩
    case round =>
      obtain ⟨j, mx, r, rfl, rfl, hdr, hrc, hmx, hbr⟩ := hrel
      have hmk : m = K.cnt := by rw [HL.out.2.2.2, HL.out.2.2.1]
      have hbW := HB4.out.trans (hbr.mono HB4.out.size)
      obtain ⟨c0, -, -, -, -, -⟩ := HS.out wr hbW
      by_cases hj : j < K.cnt
      · obtain ⟨n', k', r', rfl, hys, hdr'⟩ := kid_at hdr hrc hj
        obtain ⟨y1, y2, y3, y4⟩ := KX.out.2.2.2.1 _ (List.mem_of_getElem? hys)
        have hkid := kid_some wr aa ca xs j x0 K KX.out.1 (KT.out.1 wr hbW) KT.out.2.2.2.1 KT.out.2.2.1 hj _ hys y4 y1 y2
        rw [← H.out.2.2] at hkid
        have hTs := HT4.out.below hbr (Nat.le_refl _)
        have hjl : j < l.length := by rw [← HL.out.2.2.2, hmk]; exact hj
        obtain ⟨g, off, ea, hg, hcs⟩ := HT4.out.1 (by omega)
        subst ea
        have hcell := hcs j hjl
        have hxj : l[j].xs = (Fo.cons n' k' .nil).flat := by
          have h1 := congrArg (fun z => z[j]?) HL.out.2.1
          simp only [List.getElem?_map, hys] at h1
          rw [List.getElem?_eq_getElem hjl] at h1
          simpa using h1
        obtain ⟨lj, hlj⟩ : ∃ t, t = l[j] := ⟨_, rfl⟩
        have htj := HT4.out.2 lj (by rw [hlj]; exact List.getElem_mem hjl)
        rw [← hlj] at hcell hxj
        obtain ⟨ka, kc, zs⟩ := lj
        unfold TK.v at hcell
        simp only at hcell hxj htj
        rw [← hxj] at hkid y1 y2 y3 y4
        have hdz : deepT zs = k'.dep + 1 := by rw [hxj, deep_tree]
        simp only [Fo.cnt, Fo.dep] at hrc hmx
        have q0 : (0 : Int) ≤ (j : Int) := by omega
        have q1 : (j : Int) < (m : Int) := by omega
        have q2 : (m : Int) ≤ 300 := by have := KX.out.2.2.2.2; omega
        have hcell' : ∀ V, Below w4.heap.size w4 V → V.cell? ⟨g, off + j, none⟩ = some (.slice ka zs.length kc) := fun V hV => (hV.cell (p := ⟨g, off + j, none⟩) hg).trans hcell
        obtain ⟨nz, hnz⟩ : ∃ k, k = zs.length := ⟨_, rfl⟩
        rw [← hnz] at hcell'
        have HK := Lib.hid (And.intro hkid (And.intro hbr (And.intro hcell' (And.intro htj (And.intro hdz (And.intro hdr' (And.intro hrc (And.intro hmx (And.intro hmk hnz)))))))))
        clear hkid hTs hcs hcell hcell' htj hdz hdr' hys hrc hmx hdr hxj y1 y2 y3 y4 hlj hjl hmk hbr hnz
        go_wp2_with fail
        refine HK.out.1.mono ?_
        rintro e w5 ⟨ya, yc, rfl, hyt, hb5⟩
        have hzz := HK.out.2.2.2.2.2.2.2.2.2
        rw [← hzz]
        have hb5' := HK.out.2.1.trans (hb5.mono HK.out.2.1.size)
        have hb6 : Below w5.heap.size w5 (w5.alloc (.cells #[.slice ya nz yc] 24)) := (Below.refl w5.heap.size w5).alloc (Nat.le_refl _) _
        have hA6 := Lies.new w5 #[.slice ya nz yc] 24
        have H5 := Lib.hid (And.intro hyt hb5')
        clear hyt hb5 hb5' hzz c0
        go_upto_region 14 with fail
        generalize w5.alloc (.cells #[.slice ya nz yc] 24) = w6 at hb6 hA6 ⊢
        have hb46 := H5.out.2.trans (hb6.mono H5.out.2.size)
        have hkc := HK.out.2.2.1 w6 hb46
        have htz : ∀ V, Below w4.heap.size w4 V → TAt V ka zs := fun V hV => HK.out.2.2.2.1.1.below hV (Nat.le_refl _)
        have hdp : ∀ V, Below w4.heap.size w4 V → Calls Try.prog 16 #[.agg #[.slice ka nz kc]] V fun e w' => e = .returned (.int .i64 ((k'.dep : Int) + 1)) ∧ Below V.heap.size V w' := fun V hV => by
          have := deepT_any V ka kc zs (htz V hV)
          rw [HK.out.2.2.2.2.1, ← HK.out.2.2.2.2.2.2.2.2.2] at this
          rw [show ((k'.dep : Int) + 1) = ((k'.dep + 1 : Nat) : Int) by omega]
          exact this
        have hsm : ∀ V, Below w6.heap.size w6 V → Calls Try.prog 15 #[.agg #[.slice ya nz yc], .agg #[.slice ka nz kc]] V fun e w' => e = .returned (.bool true) ∧ Below V.heap.size V w' := fun V hV => by
          have h1 := (H5.out.1.below hb6 (Nat.le_refl _)).below hV (Nat.le_refl _)
          have := sameTerm_any V ya ka yc kc zs zs h1 (htz V (hb46.trans (hV.mono hb46.size)))
          rw [sameN_refl, ← HK.out.2.2.2.2.2.2.2.2.2] at this
          exact this
        have H6 := Lib.hid (And.intro hb46 (And.intro hdp (And.intro hsm hA6)))
        clear hb6 hb46 hdp hsm hA6 htz
        go_wp2_with fail
        refine (H6.out.2.1 _ H6.out.1).mono ?_
        rintro e w7 ⟨rfl, hb7⟩
        have hkc7 := HK.out.2.2.1 w7 (H6.out.1.trans (hb7.mono H6.out.1.size))
        have hy7 := (H6.out.2.2.2.below hb7 H6.out.2.2.2.lt).cell 0 (v := .slice ya nz yc) rfl
        have hd1 : decide ((k'.dep : Int) + 1 < 1) = false := decide_eq_false (by omega)
        have hd2 : ¬ (k'.dep : Int) + 1 < 1 := by omega
        have H7 := Lib.hid hb7
        clear hb7 hkc
        go_upto_region 15 with fail
        have k15 : ∀ (d : Nat) (os : Array Obj), Calls Try.prog 15 #[.agg #[.slice ya nz yc], .agg #[.slice ka nz kc]] (Sort.grow (redrawn w7 d) os) fun e w' => e = .returned (.bool true) ∧ Below (Sort.grow (redrawn w7 d) os).heap.size (Sort.grow (redrawn w7 d) os) w' := fun d os =>
          H6.out.2.2.1 _ (H7.out.trans ((below_regrown w7 d os).mono H7.out.size))
        have r1 := fun d os => cell_regrown hkc7 d os
        have r2 := fun d os => cell_regrown hy7 d os
        have K15 := Lib.hid k15
        clear k15 hkc7 hy7
        refine wp_region_quiet_below (by kernel_rfl) (by kernel_rfl) ?_
        iterate 15 (first | go_big_quiet_step ((go_at_call 15; exact Calls.regrown_of (K15.out _ _))) | quiet_step ((go_at_call 15; exact Calls.regrown_of (K15.out _ _))))
        refine wpQuiet_nil ?_
        intro w9 hw9
        have hb9 : Below w4.heap.size w4 w9 := by
          obtain ⟨pp, rfl⟩ := hw9
          have h1 := H6.out.1.trans (H7.out.mono H6.out.1.size)
          exact h1.trans ((below_regrown w7 pp.d pp.os).mono h1.size)
        have H9 := Lib.hid hb9
        have e1 : ((max mx (k'.dep + 1) : Nat) : Int) = max (mx : Int) ((k'.dep : Int) + 1) := by omega
        clear hw9 hb9 r1 r2
        go_wp2_with fail
        exact ⟨⟨j + 1, max mx (k'.dep + 1), r', by rw [e1], by go_num, HK.out.2.2.2.2.2.1, by have := HK.out.2.2.2.2.2.2.1; omega, by have := HK.out.2.2.2.2.2.2.2.1; omega, H9.out⟩, by simp [intOf]; omega⟩
      · have hjm : j = m := by omega
        have q1 : ¬ (j : Int) < (m : Int) := by omega
        have hrd : r.dep = 0 := by
          cases r with
          | nil => rfl
          | cons _ _ _ => simp [Fo.cnt] at hrc; omega
        have hmxe : mx = K.dep := by omega
        subst hmxe
        have hmK : (K.cnt : Int) ≤ (m : Int) := by omega
        have hb8 : ∀ V : World, Below W0.heap.size W0 V → Below V.heap.size V (V.alloc (.cells #[.slice none 0 0] 24)) := fun V _ => (Below.refl _ _).alloc (Nat.le_refl _) _
        have HX := Lib.hid (And.intro hbr (And.intro hbW (And.intro hmk (And.intro hmK hb8))))
        clear hbr hbW hmk hdr hrc hmx hrd hjm hj hmK hb8
        go_wp2_with fail
        refine (KO.out.2.2.1 m (.inr HX.out.2.2.2.1) wr HX.out.2.1).mono ?_
        rintro e v1 ⟨rfl, hv1⟩
        have V1 := Lib.hid (HX.out.1.trans (hv1.mono HX.out.1.size))
        clear c0 hv1 q1
        go_upto_region 19 with fail
        have ha2 : Below v1.heap.size v1 (v1.alloc (.cells #[.slice none 0 0] 24)) := (Below.refl _ _).alloc (Nat.le_refl _) _
        generalize v1.alloc (.cells #[.slice none 0 0] 24) = v2 at ha2 ⊢
        have hv2 := V1.out.trans (ha2.mono V1.out.size)
        have hw2 := HB4.out.trans (hv2.mono HB4.out.size)
        obtain ⟨c0, -, -, -, -, -⟩ := HS.out v2 hw2
        have V2 := Lib.hid (And.intro hv2 hw2)
        clear ha2 hv2 hw2
        go_wp2_with fail
        refine (KO.out.2.2.1 (-1) (.inl (by omega)) v2 V2.out.2).mono ?_
        rintro e v3 ⟨rfl, hv3⟩
        have V3 := Lib.hid (V2.out.1.trans (hv3.mono V2.out.1.size))
        clear c0 hv3
        go_upto_region 20 with fail
        have ha4 : Below v3.heap.size v3 (v3.alloc (.cells #[.slice none 0 0] 24)) := (Below.refl _ _).alloc (Nat.le_refl _) _
        generalize v3.alloc (.cells #[.slice none 0 0] 24) = v4 at ha4 ⊢
        have hv4 := V3.out.trans (ha4.mono V3.out.size)
        have hw4 := HB4.out.trans (hv4.mono HB4.out.size)
        obtain ⟨c0, c1, c2, c3, c4, c5⟩ := HS.out v4 hw4
        have ha5 : Below v4.heap.size v4 (v4.alloc (.cells #[.slice aa na ca, .slice aa na ca] 24)) := (Below.refl _ _).alloc (Nat.le_refl _) _
        have hw5 := hw4.trans (ha5.mono hw4.size)
        have hjn : Calls Try.prog 18 #[.agg #[.int .i64 k1, .int .i64 n1, .int .u64 b1, .string t1, .int .i64 d1], .slice (some ⟨v4.heap.size, 0, none⟩) 2 2] (v4.alloc (.cells #[.slice aa na ca, .slice aa na ca] 24)) fun e w' => ∃ ja jc, e = .returned (.agg #[.slice ja (joinL ⟨k1, n1, b1, t1, d1⟩ [xs, xs]).length jc]) ∧ TAt w' ja (joinL ⟨k1, n1, b1, t1, d1⟩ [xs, xs]) ∧ Below v4.heap.size v4 w' := by
          have hA := Lies.new v4 #[.slice aa na ca, .slice aa na ca] 24
          have hta := KT.out.1 _ hw5
          rw [H.out.2.2] at hA hta ⊢
          have hlx := KT.out.2.1
          have := join_any _ ⟨k1, n1, b1, t1, d1⟩ (some ⟨v4.heap.size, 0, none⟩) 2 [⟨aa, ca, xs⟩, ⟨aa, ca, xs⟩] (ts_of hA (fun t ht => by
            simp only [List.mem_cons, List.not_mem_nil, or_false, or_self] at ht
            subst ht
            exact ⟨hta, KT.out.2.2.1, KT.out.2.2.2.1⟩)) (by have := HT4'.out; simp only; omega) (by simp; omega) (by simp)
          refine this.mono fun e w' ⟨v, h1, h2, h3⟩ => ?_
          simp only [List.map_cons, List.map_nil] at h2
          obtain ⟨ja, jc, rfl, hz⟩ := own_term (h2.mono (Nat.zero_le _)) (by simp; omega) (by simp) (fun l hl x hx => by
            simp only [List.mem_cons, List.not_mem_nil, or_false, or_self] at hl
            subst hl
            exact hta.2.2 x hx)
          rw [H.out.2.2] at ha5
          exact ⟨ja, jc, h1, hz, ha5.trans (h3.mono ha5.size)⟩
        have V4 := Lib.hid (And.intro hjn (And.intro hv4 hw4))
        clear hjn hv4 hw4 ha5 hw5 ha4
        go_wp2_with fail
        refine V4.out.1.mono ?_
        rintro e v6 ⟨ja, jc, rfl, hjt, hb6⟩
        obtain ⟨J, hJ⟩ : ∃ J, J = joinL ⟨k1, n1, b1, t1, d1⟩ [xs, xs] := ⟨_, rfl⟩
        rw [← hJ] at hjt ⊢
        obtain ⟨nj, hnj⟩ : ∃ k, k = J.length := ⟨_, rfl⟩
        rw [← hnj]
        have hv6 := V4.out.2.1.trans (hb6.mono V4.out.2.1.size)
        have hw6 := HB4.out.trans (hv6.mono HB4.out.size)
        have V6 := Lib.hid (And.intro hjt (And.intro hv6 (And.intro hw6 (And.intro hJ hnj))))
        clear hjt hb6 hv6 hw6 hJ hnj c0 c1 c2 c3 c4 c5
        go_upto_region 21 with fail
        have hb7 : Below v6.heap.size v6 (v6.alloc (.cells #[.slice ja nj jc] 24)) := (Below.refl _ _).alloc (Nat.le_refl _) _
        have hA7 := Lies.new v6 #[.slice ja nj jc] 24
        generalize v6.alloc (.cells #[.slice ja nj jc] 24) = v7 at hb7 hA7 ⊢
        have hv7 := V6.out.2.1.trans (hb7.mono V6.out.2.1.size)
        have hw7 := HB4.out.trans (hv7.mono HB4.out.size)
        obtain ⟨gt, ot, ea, hnt⟩ := (KT.out.1 v7 hw7).1 (by rw [KX.out.1]; simp [Fo.flat])
        subst ea
        obtain ⟨xk, xn, xb, xt, xd⟩ := x0
        have hna0 : 0 < na := by rw [H.out.2.2, KX.out.1]; simp [Fo.flat]
        have hgt : gt < v7.heap.size := hnt.1
        have hgtl := Lib.hid hgt
        have hx0 : ∀ (i : Nat) (v : Value), (Nd.cells ⟨xk, xn, xb, xt, (K.cnt : Int)⟩)[i]? = some v → v7.cell? ⟨gt, ot + i, none⟩ = some v := fun i v hv => by
          have h0 : 0 < xs.length := by rw [KX.out.1]; simp [Fo.flat]
          have := hnt.2 0 h0 i v (by
            have : xs[0] = ⟨xk, xn, xb, xt, (K.cnt : Int)⟩ := by simp [KX.out.1, Fo.flat]
            rw [this]; exact hv)
          simpa using this
        have hdl : K.dep ≤ 300 := by
          have h1 := dep_len K
          have h2 : K.len + 1 = xs.length := by rw [KX.out.1]; simp [Fo.flat, Fo.flat_len]
          have := KT.out.2.1
          omega
        have hcell7 : ∀ V, Below v7.heap.size v7 V → V.cell? ⟨w.heap.size, 0, none⟩ = some (.slice (some ⟨gt, ot, none⟩) na ca) ∧ V.cell? ⟨v6.heap.size, 0, none⟩ = some (.slice ja nj jc) ∧
            V.cell? ⟨gt, ot, none⟩ = some (.int .i64 xk) ∧ V.cell? ⟨gt, ot + 1, none⟩ = some (.int .i64 xn) ∧ V.cell? ⟨gt, ot + 2, none⟩ = some (.int .u64 xb) ∧ V.cell? ⟨gt, ot + 3, none⟩ = some (.string xt) ∧ V.cell? ⟨gt, ot + 4, none⟩ = some (.int .i64 (m : Int)) := fun V hV => by
          have c := (HS.out V (hw7.trans (hV.mono hw7.size))).1
          have hm : (m : Int) = (K.cnt : Int) := by have := HX.out.2.2.1; omega
          rw [hm]
          exact ⟨c, (hA7.below hV hA7.lt).cell 0 rfl, (hV.cell (p := ⟨gt, ot, none⟩) hgt).trans (hx0 0 _ rfl), (hV.cell (p := ⟨gt, ot + 1, none⟩) hgt).trans (hx0 1 _ rfl), (hV.cell (p := ⟨gt, ot + 2, none⟩) hgt).trans (hx0 2 _ rfl), (hV.cell (p := ⟨gt, ot + 3, none⟩) hgt).trans (hx0 3 _ rfl), (hV.cell (p := ⟨gt, ot + 4, none⟩) hgt).trans (hx0 4 _ rfl)⟩
        have kdp : ∀ V, Below v7.heap.size v7 V → Calls Try.prog 16 #[.agg #[.slice (some ⟨gt, ot, none⟩) na ca]] V fun e w' => e = .returned (.int .i64 ((K.dep : Int) + 1)) ∧ Below v7.heap.size v7 w' := fun V hV =>
          (KO.out.2.1 V (hw7.trans (hV.mono hw7.size))).mono fun e w' k => ⟨k.1, hV.trans (k.2.mono hV.size)⟩
        have kjn : ∀ V, Below v7.heap.size v7 V → Calls Try.prog 18 #[.agg #[.int .i64 xk, .int .i64 xn, .int .u64 xb, .string xt, .int .i64 (m : Int)], .slice la m lc] V fun e w' => ∃ za zc, e = .returned (.agg #[.slice za na zc]) ∧ TAt w' za xs ∧ Below v7.heap.size v7 w' := fun V hV => by
          have hts := HT4.out.below (hv7.trans (hV.mono hv7.size)) (Nat.le_refl _)
          have hxi : (⟨xk, xn, xb, xt, (K.cnt : Int)⟩ : Nd) ∈ xs := by rw [KX.out.1]; simp [Fo.flat]
          have hfl : (l.map TK.xs).flatten.length + 1 = xs.length := by
            rw [HL.out.2.1, kidsFo_flat, KX.out.1]; simp [Fo.flat]
          have hlx := KT.out.2.1
          have hm : (m : Int) = (K.cnt : Int) := by have := HX.out.2.2.1; omega
          have := join_any V ⟨xk, xn, xb, xt, (K.cnt : Int)⟩ la lc l hts (KT.out.2.2.2.1 _ hxi) (by omega) (by have := HL.out.2.2.1; have := KX.out.2.2.2.2; omega)
          have hje : joinL ⟨xk, xn, xb, xt, (K.cnt : Int)⟩ (l.map TK.xs) = xs := by
            rw [HL.out.2.1, KX.out.1]
            exact join_kids ⟨xk, xn, xb, xt, xd⟩ K
          rw [hje, ← HL.out.2.2.2] at this
          rw [hm]
          refine this.mono fun e w' ⟨v, h1, h2, h3⟩ => ?_
          obtain ⟨za, zn, zc, rfl⟩ := h2.isSlice
          have hkk := (KT.out.1 v7 hw7).2.2
          obtain ⟨t1, t2, -⟩ := h2.tat (by omega) hkk
          exact ⟨za, zc, by rw [h1, t2, H.out.2.2], t1, hV.trans (h3.mono hV.size)⟩
        have ksm : ∀ V za zc, Below v7.heap.size v7 V → TAt V za xs → Calls Try.prog 15 #[.agg #[.slice za na zc], .agg #[.slice (some ⟨gt, ot, none⟩) na ca]] V fun e w' => e = .returned (.bool true) ∧ Below v7.heap.size v7 w' := fun V za zc hV hz => by
          have := sameTerm_any V za (some ⟨gt, ot, none⟩) zc ca xs xs hz (KT.out.1 V (hw7.trans (hV.mono hw7.size)))
          rw [sameN_refl, ← H.out.2.2] at this
          exact this.mono fun e w' k => ⟨k.1, hV.trans (k.2.mono hV.size)⟩
        have kdj : ∀ V, Below v7.heap.size v7 V → Calls Try.prog 16 #[.agg #[.slice ja nj jc]] V fun e w' => e = .returned (.int .i64 ((K.dep : Int) + 2)) ∧ Below v7.heap.size v7 w' := fun V hV => by
          have hjt := ((V6.out.1.below hb7 (Nat.le_refl _)).below hV (Nat.le_refl _))
          have := deepT_any V ja jc J hjt
          have h2 : deepT J = K.dep + 2 := by rw [V6.out.2.2.2.1, KX.out.1]; exact deep_two _ _ _
          rw [h2, ← V6.out.2.2.2.2] at this
          rw [show ((K.dep : Int) + 2) = ((K.dep + 2 : Nat) : Int) by omega]
          exact this.mono fun e w' k => ⟨k.1, hV.trans (k.2.mono hV.size)⟩
        have kss : ∀ V, Below v7.heap.size v7 V → Calls Try.prog 17 #[.agg #[.slice (some ⟨gt, ot, none⟩) na ca], .agg #[.slice (some ⟨gt, ot, none⟩) na ca]] V fun e w' => e = .returned (.bool true) ∧ Below v7.heap.size v7 w' := fun V hV =>
          (KO.out.2.2.2 V (hw7.trans (hV.mono hw7.size))).mono fun e w' k => ⟨k.1, hV.trans (k.2.mono hV.size)⟩
        have V7 := Lib.hid (And.intro hcell7 (And.intro kdp (And.intro kjn (And.intro ksm (And.intro kdj (And.intro kss (And.intro hv7 (And.intro hw7 (And.intro hnt hdl)))))))))
        have hB7 : Below v7.heap.size v7 v7 := Below.refl _ _
        have d7 : Below v7.heap.size v7 v7.drew := hB7.drew
        obtain ⟨s0, s1, s2, s3, s4, s5, s6⟩ := hcell7 v7 hB7
        have z1 : (0 : Int) < (na : Int) := by omega
        have z2 : (K.dep : Int) ≤ 300 := by omega
        have z3 : (0 : Int) ≤ (K.dep : Int) := by omega
        have w1 : IntKind.i64.wrap ((K.dep : Int) + 1) = (K.dep : Int) + 1 := wrap_small _ (by omega) (by omega)
        have w2 : IntKind.i64.wrap ((K.dep : Int) + 2) = (K.dep : Int) + 2 := wrap_small _ (by omega) (by omega)
        have x1 : (((K.dep : Int) + 1 != (K.dep : Int) + 1) : Bool) = false := by simp
        have x2 : (((K.dep : Int) + 2 != (K.dep : Int) + 2) : Bool) = false := by simp
        have x3 : (((m : Int) != (m : Int)) : Bool) = false := by simp
        clear hcell7 kdp kjn ksm kdj kss hv7 hw7 hnt hdl hx0 hgt hb7 hA7
        have V7b := Lib.hid hB7
        go_cut [155] from 180 (fun v W => v = .bool false ∧ Below v7.heap.size v7 W)
        case first =>
          go_region_held3 (fun V => V.cell? ⟨w.heap.size, 0, none⟩ = some (.slice (some ⟨gt, ot, none⟩) na ca) ∧ V.cell? ⟨v6.heap.size, 0, none⟩ = some (.slice ja nj jc) ∧
              V.cell? ⟨gt, ot, none⟩ = some (.int .i64 xk) ∧ V.cell? ⟨gt, ot + 1, none⟩ = some (.int .i64 xn) ∧ V.cell? ⟨gt, ot + 2, none⟩ = some (.int .u64 xb) ∧ V.cell? ⟨gt, ot + 3, none⟩ = some (.string xt) ∧ V.cell? ⟨gt, ot + 4, none⟩ = some (.int .i64 (m : Int))) (first | go_keep | exact V7.out.1 _ (by assumption))
            (first | (with_reducible refine (V7.out.2.1 _ (by assumption)).mono ?_; rintro e u1 ⟨rfl, hu1⟩) | (with_reducible refine (V7.out.2.2.1 _ (by assumption)).mono ?_; rintro e u2 ⟨za, zc, rfl, hz, hu2⟩) | (with_reducible refine (V7.out.2.2.2.1 _ _ _ (by assumption) (by assumption)).mono ?_; rintro e u3 ⟨rfl, hu3⟩) | (with_reducible refine (V7.out.2.2.2.2.1 _ (by assumption)).mono ?_; rintro e u4 ⟨rfl, hu4⟩) | (with_reducible refine (V7.out.2.2.2.2.2.1 _ (by assumption)).mono ?_; rintro e u5 ⟨rfl, hu5⟩))
          have U5 := Lib.hid hu5
          clear hu1 hu2 hu3 hu4 hu5 hz
          go_wp2_with fail
          go_meet
          case rel => exact ⟨by simp, U5.out⟩
        case rest =>
          obtain ⟨rfl, hb8⟩ := hcut
          rename World => v8
          clear s0 s1 s2 s3 s4 s5 s6 d7 hB7 w1 w2
          have V8 := Lib.hid hb8
          clear hb8
          go_upto_region 23 with fail
          have V8c : ∀ V, Below v8.heap.size v8 V → Below v7.heap.size v7 V := fun V hV => V8.out.trans (hV.mono V8.out.size)
          have hS : ∀ V, Below v8.heap.size v8 V → V.cell? ⟨w.heap.size, 0, none⟩ = some (.slice (some ⟨gt, ot, none⟩) na ca) ∧ V.cell? ⟨w.heap.size + 1, 0, none⟩ = some (.int .i64 k1) ∧ V.cell? ⟨w.heap.size + 1, 1, none⟩ = some (.int .i64 n1) ∧ V.cell? ⟨w.heap.size + 1, 2, none⟩ = some (.int .u64 b1) ∧ V.cell? ⟨w.heap.size + 1, 3, none⟩ = some (.string t1) ∧ V.cell? ⟨w.heap.size + 1, 4, none⟩ = some (.int .i64 d1) := fun V hV =>
            HS.out V (V7.out.2.2.2.2.2.2.2.1.trans ((V8c V hV).mono V7.out.2.2.2.2.2.2.2.1.size))
          have hsrc : ∀ V, Below v8.heap.size v8 V → SrcT V (.slice (some ⟨gt, ot, none⟩) na ca) xs := fun V hV => by
            have := (KT.out.1 V (V7.out.2.2.2.2.2.2.2.1.trans ((V8c V hV).mono V7.out.2.2.2.2.2.2.2.1.size))).src (t := ⟨some ⟨gt, ot, none⟩, ca, xs⟩) (fun e => by cases e)
            unfold TK.v at this
            simp only at this
            rwa [← H.out.2.2] at this
          have S8 := Lib.hid (And.intro hS (And.intro hsrc V8c))
          clear x1 x2 x3 z2 z3 z1 hS hsrc V8c
          refine wp_region_held (S := Below v8.heap.size v8) (by kernel_rfl) ?_
          change wpAnyH _ _ _ _ _ 10 _ _ (World.drew v8)
          have hcur : Below v8.heap.size v8 v8.drew := (Below.refl _ _).drew
          refine held_take (i := 1) (v := .pointer (some ⟨w.heap.size, 0, none⟩)) rfl 157 rfl (by kernel_rfl) (by kernel_rfl) (by kernel_rfl) (fun _ _ _ h => h) (by rfl) (by intro w' hS'; unfold execOp; simp [go_sem]) hcur _ rfl ?_
          simp only [Act.put, List.setIfInBounds_toArray, List.set_cons_zero, List.set_cons_succ]
          refine held_take (i := 2) (v := .slice (some ⟨gt, ot, none⟩) na ca) rfl 158 rfl (by kernel_rfl) (by kernel_rfl) (by kernel_rfl) (fun _ _ _ h => h) (by rfl) (by intro w' hS'; obtain ⟨x0, x1, x2, x3, x4, x5⟩ := S8.out.1 w' hS'; unfold execOp; simp [go_sem, x0]) hcur _ rfl ?_
          simp only [Act.put, List.setIfInBounds_toArray, List.set_cons_zero, List.set_cons_succ]
          refine held_take (i := 4) (v := .agg #[.int .i64 k1, .int .i64 n1, .int .u64 b1, .string t1, .int .i64 d1]) rfl 160 rfl (by kernel_rfl) (by kernel_rfl) (by kernel_rfl) (fun _ _ _ h => h) (by rfl) (by intro w' hS'; obtain ⟨x0, x1, x2, x3, x4, x5⟩ := S8.out.1 w' hS'; unfold execOp; simp [go_sem, x1, x2, x3, x4, x5]) hcur _ rfl ?_
          simp only [Act.put, List.setIfInBounds_toArray, List.set_cons_zero, List.set_cons_succ]
          refine app2_any v8 ⟨k1, n1, b1, t1, d1⟩ xs (.slice (some ⟨gt, ot, none⟩) na ca) (fun b c e f g a d => #[b, true, true, c, true, e, f, g, a, d]) _ 156 159 161 162 163 18 158
            (by decide) (by intro s hs; show s < 180; simp only [List.mem_cons, List.not_mem_nil, or_false] at hs; rcases hs with rfl | rfl | rfl | rfl | rfl | rfl <;> decide) (by have := KT.out.2.1; omega) _ _ _ _ _ _ _
            rfl rfl rfl (fun f V => by kernel_rfl) rfl rfl rfl rfl (fun f => by kernel_rfl) S8.out.2.1 rfl rfl rfl (fun f V => by kernel_rfl) rfl rfl rfl rfl rfl rfl rfl (fun f x y z V hu => by unfold execOp; simp only [putF, Act.put, Act.eval, List.setIfInBounds_toArray, List.set_cons_zero, List.set_cons_succ]; simp [go_sem, hu]) rfl rfl rfl rfl rfl rfl rfl rfl
            (by kernel_rfl) (fun _ _ _ _ _ _ => rfl) (fun _ _ _ _ _ _ => rfl) (fun _ _ _ _ _ _ => rfl) (fun _ _ _ _ _ _ => rfl) (fun _ _ _ _ _ _ => rfl) (fun _ _ _ _ _ _ => rfl) (fun _ _ _ _ _ _ => rfl)
            ?hE _ hcur _ (by decide)
          intro F gp v9 hgp hl9 ho9 hb9 hF9
          simp only [putF, Act.put, List.setIfInBounds_toArray, List.set_cons_zero, List.set_cons_succ, hF9]
          obtain ⟨ya, yn, yc, hF⟩ := ho9.isSlice
          rw [hF] at hl9 ho9 ⊢
          have hkm : ∀ x ∈ xs ++ [(⟨k1, n1, b1, t1, d1⟩ : Nd)], x.kids ≤ 9223372036854775807 := by
            intro x hx
            rcases List.mem_append.1 hx with hx | hx
            · exact (KT.out.1 W0 (Below.refl _ _)).2.2 x hx
            · obtain rfl := List.mem_singleton.1 hx
              exact HDK.out
          have hlm : (xs ++ [(⟨k1, n1, b1, t1, d1⟩ : Nd)]).length ≤ 1000000 := by
            have := KT.out.2.1
            simp; omega
          obtain ⟨ht9, hyn, -⟩ := ho9.tat hlm hkm
          obtain ⟨nb, hnb⟩ : ∃ k, na = k + 1 := ⟨na - 1, by omega⟩
          have hb79 := S8.out.2.2 v9 hb9
          have hroomN : na ≤ ca := by rw [H.out.2.2]; exact KT.out.2.2.1
          have hna3 : na ≤ 300 := by rw [H.out.2.2]; exact KT.out.2.1
          obtain ⟨s0, -⟩ := V7.out.1 v9 hb79
          have y9 := hl9.cell 0 (v := .slice ya yn yc) rfl
          have z1 : (0 : Int) ≤ (na : Int) - 1 := by omega
          have z2 : (na : Int) - 1 ≤ (ca : Int) := by omega
          have z3 : (na : Int) - 1 = (nb : Int) := by omega
          have z4 : (na : Int) ≤ 300 := by omega
          have z5 : (nb : Int) ≤ 300 := by omega
          have V9 := Lib.hid (And.intro hl9 (And.intro ht9 (And.intro hyn (And.intro hb79 (And.intro hnb hroomN)))))
          clear hl9 ht9 hyn hb79 hb9 ho9 hkm hlm hF hF9 hgp hcur hna3 hroomN hnb
          go_upto_region 25 with fail
          have hbA : Below v9.heap.size v9 (v9.alloc (.cells #[.slice (some ⟨gt, ot, none⟩) nb ca] 24)) := (Below.refl _ _).alloc (Nat.le_refl _) _
          have hlA := Lies.new v9 #[.slice (some ⟨gt, ot, none⟩) nb ca] 24
          generalize v9.alloc (.cells #[.slice (some ⟨gt, ot, none⟩) nb ca] 24) = v10 at hbA hlA ⊢
          have y10 := (V9.out.1.below hbA V9.out.1.lt).cell 0 (v := .slice ya yn yc) rfl
          have kl : Calls Try.prog 16 #[.agg #[.slice ya yn yc]] v10 fun e w' => e = .returned (.int .i64 0) ∧ Below v10.heap.size v10 w' := by
            have := deepT_any v10 ya yc _ (V9.out.2.1.below hbA (Nat.le_refl _))
            rw [one_more KX.out.2.1, ← V9.out.2.2.1] at this
            exact this
          have ks : ∀ V, Below v10.heap.size v10 V → Calls Try.prog 16 #[.agg #[.slice (some ⟨gt, ot, none⟩) nb ca]] V fun e w' => e = .returned (.int .i64 0) ∧ Below V.heap.size V w' := fun V hV => by
            have hn9 : (xs.take (xs.length - 1)).length = nb := by
              rw [List.length_take]
              have h1 := V9.out.2.2.2.2.1
              have h2 := H.out.2.2
              omega
            have hVV : Below v7.heap.size v7 V := (V9.out.2.2.2.1.trans (hbA.mono V9.out.2.2.2.1.size)).trans (hV.mono (Nat.le_trans V9.out.2.2.2.1.size hbA.size))
            have hN := V7.out.2.2.2.2.2.2.2.2.1.below hVV hgtl.out
            have hT : TAt V (some ⟨gt, ot, none⟩) (xs.take (xs.length - 1)) := by
              refine ⟨fun _ => ⟨gt, ot, rfl, ⟨hN.1, fun j hj i v hv => ?_⟩⟩, ?_, fun x hx => (KT.out.1 W0 (Below.refl _ _)).2.2 x (List.take_subset _ _ hx)⟩
              · rw [List.getElem_take] at hv
                exact hN.2 j (by rw [List.length_take] at hj; omega) i v hv
              · rw [hn9]; omega
            have := deepT_any V (some ⟨gt, ot, none⟩) ca _ hT
            rw [one_less KX.out.2.1, hn9] at this
            exact this
          have V10 := Lib.hid (And.intro kl (And.intro ks (And.intro hlA (V9.out.2.2.2.1.trans (hbA.mono V9.out.2.2.2.1.size)))))
          clear kl ks hlA hbA z1 z2 z3 z4 z5 s0 y9
          go_wp2_with fail
          refine V10.out.1.mono ?_
          rintro e v11 ⟨rfl, hb11⟩
          have y11 := (V10.out.2.2.1.below hb11 V10.out.2.2.1.lt).cell 0 (v := .slice (some ⟨gt, ot, none⟩) nb ca) rfl
          have V11 := Lib.hid hb11
          clear hb11 y10
          go_wp2_with fail
          refine (V10.out.2.1 _ V11.out).mono ?_
          rintro e v12 ⟨rfl, hb12⟩
          have V12 := Lib.hid (V11.out.trans (hb12.mono V11.out.size))
          clear hb12 y11
          go_wp2_with fail
          go_ret
          have h7 := V10.out.2.2.2.trans (V12.out.mono V10.out.2.2.2.size)
          have h0 := V7.out.2.2.2.2.2.2.2.1.trans (h7.mono V7.out.2.2.2.2.2.2.2.1.size)
          exact ⟨rfl, HB0.out.trans (h0.mono HB0.out.size)⟩
end Go.Proofs.Ytieoiklgoeclaaa
