/-
  pack: a thing: one part of each sort.
-/
import Derived.Test.YtilbbemdinpjcaaGreatJYi
import Derived.Test.YtilbbemdinpjcaaGreatJVu
set_option maxHeartbeats 16000000
namespace Go.Proofs.YtilbbemdinpjcaaGreat.P
set_option maxRecDepth 100000
open Go.RowKit Go.Sort
theorem sameEntry_yes (w : World) (a b : En) (ha : EnOk w a) (hb : EnOk w b) (heq : enV a = enV b) :
  Calls Tryz.prog 145 #[.agg (enC a), .agg (enC b)] w fun e w' => e = .returned (.bool true) ∧ Below w.heap.size w w' := by
 obtain ⟨b1, b2, b3, b4⟩ := box_two w (enC a) (enC b) 81 81
 obtain ⟨W0, HW⟩ : ∃ W0, (w.alloc (.cells (enC a) 81)).alloc (.cells (enC b) 81) = W0 := ⟨_, rfl⟩
 rw [HW] at b1 b2 b3 b4
 have e1 : b.r = a.r := (congrArg Prod.fst heq).symm
 have e2 : outV a.o = outV b.o := congrArg Prod.snd heq
 obtain ⟨rc, hrc⟩ : ∃ x, x = refC a.r := ⟨_, rfl⟩
 obtain ⟨oa, hoa⟩ : ∃ x, x = otC a.o := ⟨_, rfl⟩
 obtain ⟨ob, hob⟩ : ∃ x, x = otC b.o := ⟨_, rfl⟩
 have hrl : rc.toList.length = 33 := by rw [hrc, Array.length_toList, refC_size _ ha.r.1]
 have hol : oa.toList.length = 69 := by rw [hoa, Array.length_toList, otC_size _ ha.o.ah ha.o.dh]
 have hml : ob.toList.length = 69 := by rw [hob, Array.length_toList, otC_size _ hb.o.ah hb.o.dh]
 have r1 : W0.rangeAt w.heap.size 0 rc.toList := fun j v hv => by rw [Nat.zero_add]; exact b1.cell j (by rw [← Array.getElem?_toList]; exact enC_ref ha j v (by rw [← hrc]; exact hv))
 have r2 : W0.rangeAt (w.heap.size + 1) 0 rc.toList := fun j v hv => by rw [Nat.zero_add]; exact b2.cell j (by rw [← Array.getElem?_toList]; exact enC_ref hb j v (by rw [e1, ← hrc]; exact hv))
 have r3 : W0.rangeAt w.heap.size 33 oa.toList := fun j v hv => b1.cell (33 + j) (by rw [← Array.getElem?_toList]; exact enC_out ha j v (by rw [← hoa]; exact hv))
 have r4 : W0.rangeAt (w.heap.size + 1) 33 ob.toList := fun j v hv => b2.cell (33 + j) (by rw [← Array.getElem?_toList]; exact enC_out hb j v (by rw [← hob]; exact hv))
 have hQ : ∀ V, (binOp .eql 37 (.agg rc) (.agg rc)).run Tryz.prog V = .ok (.bool true) V := fun V => by
  have := eq_ref V a.r a.r ha.r ha.r
  rw [← hrc, show decide (a.r = a.r) = true by simp] at this
  exact this
 have K1 := Lib.hid (show Calls Tryz.prog 82 #[.agg oa, .agg ob] W0 fun e w' => e = .returned (.bool true) ∧ Below W0.heap.size W0 w' by
  rw [hoa, hob]
  exact sameOutput_yes W0 a.o b.o (ha.o.below b3 (Nat.le_refl _)) (hb.o.below b3 (Nat.le_refl _)) e2)
 have HB := Lib.hid b3
 have HI := Lib.hid (And.intro (show (Tryz.prog.info? 37).map (·.size) = some rc.toList.length by rw [hrl]; exact info_ref) (And.intro (show (Tryz.prog.info? 35).map (·.size) = some oa.toList.length by rw [hol]; exact info_output) (show (Tryz.prog.info? 35).map (·.size) = some ob.toList.length by rw [hml]; exact info_output)))
 have HR := Lib.hid (And.intro r1 (And.intro r2 (And.intro r3 r4)))
 obtain ⟨va, hva⟩ : ∃ x, x = enC a := ⟨_, rfl⟩
 obtain ⟨vb, hvb⟩ : ∃ x, x = enC b := ⟨_, rfl⟩
 rw [← hva, ← hvb] at HW ⊢
 clear ha hb heq b1 b2 b4 e1 e2 hrc hoa hob hrl hol hml r1 r2 r3 r4 hva hvb b3
 go_enter Tryz.func145, Tryz.ntmps145
 obtain ⟨p, hp⟩ : ∃ p, p = w.heap.size := ⟨_, rfl⟩
 obtain ⟨q, hq⟩ : ∃ q, q = w.heap.size + 1 := ⟨_, rfl⟩
 go_upto_region 1 with fail
 rw [← hq, ← hp]
 rw [← hq, ← hp] at HR
 clear HW hp hq
 go_wp2_with (first
  | (refine wpList_load_midG (by rfl) 37 _ rfl p 0 rfl rc.toList _ HR.out.1 Tryz.underlying37 rfl HI.out.1 ?_)
  | (refine wpList_load_midG (by rfl) 37 _ rfl q 0 rfl rc.toList _ HR.out.2.1 Tryz.underlying37 rfl HI.out.1 ?_)
  | (refine wpList_load_midG (by rfl) 35 _ rfl p 33 rfl oa.toList _ HR.out.2.2.1 Tryz.underlying35 rfl HI.out.2.1 ?_)
  | (refine wpList_load_midG (by rfl) 35 _ rfl q 33 rfl ob.toList _ HR.out.2.2.2 Tryz.underlying35 rfl HI.out.2.2 ?_))
 refine K1.out.mono ?_
 rintro e U2 ⟨rfl, hb2⟩
 have H2 := Lib.hid (HB.out.trans (hb2.mono HB.out.size))
 clear hb2
 go_wp2_with fail
 go_ret
 exact ⟨rfl, H2.out⟩
theorem sameEntries_yes (w : World) (pa pb : Option Addr) (l m : List En) (c e : Nat) (hl : RowE w pa l) (hm : RowE w pb m) (heq : l.map enV = m.map enV) :
  Calls Tryz.prog 83 #[.slice pa l.length c, .slice pb m.length e] w fun e w' => e = .returned (.bool true) ∧ Below w.heap.size w w' := by
 have hlen : l.length = m.length := by simpa using congrArg List.length heq
 obtain ⟨N, hN⟩ : ∃ N, N = m.length := ⟨_, rfl⟩
 have hli : (N : Int) ≤ 9223372036854775807 := by have := hm.1; unfold maxLen at this; omega
 rw [hlen, ← hN]
 have HS := Lib.hid (And.intro hl (And.intro hm (And.intro heq (And.intro hlen hN))))
 clear hl hm heq hlen hN
 go_enter Tryz.func83, Tryz.ntmps83
 go_wp2_with fail
 go_loopw [5] (fun i W => ∃ k : Nat, k ≤ N ∧ i = .int .i64 k ∧ Below w.heap.size w W) (fun i _ => N - (intOf i).toNat)
 case atStart => exact ⟨0, Nat.zero_le _, rfl, Below.refl _ _⟩
 case round =>
  obtain ⟨k, hk, rfl, hb⟩ := hrel
  by_cases hlt : k < N
  ·
   have m1 : (k : Int) < (N : Int) := by omega
   have m0 : (0 : Int) ≤ (k : Int) := by omega
   have hlN : l.length = N := by rw [HS.out.2.2.2.1, ← HS.out.2.2.2.2]
   have hmN : m.length = N := HS.out.2.2.2.2.symm
   obtain ⟨g, off, rfl, hg, hh⟩ := HS.out.1.2 (by omega)
   obtain ⟨g', off', rfl, hg', hh'⟩ := HS.out.2.1.2 (by omega)
   obtain ⟨a, hka⟩ : ∃ a, l[k]? = some a := ⟨l[k]'(by omega), List.getElem?_eq_getElem _⟩
   obtain ⟨b, hkb⟩ : ∃ a, m[k]? = some a := ⟨m[k]'(by omega), List.getElem?_eq_getElem _⟩
   have hab : enV a = enV b := by
    have h := congrArg (fun x => x[k]?) HS.out.2.2.1
    simp only [List.getElem?_map, hka, hkb, Option.map_some] at h
    exact Option.some.inj h
   have hA := hh.below hb hg (Nat.le_refl _) k a hka
   have hB := hh'.below hb hg' (Nat.le_refl _) k b hkb
   obtain ⟨va, hva⟩ : ∃ v, v = enC a := ⟨_, rfl⟩
   obtain ⟨vb, hvb⟩ : ∃ v, v = enC b := ⟨_, rfl⟩
   have hvs : va.size = 102 := by rw [hva]; exact enC_size hA.2
   have hvt : vb.size = 102 := by rw [hvb]; exact enC_size hB.2
   have HR1 : Hid (∀ W, Below wr.heap.size wr W → W.rangeAt g (off + k * 102) va.toList ∧ W.rangeAt g' (off' + k * 102) vb.toList) := Lib.hid fun W hW => by
    rw [hva, hvb]
    have hW' := hb.trans (hW.mono hb.size)
    exact ⟨(hh.below hW' hg (Nat.le_refl _) k a hka).1, (hh'.below hW' hg' (Nat.le_refl _) k b hkb).1⟩
   have K1 : Hid (∀ V, Below wr.heap.size wr V → Calls Tryz.prog 145 #[.agg va, .agg vb] V fun e w' => e = .returned (.bool true) ∧ Below V.heap.size V w') := Lib.hid fun V hV => by
    rw [hva, hvb]
    exact sameEntry_yes V a b (hA.2.below hV (Nat.le_refl _)) (hB.2.below hV (Nat.le_refl _)) hab
   have HR := Lib.hid (And.intro hb hlt)
   have HI := Lib.hid (And.intro (show (Tryz.prog.info? 81).map (·.size) = some va.size by rw [hvs]; exact info_entry) (show (Tryz.prog.info? 81).map (·.size) = some vb.size by rw [hvt]; exact info_entry))
   clear hlN hmN hb hlt hk hka hkb hva hvb hvs hvt hh hh' hg hg' hA hB hab
   go_upto_region 6 with fail
   refine wp_region_noPanic (wp_region_held (S := Below wr.heap.size wr) (by kernel_rfl) ?_)
   change wpAnyH _ _ _ _ _ 10 _ _ (World.drew wr)
   have hcur : Below wr.heap.size wr wr.drew := (Below.refl _ _).drew
   refine tk 0 (.slice (some ⟨g, off, none⟩) N c) 17 rfl rfl hcur ?_
   refine tk 1 (.int .i64 k) 18 rfl rfl hcur ?_
   refine tk 2 (.pointer (some ⟨g, off + k * 102, none⟩)) 19 rfl rfl hcur ?_ (by intro w' hS'; unfold execOp; simp [go_sem, m0, m1])
   refine tk 3 (.agg va) 20 rfl rfl hcur ?_ (by intro w' hS'; exact exec_loadM 81 _ rfl _ _ rfl va (HR1.out _ hS').1 Tryz.underlying81 rfl HI.out.1)
   refine tk 4 (.slice (some ⟨g', off', none⟩) N e) 21 rfl rfl hcur ?_
   refine tk 5 (.int .i64 k) 22 rfl rfl hcur ?_
   refine tk 6 (.pointer (some ⟨g', off' + k * 102, none⟩)) 23 rfl rfl hcur ?_ (by intro w' hS'; unfold execOp; simp [go_sem, m0, m1])
   refine tk 7 (.agg vb) 24 rfl rfl hcur ?_ (by intro w' hS'; exact exec_loadM 81 _ rfl _ _ rfl vb (HR1.out _ hS').2 Tryz.underlying81 rfl HI.out.2)
   generalize wr.drew = U0 at hcur ⊢
   refine held_one (i := 8) (by kernel_rfl) _ rfl (wpOp_callG rfl (by rfl) 25 rfl 145 #[.agg va, .agg vb] (by unfold execOp; simp [go_sem]) _ (ret_gro (K1.out _ hcur)) ?_)
   rintro _ U1 ⟨rfl, hn⟩
   have hcur := hcur.trans (hn.mono hcur.size)
   clear hn
   refine ⟨hcur, ?_⟩
   simp only [Act.put, List.setIfInBounds_toArray, List.set_cons_zero, List.set_cons_succ]
   refine tk 9 (.bool false) 26 rfl rfl hcur ?_
   refine wpAnyH_done (by kernel_rfl) ?_ _
   unfold NoPanic
   dsimp only
   have HF := Lib.hid (HR.out.1.trans (hcur.mono HR.out.1.size))
   clear hcur
   go_wp2_with fail
   have e1 : (k : Int) + 1 = ((k + 1 : Nat) : Int) := by omega
   rw [e1]
   refine ⟨⟨k + 1, HR.out.2, rfl, HF.out⟩, ?_⟩
   have h := HR.out.2
   show N - (k + 1) < N - k
   omega
  ·
   have m1 : ¬ (k : Int) < (N : Int) := by omega
   have HB := Lib.hid hb
   clear hb hlt hk
   go_wp2_with fail
   go_ret
   exact ⟨rfl, HB.out⟩
theorem sameDiff_yes (w : World) (a b : Df) (ha : DfOk w a) (hb : DfOk w b) (heq : diV a = diV b) :
  Calls Tryz.prog 84 #[.agg (dfC a), .agg (dfC b)] w fun e w' => e = .returned (.bool true) ∧ Below w.heap.size w w' := by
 obtain ⟨b1, b2, b3, b4⟩ := box_two w (dfC a) (dfC b) 40 40
 obtain ⟨ps, s, cs, pm, m, cm, fe, fo, pt, l, ct⟩ := a
 obtain ⟨ps', s', cs', pm', m', cm', fe', fo', pt', l', ct'⟩ := b
 obtain ⟨hs, hm, -, -, hl⟩ := ha
 obtain ⟨hs', hm', -, -, hl'⟩ := hb
 have e1 : s.map enV = s'.map enV := congrArg DfV.s heq
 have e2 : m.map enV = m'.map enV := congrArg DfV.m heq
 have e3 : fe' = fe := (congrArg DfV.fe heq).symm
 have e4 : fo' = fo := (congrArg DfV.fo heq).symm
 have e5 : l' = l := (congrArg DfV.l heq).symm
 clear heq
 subst e3 e4 e5
 obtain ⟨W0, HW⟩ : ∃ W0, (w.alloc (.cells (dfC ⟨ps, s, cs, pm, m, cm, fe', fo', pt, l', ct⟩) 40)).alloc (.cells (dfC ⟨ps', s', cs', pm', m', cm', fe', fo', pt', l', ct'⟩) 40) = W0 := ⟨_, rfl⟩
 rw [HW] at b1 b2 b3 b4
 have K1 : Hid (∀ V, Below W0.heap.size W0 V → Calls Tryz.prog 83 #[.slice ps s.length cs, .slice ps' s'.length cs'] V fun e w' => e = .returned (.bool true) ∧ Below V.heap.size V w') := Lib.hid fun V hV =>
  sameEntries_yes V ps ps' s s' cs cs' (hs.below (b3.trans (hV.mono b3.size)) (Nat.le_refl _)) (hs'.below (b3.trans (hV.mono b3.size)) (Nat.le_refl _)) e1
 have K2 : Hid (∀ V, Below W0.heap.size W0 V → Calls Tryz.prog 83 #[.slice pm m.length cm, .slice pm' m'.length cm'] V fun e w' => e = .returned (.bool true) ∧ Below V.heap.size V w') := Lib.hid fun V hV =>
  sameEntries_yes V pm pm' m m' cm cm' (hm.below (b3.trans (hV.mono b3.size)) (Nat.le_refl _)) (hm'.below (b3.trans (hV.mono b3.size)) (Nat.le_refl _)) e2
 have K3 : Hid (∀ V, Below W0.heap.size W0 V → Calls Tryz.prog 81 #[.slice pt l'.length ct, .slice pt' l'.length ct'] V fun e w' => e = .returned (.bool true) ∧ Below V.heap.size V w') := Lib.hid fun V hV => by
  have h := sameT_any V pt pt' l' l' ct ct' (hl.below (b3.trans (hV.mono b3.size)) (Nat.le_refl _)) (hl'.below (b3.trans (hV.mono b3.size)) (Nat.le_refl _))
  rw [show decide (l' = l') = true by simp] at h
  exact h
 unfold dfC at b1 b2 HW ⊢
 dsimp only at b1 b2 HW ⊢
 obtain ⟨n1, hn1⟩ : ∃ n, n = s.length := ⟨_, rfl⟩
 obtain ⟨n2, hn2⟩ : ∃ n, n = m.length := ⟨_, rfl⟩
 obtain ⟨n3, hn3⟩ : ∃ n, n = l'.length := ⟨_, rfl⟩
 obtain ⟨n4, hn4⟩ : ∃ n, n = s'.length := ⟨_, rfl⟩
 obtain ⟨n5, hn5⟩ : ∃ n, n = m'.length := ⟨_, rfl⟩
 rw [← hn1, ← hn4] at K1
 rw [← hn2, ← hn5] at K2
 rw [← hn3] at K3
 rw [← hn1, ← hn2, ← hn3] at b1
 rw [← hn4, ← hn5, ← hn3] at b2
 rw [← hn1, ← hn2, ← hn3, ← hn4, ← hn5] at HW ⊢
 have HC : Hid (∀ V, Below W0.heap.size W0 V → (V.cell? ⟨w.heap.size, 0, none⟩ = some (.slice ps n1 cs) ∧ V.cell? ⟨w.heap.size, 1, none⟩ = some (.slice pm n2 cm) ∧ V.cell? ⟨w.heap.size, 2, none⟩ = some (.int .i64 fe') ∧ V.cell? ⟨w.heap.size, 3, none⟩ = some (.int .i64 fo') ∧ V.cell? ⟨w.heap.size, 4, none⟩ = some (.slice pt n3 ct)) ∧ V.cell? ⟨w.heap.size + 1, 0, none⟩ = some (.slice ps' n4 cs') ∧ V.cell? ⟨w.heap.size + 1, 1, none⟩ = some (.slice pm' n5 cm') ∧ V.cell? ⟨w.heap.size + 1, 2, none⟩ = some (.int .i64 fe') ∧ V.cell? ⟨w.heap.size + 1, 3, none⟩ = some (.int .i64 fo') ∧ V.cell? ⟨w.heap.size + 1, 4, none⟩ = some (.slice pt' n3 ct')) := Lib.hid fun V hV => by
  have h1 := b1.below hV b1.lt
  have h2 := b2.below hV b2.lt
  exact ⟨⟨h1.cell 0 rfl, h1.cell 1 rfl, h1.cell 2 rfl, h1.cell 3 rfl, h1.cell 4 rfl⟩, h2.cell 0 rfl, h2.cell 1 rfl, h2.cell 2 rfl, h2.cell 3 rfl, h2.cell 4 rfl⟩
 have HB := Lib.hid b3
 clear b1 b2 b3 b4 hs hm hl hs' hm' hl' e1 e2 hn1 hn2 hn3 hn4 hn5
 obtain ⟨⟨c0, -⟩, d0, -⟩ := HC.out W0 (Below.refl _ _)
 go_enter Tryz.func84, Tryz.ntmps84
 obtain ⟨p, hp⟩ : ∃ p, p = w.heap.size := ⟨_, rfl⟩
 obtain ⟨q, hq⟩ : ∃ q, q = w.heap.size + 1 := ⟨_, rfl⟩
 go_upto_region 1 with fail
 rw [← hq, ← hp]
 rw [← hp] at c0
 rw [← hq] at d0
 rw [← hq, ← hp] at HC
 clear HW hp hq
 go_wp2_with fail
 refine (K1.out W0 (Below.refl _ _)).mono ?_
 rintro e U1 ⟨rfl, hb1⟩
 obtain ⟨⟨-, c1, -⟩, -, d1, -⟩ := HC.out U1 hb1
 have H1 := Lib.hid hb1
 clear hb1 c0 d0
 go_wp2_with fail
 refine (K2.out U1 H1.out).mono ?_
 rintro e U2 ⟨rfl, hb2⟩
 have hb2 := H1.out.trans (hb2.mono H1.out.size)
 obtain ⟨⟨-, -, c2, c3, c4⟩, -, -, d2, d3, d4⟩ := HC.out U2 hb2
 have H2 := Lib.hid hb2
 clear hb2 c1 d1
 go_wp2_with fail
 refine (K3.out U2 H2.out).mono ?_
 rintro e U3 ⟨rfl, hb3⟩
 have H3 := Lib.hid (HB.out.trans ((H2.out.trans (hb3.mono H2.out.size)).mono HB.out.size))
 clear hb3 c2 c3 c4 d2 d3 d4
 go_wp2_with fail
 go_ret
 exact ⟨rfl, H3.out⟩
end Go.Proofs.YtilbbemdinpjcaaGreat.P
namespace Go.Proofs.YtilbbemdinpjcaaGreat.P
set_option maxRecDepth 100000
open Go.RowKit Go.Sort
structure Th where
 tp : Option Addr
 ns : List T.Nd
 tc : Nat
 pa : Option Addr
 l : List As
 c : Nat
 v : Va
 pt : Option Addr
 t : List To
 ct : Nat
 o : Ot
 r : Rf
 pe : Option Addr
 es : List En
 ce : Nat
 d : Df
structure ThV where
 ns : List T.Nd
 l : List As
 coin : Int
 vl : List As
 t : List To
 o : OutV
 r : Rf
 es : List (Rf × OutV)
 d : DfV
def thV (x : Th) : ThV := ⟨x.ns, x.l, x.v.coin, x.v.l, x.t, outV x.o, x.r, x.es.map enV, diV x.d⟩
def thL (x : Th) : List Value := .slice x.tp x.ns.length x.tc :: .slice x.pa x.l.length x.c :: .int .i64 x.v.coin :: .slice x.v.pa x.v.l.length x.v.c :: .slice x.pt x.t.length x.ct :: ((otC x.o).toList ++ ((refC x.r).toList ++ (.slice x.pe x.es.length x.ce :: (dfC x.d).toList)))
def thC (x : Th) : Array Value := (thL x).toArray
def otZ : Ot := ⟨false, List.replicate 32 0, ⟨0, none, [], 0⟩, 0, List.replicate 32 0, none, [], 0⟩
def dfZ : Df := ⟨none, [], 0, none, [], 0, 0, 0, none, [], 0⟩
def thZ : Th := ⟨none, [], 0, none, [], 0, ⟨0, none, [], 0⟩, none, [], 0, otZ, rfZ, none, [], 0, dfZ⟩
theorem thZ_cells : Tryz.zeroCells42 = thC thZ := by kernel_rfl
theorem otZ_cells : Tryz.zeroCells35 = otC otZ := by kernel_rfl
theorem info_thing : (Tryz.prog.info? 42).map (·.size) = some 113 := by kernel_rfl
theorem thC_size (x : Th) (h1 : x.o.ah.length = 32) (h2 : x.o.dh.length = 32) (h3 : x.r.tx.length = 32) : (thC x).size = 113 := by
 have e1 : (otC x.o).toList.length = 69 := by rw [Array.length_toList, otC_size _ h1 h2]
 have e2 : (refC x.r).toList.length = 33 := by rw [Array.length_toList, refC_size _ h3]
 have e3 : (dfC x.d).toList.length = 5 := rfl
 simp only [thC, thL, List.size_toArray, List.length_cons, List.length_append, e1, e2, e3]
theorem thC_one (x : Th) : (thC x).all (·.oneCell') = true := by
 have e1 := otG_one x.o
 have e2 : (refC x.r).all (·.oneCell') = true := by
  unfold refC
  rw [Array.all_append, B8_one]
  simp [Value.oneCell']
 have e3 := dfG_one x.d
 rw [← Array.all_toList] at e1 e2 e3
 unfold thC thL
 rw [List.all_toArray]
 simp only [List.all_cons, List.all_append, e1, e2, e3]
 simp [Value.oneCell']
structure ThAt (W : World) (p : Nat) (x : Th) : Prop where
 t : W.cell? ⟨p, 0, none⟩ = some (.slice x.tp x.ns.length x.tc)
 a : W.cell? ⟨p, 1, none⟩ = some (.slice x.pa x.l.length x.c)
 c : W.cell? ⟨p, 2, none⟩ = some (.int .i64 x.v.coin)
 v : W.cell? ⟨p, 3, none⟩ = some (.slice x.v.pa x.v.l.length x.v.c)
 tot : W.cell? ⟨p, 4, none⟩ = some (.slice x.pt x.t.length x.ct)
 o : W.rangeAt p 5 (otC x.o).toList
 r : W.rangeAt p 74 (refC x.r).toList
 e : W.cell? ⟨p, 107, none⟩ = some (.slice x.pe x.es.length x.ce)
 d : W.rangeAt p 108 (dfC x.d).toList
theorem thAt_of {W : World} {p : Nat} {x : Th} {t : TypeId} (h : Lies W p (thC x) t) (h1 : x.o.ah.length = 32) (h2 : x.o.dh.length = 32) (h3 : x.r.tx.length = 32) : ThAt W p x := by
 have e1 : (otC x.o).toList.length = 69 := by rw [Array.length_toList, otC_size _ h1 h2]
 have e2 : (refC x.r).toList.length = 33 := by rw [Array.length_toList, refC_size _ h3]
 have hr : W.rangeAt p 0 (thL x) := by
  have := range_lies h
  simpa [thC] using this
 have hr5 : W.rangeAt p (0 + 5) ((otC x.o).toList ++ ((refC x.r).toList ++ (.slice x.pe x.es.length x.ce :: (dfC x.d).toList))) := range_right (X := [.slice x.tp x.ns.length x.tc, .slice x.pa x.l.length x.c, .int .i64 x.v.coin, .slice x.v.pa x.v.l.length x.v.c, .slice x.pt x.t.length x.ct]) hr
 have hr74 := range_right hr5
 rw [e1] at hr74
 have hr107 := range_right hr74
 rw [e2] at hr107
 have hr108 := range_right (X := [.slice x.pe x.es.length x.ce]) (Y := (dfC x.d).toList) hr107
 exact ⟨by simpa using hr 0 _ rfl, by simpa using hr 1 _ rfl, by simpa using hr 2 _ rfl, by simpa using hr 3 _ rfl, by simpa using hr 4 _ rfl, by simpa using range_left hr5, by simpa using range_left hr74, by simpa using hr107 0 _ rfl, by simpa using hr108⟩
structure ThOk (W : World) (x : Th) : Prop where
 t : T.TAt W x.tp x.ns
 a : Row W x.pa x.l
 v : VaOk W x.v
 tot : RowT W x.pt x.t
 o : OtOk W x.o
 r : RfOk x.r
 e : RowE W x.pe x.es
 d : DfOk W x.d
theorem ThOk.below {W W' : World} {x : Th} (h : ThOk W x) (hb : Below W.heap.size W W') : ThOk W' x :=
 ⟨h.t.below hb (Nat.le_refl _), h.a.below hb (Nat.le_refl _), ⟨h.v.1, h.v.2.1, h.v.2.2.below hb (Nat.le_refl _)⟩, h.tot.below hb (Nat.le_refl _), h.o.below hb (Nat.le_refl _), h.r, h.e.below hb (Nat.le_refl _), h.d.below hb (Nat.le_refl _)⟩
structure ThIn (V : World) (B : Nat) (x : Th) : Prop where
 t : T.OwnT V B (.slice x.tp x.ns.length x.tc) x.ns
 tl : x.ns.length ≤ 100
 ti : ∀ y ∈ x.ns, NdIn y
 a : OwnAs V B (.slice x.pa x.l.length x.c) x.l
 al : x.l.length ≤ maxLen
 ao : ∀ y, y ∈ x.l → AsOk y
 v : OwnAs V B (.slice x.v.pa x.v.l.length x.v.c) x.v.l
 vl : x.v.l.length ≤ maxLen
 vo : ∀ y, y ∈ x.v.l → AsOk y
 vc : I64 x.v.coin
 tot : OwnTo V B (.slice x.pt x.t.length x.ct) x.t
 totl : x.t.length ≤ maxLen
 toto : ∀ y, y ∈ x.t → ToOk y
 o : OutIn V B x.o
 r : RfOk x.r
 e : OwnEs V B (.slice x.pe x.es.length x.ce) x.es
 d : DfIn V B x.d
theorem own_only {V V' : World} {g B : Nat} {ty : TypeId} {sz n : Nat} {v : Value} {l : List Value} (h : V.ownsRow B ty sz v n l) (ho : W.Only g V V' none) (hg : g < B) : V'.ownsRow B ty sz v n l :=
 W.own_only h ho (fun e => by have := (W.own_block h _ e).1; omega) (fun _ _ => by simp)
theorem DfIn.only {V V' : World} {g B : Nat} {d : Df} (h : DfIn V B d) (ho : W.Only g V V' none) (hg : g < B) : DfIn V' B d := ⟨h.1.only ho hg, h.2.1.only ho hg, own_only h.2.2.1 ho hg, h.2.2.2⟩
theorem ThIn.only {V V' : World} {g B : Nat} {x : Th} (h : ThIn V B x) (ho : W.Only g V V' none) (hg : g < B) : ThIn V' B x :=
 ⟨ownT_only h.t ho hg, h.tl, h.ti, own_only h.a ho hg, h.al, h.ao, own_only h.v ho hg, h.vl, h.vo, h.vc, own_only h.tot ho hg, h.totl, h.toto, h.o.only ho hg, h.r, h.e.only ho hg, h.d.only ho hg⟩
theorem ThIn.below {V V' : World} {B : Nat} {x : Th} (h : ThIn V B x) (hb : Below V.heap.size V V') : ThIn V' B x :=
 ⟨h.t.kept hb, h.tl, h.ti, ownsRow_below h.a hb, h.al, h.ao, ownsRow_below h.v hb, h.vl, h.vo, h.vc, ownsRow_below h.tot hb, h.totl, h.toto, h.o.below hb, h.r, h.e.below hb, h.d.below hb⟩
theorem ThIn.weak {V : World} {B B' : Nat} {x : Th} (h : ThIn V B x) (hb : B' ≤ B) : ThIn V B' x :=
 ⟨ownT_weak h.t hb, h.tl, h.ti, ownsRow_weak h.a hb, h.al, h.ao, ownsRow_weak h.v hb, h.vl, h.vo, h.vc, ownsRow_weak h.tot hb, h.totl, h.toto, h.o.weak hb, h.r, h.e.weak hb, h.d.weak hb⟩
theorem ThIn.row {V : World} {B q : Nat} {x : Th} (h : ThIn V B x) (hq : q < B) (cs : Array Value) : ThIn (V.setRow q cs) B x := h.only (only_rowsG q V cs) hq
theorem ThIn.ok {V : World} {B : Nat} {x : Th} (h : ThIn V B x) : ThOk V x := by
 obtain ⟨p1, c1, e1, r1⟩ := OwnAs.row h.a h.ao h.al
 obtain ⟨p2, c2, e2, r2⟩ := OwnAs.row h.v h.vo h.vl
 obtain ⟨p3, c3, e3, r3⟩ := OwnTo.row h.tot h.toto h.totl
 injection e1 with e1 _ _
 injection e2 with e2 _ _
 injection e3 with e3 _ _
 exact ⟨(h.t.tat (by have := h.tl; omega) (fun y hy => by have := (h.ti y hy).kids.2; omega)).1, by rw [e1]; exact r1, ⟨h.vc.1, h.vc.2, by rw [e2]; exact r2⟩, by rw [e3]; exact r3, h.o.ok, h.r, h.e.at.2, h.d.ok⟩
theorem outZ_in (V : World) (B : Nat) : OutIn V B otZ := ⟨rfl, rfl, World.ownsRow_nil _ _ _ _, World.ownsRow_nil _ _ _ _, by decide, (fun x hx => (by cases hx)), (fun x hx => (by cases hx)), by decide, by decide⟩
theorem esZ_in (V : World) (B : Nat) : OwnEs V B (.slice none 0 0) [] := ⟨World.ownsRow_nil _ _ _ _, (fun x hx => (by cases hx))⟩
theorem dfZ_in (V : World) (B : Nat) : DfIn V B dfZ := ⟨esZ_in V B, esZ_in V B, World.ownsRow_nil _ _ _ _, by unfold I64; decide, by unfold I64; decide, (fun x hx => (by cases hx)), Nat.zero_le _⟩
theorem thZ_in (V : World) (B : Nat) : ThIn V B thZ :=
 ⟨World.ownsRow_nil _ _ _ _, by decide, (fun x hx => (by cases hx)), World.ownsRow_nil _ _ _ _, Nat.zero_le _, (fun x hx => (by cases hx)), World.ownsRow_nil _ _ _ _, Nat.zero_le _, (fun x hx => (by cases hx)), by unfold I64; decide, World.ownsRow_nil _ _ _ _, Nat.zero_le _, (fun x hx => (by cases hx)), outZ_in V B, ⟨rfl, by decide, by decide⟩, esZ_in V B, dfZ_in V B⟩
def setsL (T : Array Value) (o : Nat) : List Value → Array Value
 | [] => T
 | v :: vs => setsL (T.setIfInBounds o v) (o + 1) vs
theorem lies_setsL {g : Nat} {t : TypeId} : ∀ (vs : List Value) (cs : Array Value) (o : Nat) (w : World), Lies w g cs t → Lies (w.setCells g o vs) g (setsL cs o vs) t
  | [], _, _, _, h => h
  | v :: vs, cs, o, w, h => by
    rw [World.setCells]
    exact lies_setsL vs _ (o + 1) _ (h.set o v)
theorem sets_mid : ∀ (vs X Y Z : List Value), Y.length = vs.length → setsL (X ++ Y ++ Z).toArray X.length vs = (X ++ vs ++ Z).toArray
  | [], X, [], Z, _ => rfl
  | v :: vs, X, y :: Y, Z, h => by
    have h1 : (X ++ y :: Y ++ Z).toArray.setIfInBounds X.length v = ((X ++ [v]) ++ Y ++ Z).toArray := by
      simp
    rw [setsL, h1, show X.length + 1 = (X ++ [v]).length by simp, sets_mid vs (X ++ [v]) Y Z (by simpa using h)]
    simp
  | [], X, y :: Y, Z, h => by cases h
  | v :: vs, X, [], Z, h => by cases h
theorem th_put {U : World} {q : Nat} (off : Nat) (vs : List Value) (x : Th) (X Y Z : List Value) (hL : Lies U q (thC thZ) 42) (e1 : thL thZ = X ++ Y ++ Z) (e2 : thL x = X ++ vs ++ Z) (hl : Y.length = vs.length) (ho : X.length = off) : Lies (U.setCells q off vs) q (thC x) 42 ∧ W.Only q U (U.setCells q off vs) none := by
 refine ⟨?_, only_cells q vs off U⟩
 have h := lies_setsL vs _ off U hL
 unfold thC at h ⊢
 rw [e1, ← ho, sets_mid vs X Y Z hl, ← e2, ho] at h
 exact h
theorem sc_mid {U : World} {q : Nat} {cs : Array Value} {t : TypeId} (hL : Lies U q cs t) (off : Nat) (vs : Array Value) (hs : off + vs.size ≤ cs.size) (h1 : vs.all (·.oneCell') = true) : (storeCells ⟨q, off, none⟩ vs.toList 0).run Tryz.prog U = .ok () (U.setCells q off vs.toList) := by
 have := run_storeCells_cells (P := Tryz.prog) q off vs.toList 0 U (fun j hj => by
  rw [Array.length_toList] at hj
  rw [Nat.add_zero, hL.cell (off + j) (v := cs[off + j]'(by omega)) (Array.getElem?_eq_getElem _)]
  rfl) (fun j _ => hL.free _) (fun v hv => (Array.all_eq_true_iff_forall_mem.1 h1) v (by simpa using hv))
 simpa using this
end Go.Proofs.YtilbbemdinpjcaaGreat.P
