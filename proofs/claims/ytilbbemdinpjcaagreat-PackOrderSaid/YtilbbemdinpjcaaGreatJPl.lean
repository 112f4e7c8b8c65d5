/-
  How great a row of totals is.
-/
import Derived.Test.YtilbbemdinpjcaaGreatJPh
import Derived.Test.YtilbbemdinpjcaaGreatJTTcn2
import Derived.Test.YtilbbemdinpjcaaGreatJVj
import Derived.Test.YtilbbemdinpjcaaGreatJVz
namespace Go.Proofs.YtilbbemdinpjcaaGreat.T
open Go.RowKit

set_option maxRecDepth 1000000 in
set_option maxHeartbeats 1000000 in
theorem termOfL_any (lim : Nat) (hlim : lim ≤ 1000000) (w : World) (a : Option Addr) (c : Nat) (xs : List Nd) (hr : TRaw w a xs) (ht : TxtRaw xs) (hl : xs.length ≤ 140737488355328) :
    Calls Tryz.prog 41 #[.agg #[.slice a xs.length c], .int .i64 (lim : Int)] w fun e w' => ∃ r : Nat, e = .returned (.int .i64 r) ∧ (r ≤ lim → r = cost xs) ∧ r ≤ 1000000000000000 ∧ Below w.heap.size w w' := by
  have hA : Lies (w.alloc (.cells #[.slice a xs.length c] 24)) w.heap.size #[.slice a xs.length c] 24 := Lies.new _ _ _
  have hb0 : Below w.heap.size w (w.alloc (.cells #[.slice a xs.length c] 24)) := (Below.refl _ _).alloc (Nat.le_refl _) _
  obtain ⟨n, hn⟩ : ∃ n, n = xs.length := ⟨_, rfl⟩
  rw [← hn] at hA hb0 hl ⊢
  have H := Lib.hid (And.intro hr (And.intro ht (And.intro hl hn)))
  clear hr ht hl hn
  go_enter Tryz.func41, Tryz.ntmps41
  go_upto_region 1 with fail
  generalize w.alloc (.cells #[.slice a n c] 24) = W0 at hA hb0 ⊢
  have c0 := hA.cell 0 (v := .slice a n c) rfl
  have HB := Lib.hid hb0
  clear hA hb0
  go_wp2_with fail
  go_loop [5, 6] (fun s i => ∃ k t : Nat, k ≤ n ∧ i = .int .i64 k ∧ s = .int .i64 t ∧ t = cost (xs.take k) ∧ t ≤ 1000000000000000) (fun _ i => (n - intOf i).toNat)
  case atStart => exact ⟨0, 0, by omega, by go_num, by go_num, rfl, by omega⟩
  case round =>
    obtain ⟨k, t, hk, rfl, rfl, hs, hts⟩ := hrel
    by_cases hlt : k < n
    · have q1 : (k : Int) < (n : Int) := by omega
      by_cases h3 : t ≤ lim
      · have q2 : (t : Int) ≤ (lim : Int) := by omega
        have hxl : k < xs.length := by rw [← H.out.2.2.2]; exact hlt
        obtain ⟨g, off, rfl, hN⟩ := H.out.1 (by omega)
        have hNW := hN.below HB.out hN.1
        obtain ⟨tx, htx⟩ : ∃ z, z = xs[k].txt := ⟨_, rfl⟩
        have c3 : W0.cell? ⟨g, off + k * 5 + 3, none⟩ = some (.string tx) := by rw [htx]; exact hNW.2 k hxl 3 _ rfl
        have hz : tx.size ≤ 140737488355328 := by rw [htx]; exact H.out.2.1 _ (List.getElem_mem hxl)
        have hct := cost_take hxl
        rw [← htx, ← hs] at hct
        have q0 : (0 : Int) ≤ (k : Int) := by omega
        have q3 : (k : Int) ≤ 140737488355328 := by have := H.out.2.2.1; omega
        have HC := Lib.hid (And.intro hct (And.intro hz hs))
        have q4 : (tx.size : Int) ≤ 140737488355328 := by omega
        have q5 : (0 : Int) ≤ (tx.size : Int) := by omega
        clear hN hNW htx hct hs hxl hz
        go_wp2_with fail
        have hz := HC.out.2.1
        refine ⟨⟨k + 1, t + 1 + tx.size / 16, by omega, by go_num, congrArg (Value.int .i64) (by omega), HC.out.1.symm, by omega⟩, by simp [intOf]; omega⟩
      · have q2 : ¬ (t : Int) ≤ (lim : Int) := by omega
        have HT := Lib.hid hs
        clear hs
        go_wp2_with fail
        go_ret
        exact ⟨t, rfl, fun h => by omega, hts, HB.out⟩
    · have q1 : ¬ (k : Int) < (n : Int) := by omega
      have hke : k = n := by omega
      have hz : t = cost xs := by rw [hs, hke, H.out.2.2.2, List.take_length]
      have HT := Lib.hid hz
      clear hs hz hke
      go_wp2_with fail
      go_ret
      exact ⟨t, rfl, fun _ => HT.out, hts, HB.out⟩
end Go.Proofs.YtilbbemdinpjcaaGreat.T
namespace Go.Proofs.YtilbbemdinpjcaaGreat.P
set_option maxRecDepth 100000
open Go.RowKit Go.Sort

/- counts of assets and bundles, as in value's text Vgx -/
def cntA (l : List As) : Nat := (l.map fun a => 1 + a.nm.2.length / 16).sum
theorem cntA_take {l : List As} {k : Nat} {a : As} (h : l[k]? = some a) : cntA (l.take (k + 1)) = cntA (l.take k) + (1 + a.nm.2.length / 16) := by
  unfold cntA
  rw [List.take_add_one, h, List.map_append, List.sum_append]
  simp
theorem cntA_len : ∀ l : List As, l.length ≤ cntA l
  | [] => Nat.zero_le _
  | a :: l => by
    have h := cntA_len l
    unfold cntA at h ⊢
    simp only [List.map_cons, List.sum_cons, List.length_cons]
    omega
theorem cntA_mem : ∀ {l : List As} {a : As}, a ∈ l → a.nm.2.length / 16 ≤ cntA l
  | b :: l, a, h => by
    unfold cntA
    simp only [List.map_cons, List.sum_cons]
    rcases List.mem_cons.1 h with rfl | h
    · omega
    · have := cntA_mem h
      unfold cntA at this
      omega
def CntRes (x : Nat) (lim B : Int) (e : Ending) : Prop := ∃ n : Nat, e = .returned (.int .i64 n) ∧ (n : Int) ≤ B ∧ ((n : Int) ≤ lim → n = x)
set_option maxHeartbeats 4000000 in
theorem assetsX_any (w : World) (pa : Option Addr) (l : List As) (c : Nat) (lim : Int) (h : Row w pa l) (hlim : lim ≤ 1000000) :
    Calls Tryz.prog 42 #[.slice pa l.length c, .int .i64 lim] w fun e w' => CntRes (cntA l) lim 600000000000000000 e ∧ Below w.heap.size w w' := by
  have hli : (l.length : Int) ≤ 9223372036854775807 := by have := h.1; unfold maxLen at this; omega
  have H := Lib.hid (And.intro h hlim)
  clear h hlim
  go_enter Tryz.func42, Tryz.ntmps42
  go_wp2_with fail
  go_loopw [5, 6] (fun s i W => ∃ (k n : Nat), k ≤ l.length ∧ s = .int .i64 n ∧ i = .int .i64 k ∧ Below w.heap.size w W ∧ n = cntA (l.take k) ∧ (n : Int) ≤ 600000000000000000) (fun _ i _ => l.length - (intOf i).toNat)
  case atStart => exact ⟨0, 0, Nat.zero_le _, rfl, rfl, Below.refl _ _, rfl, by omega⟩
  case round =>
    obtain ⟨k, n, hk, rfl, rfl, hb, hcn, hn0⟩ := hrel
    by_cases hlt : k < l.length
    · have m1 : (k : Int) < (l.length : Int) := by omega
      have m0 : (0 : Int) ≤ (k : Int) := by omega
      by_cases hn : (n : Int) ≤ lim
      · obtain ⟨g, off, rfl, hg, hh⟩ := H.out.1.2.2 (by omega)
        obtain ⟨a, ha⟩ : ∃ a, a = l[k] := ⟨_, rfl⟩
        have hka : l[k]? = some a := by rw [ha, List.getElem?_eq_getElem hlt]
        have oka := H.out.1.2.1 a (List.mem_of_getElem? hka)
        have c32 := (hh.below hb hg) k a hka 32 (.string (txt a.nm.2)) (by rw [Array.getElem?_toList]; exact asC_txt a oka.1)
        have hts := txt_size a.nm.2
        have ht := oka.2.1
        have hl := H.out.2
        have hnx : n + (1 + (txt a.nm.2).size / 16) = cntA (l.take (k + 1)) := by rw [cntA_take hka, ← hcn, hts]
        generalize txt a.nm.2 = tv at c32 hts hnx
        have hti : (tv.size : Int) ≤ 9223372036854775807 := by unfold maxLen at ht; omega
        obtain ⟨z, hz⟩ : ∃ z, z = tv.size / 16 := ⟨_, rfl⟩
        have hzl : z ≤ 576460752303423488 := by omega
        have hdiv : Int.tdiv (tv.size : Int) 16 = (z : Int) := by rw [hz]; rfl
        have hw1 : IntKind.i64.wrap ((n : Int) + 1) = (n : Int) + 1 := by rw [IntKind.wrap_i64]; omega
        have hwz : IntKind.i64.wrap (z : Int) = (z : Int) := by rw [IntKind.wrap_i64]; omega
        have hw2 : IntKind.i64.wrap ((n : Int) + 1 + (z : Int)) = (n : Int) + 1 + (z : Int) := by rw [IntKind.wrap_i64]; omega
        rw [← hz] at hnx
        have hnl : ((n + (1 + z) : Nat) : Int) ≤ 600000000000000000 := by omega
        have HR := Lib.hid (And.intro hb (And.intro hlt (And.intro hnx hnl)))
        clear ha hka oka hg hh hb hlt hk hts ht hcn hl hz hzl hnx hn0 hnl
        go_wp2_with fail
        have e1 : (k : Int) + 1 = ((k + 1 : Nat) : Int) := by omega
        have e2 : (n : Int) + 1 + (z : Int) = ((n + (1 + z) : Nat) : Int) := by omega
        rw [e1, e2]
        refine ⟨⟨k + 1, n + (1 + z), HR.out.2.1, rfl, rfl, HR.out.1, HR.out.2.2.1, HR.out.2.2.2⟩, ?_⟩
        have h := HR.out.2.1
        show l.length - (k + 1) < l.length - k
        omega
      · have HB := Lib.hid (And.intro hb (And.intro hn0 hn))
        clear hb hlt hk hcn hn0
        go_wp2_with fail
        go_ret
        exact ⟨⟨n, rfl, HB.out.2.1, fun h => absurd h (by have := HB.out.2.2; omega)⟩, HB.out.1⟩
    · have m1 : ¬ (k : Int) < (l.length : Int) := by omega
      have hkl : k = l.length := by omega
      subst hkl
      rw [List.take_length] at hcn
      have HB := Lib.hid (And.intro hb (And.intro hn0 hcn))
      clear hb hlt hk hcn hn0
      go_wp2_with fail
      go_ret
      exact ⟨⟨n, rfl, HB.out.2.1, fun _ => HB.out.2.2⟩, HB.out.1⟩
def cntV (v : Va) : Nat := 1 + cntA v.l
set_option maxHeartbeats 1000000 in
theorem valueX_any (w : World) (x : Int) (pa : Option Addr) (l : List As) (c : Nat) (lim : Int) (h : Row w pa l) (hlim : lim ≤ 1000000) :
    Calls Tryz.prog 43 #[.agg #[.int .i64 x, .slice pa l.length c], .int .i64 lim] w fun e w' => CntRes (1 + cntA l) lim 600000000000000001 e ∧ Below w.heap.size w w' := by
  have hli : (l.length : Int) ≤ 9223372036854775807 := by have := h.1; unfold maxLen at this; omega
  have hb1 : Below w.heap.size w (w.alloc (.cells #[.int .i64 x, .slice pa l.length c] 27)) := (Below.refl _ _).alloc (Nat.le_refl _) _
  have hL : Lies (w.alloc (.cells #[.int .i64 x, .slice pa l.length c] 27)) w.heap.size #[.int .i64 x, .slice pa l.length c] 27 := Lies.new _ _ _
  have hC := assetsX_any _ pa l c lim (h.below hb1 (Nat.le_refl _)) hlim
  have H := Lib.hid (And.intro hC (And.intro hb1 hlim))
  have c0 := hL.cell 0 (v := .int .i64 x) rfl
  have c1 := hL.cell 1 (v := .slice pa l.length c) rfl
  clear h hC hb1 hL hlim
  go_enter Tryz.func43, Tryz.ntmps43
  go_wp2_with fail
  refine H.out.1.mono ?_
  rintro e w2 ⟨⟨n, rfl, hn0, hn⟩, hb2⟩
  have hw : IntKind.i64.wrap (1 + (n : Int)) = 1 + (n : Int) := by rw [IntKind.wrap_i64]; omega
  have HB := Lib.hid (And.intro (H.out.2.1.trans (hb2.mono H.out.2.1.size)) (And.intro hn0 hn))
  clear hb2 c0 c1 hn0 hn
  go_wp2_with fail
  go_ret
  have h0 := HB.out.2.1
  have h1 := HB.out.2.2
  have hl := H.out.2.2
  refine ⟨⟨1 + n, by push_cast; rfl, by omega, fun h => by have := h1 (by omega); omega⟩, HB.out.1⟩
/-- An output as it may come in: nothing is known of its term's length. -/
structure OtRaw (w : World) (o : Ot) : Prop where
  ah : o.ah.length = 32
  v : VaOk w o.v
  dh : o.dh.length = 32
  t : T.TRaw w o.tp o.ns
  txt : T.TxtRaw o.ns
  len : o.ns.length ≤ 140737488355328
  kids : ∀ x ∈ o.ns, x.kids ≤ 9223372036854775807
  tc : o.ns.length ≤ o.tc
theorem OtRaw.below {w w' : World} {o : Ot} {B : Nat} (h : OtRaw w o) (hb : Below B w w') (hB : w.heap.size ≤ B) : OtRaw w' o := ⟨h.ah, ⟨h.v.1, h.v.2.1, h.v.2.2.below hb hB⟩, h.dh, h.t.below hb hB, h.txt, h.len, h.kids, h.tc⟩
def cntO (o : Ot) : Nat := cntV o.v + T.cost o.ns
/-- One that is not too great. -/
theorem OtRaw.small {w : World} {o : Ot} (h : OtRaw w o) (hc : cntO o ≤ 1000000) : OtOk w o := ⟨h.ah, h.v, h.dh, ⟨h.t, by have := T.cost_len o.ns; unfold cntO at hc; omega, h.kids⟩, h.tc⟩
theorem outputOf_any (w : World) (o : Ot) (lim : Nat) (hlim : lim ≤ 1000000) (h : OtRaw w o) :
    Calls Tryz.prog 45 #[.agg (otC o), .int .i64 (lim : Int)] w fun e w' => CntRes (cntO o) lim 700000000000000001 e ∧ Below w.heap.size w w' := by
  obtain ⟨ov, hov⟩ : ∃ v, v = otC o := ⟨_, rfl⟩
  have hL : Lies (w.alloc (.cells ov 35)) w.heap.size ov 35 := Lies.new _ _ _
  have hb0 : Below w.heap.size w (w.alloc (.cells ov 35)) := (Below.refl _ _).alloc (Nat.le_refl _) _
  generalize hW : w.alloc (.cells ov 35) = W0 at hL hb0
  have hr := h.below hb0 (Nat.le_refl _)
  have HS : Hid (∀ V, Below W0.heap.size W0 V → V.cell? ⟨w.heap.size, 33, none⟩ = some (.int .i64 o.v.coin) ∧ V.cell? ⟨w.heap.size, 34, none⟩ = some (.slice o.v.pa o.v.l.length o.v.c) ∧ V.cell? ⟨w.heap.size, 68, none⟩ = some (.slice o.tp o.ns.length o.tc)) := Lib.hid fun V hV => by
    have hl := hL.below hV hL.lt
    rw [hov] at hl
    have h1 := lies_at hl h.ah h.dh
    exact ⟨by simpa using h1.coin, by simpa using h1.assets, by simpa using h1.term⟩
  have K1 : Hid (∀ V, Below W0.heap.size W0 V → Calls Tryz.prog 43 #[.agg #[.int .i64 o.v.coin, .slice o.v.pa o.v.l.length o.v.c], .int .i64 (lim : Int)] V fun e w' => CntRes (cntV o.v) lim 600000000000000001 e ∧ Below V.heap.size V w') := Lib.hid fun V hV => valueX_any V o.v.coin o.v.pa o.v.l o.v.c lim (hr.v.2.2.below hV (Nat.le_refl _)) (by omega)
  have K2 : Hid (∀ V, Below W0.heap.size W0 V → Calls Tryz.prog 41 #[.agg #[.slice o.tp o.ns.length o.tc], .int .i64 (lim : Int)] V fun e w' => (∃ r : Nat, e = .returned (.int .i64 r) ∧ (r ≤ lim → r = T.cost o.ns) ∧ r ≤ 1000000000000000) ∧ Below V.heap.size V w') := Lib.hid fun V hV =>
    (T.termOfL_any lim hlim V o.tp o.tc o.ns (hr.t.below hV (Nat.le_refl _)) hr.txt hr.len).mono fun e w' k => by
      obtain ⟨r, h1, h2, h3, h4⟩ := k
      exact ⟨⟨r, h1, h2, h3⟩, h4⟩
  have HB := Lib.hid (And.intro hb0 hlim)
  have HW := hW
  rw [← hov]
  clear hL hr h hov hb0 hlim hW
  go_enter Tryz.func45, Tryz.ntmps45
  go_upto_region 1 with fail
  clear HW
  obtain ⟨g, hg⟩ : ∃ g, g = w.heap.size := ⟨_, rfl⟩
  rw [← hg] at HS ⊢
  clear hg
  refine wp_region_held (S := Below W0.heap.size W0) (by kernel_rfl) ?_
  change wpAnyH _ _ _ _ _ 10 _ _ (World.drew W0)
  have hcur : Below W0.heap.size W0 W0.drew := (Below.refl _ _).drew
  refine tk 0 (.pointer (some ⟨g, 33, none⟩)) 5 rfl rfl hcur ?_
  refine tk 1 (.agg #[.int .i64 o.v.coin, .slice o.v.pa o.v.l.length o.v.c]) 6 rfl rfl hcur ?_ (by intro w' hS'; obtain ⟨x0, x1, -⟩ := HS.out w' hS'; unfold execOp; simp [go_sem, x0, x1])
  refine tk 2 (.int .i64 (lim : Int)) 7 rfl rfl hcur ?_
  refine tk 4 (.pointer (some ⟨g, 68, none⟩)) 9 rfl rfl hcur ?_
  refine tk 5 (.agg #[.slice o.tp o.ns.length o.tc]) 10 rfl rfl hcur ?_ (by intro w' hS'; have x0 := (HS.out w' hS').2.2; unfold execOp; simp [go_sem, x0])
  refine tk 6 (.int .i64 (lim : Int)) 11 rfl rfl hcur ?_
  generalize W0.drew = V0 at hcur ⊢
  refine held_one (i := 3) (by kernel_rfl) _ rfl (wpOp_callG rfl (by rfl) 8 rfl 43 #[.agg #[.int .i64 o.v.coin, .slice o.v.pa o.v.l.length o.v.c], .int .i64 (lim : Int)] (by unfold execOp; simp [go_sem]) (fun v w' => ∃ n : Nat, v = .int .i64 (n : Int) ∧ (n : Int) ≤ 600000000000000001 ∧ ((n : Int) ≤ (lim : Int) → n = cntV o.v) ∧ Below V0.heap.size V0 w') ((K1.out V0 hcur).mono fun e w' k => by obtain ⟨⟨n, h1, h2, h3⟩, h4⟩ := k; exact ⟨_, h1, n, rfl, h2, h3, h4⟩) ?_)
  rintro _ U1 ⟨n, rfl, hn1, hn2, hn⟩
  have hcur := hcur.trans (hn.mono hcur.size)
  clear hn
  refine ⟨hcur, ?_⟩
  simp only [Act.put, List.setIfInBounds_toArray, List.set_cons_zero, List.set_cons_succ]
  refine held_one (i := 7) (by kernel_rfl) _ rfl (wpOp_callG rfl (by rfl) 12 rfl 41 #[.agg #[.slice o.tp o.ns.length o.tc], .int .i64 (lim : Int)] (by unfold execOp; simp [go_sem]) (fun v w' => ∃ r : Nat, v = .int .i64 (r : Int) ∧ (r ≤ lim → r = T.cost o.ns) ∧ r ≤ 1000000000000000 ∧ Below U1.heap.size U1 w') ((K2.out U1 hcur).mono fun e w' k => by obtain ⟨⟨r, h1, h2, h3⟩, h4⟩ := k; exact ⟨_, h1, r, rfl, h2, h3, h4⟩) ?_)
  rintro _ U2 ⟨r, rfl, hr1, hr2, hn⟩
  have hcur := hcur.trans (hn.mono hcur.size)
  clear hn
  refine ⟨hcur, ?_⟩
  simp only [Act.put, List.setIfInBounds_toArray, List.set_cons_zero, List.set_cons_succ]
  have hwr : IntKind.i64.wrap ((n : Int) + (r : Int)) = (n : Int) + (r : Int) := by rw [IntKind.wrap_i64]; omega
  refine tk 8 (.int .i64 ((n : Int) + (r : Int))) 13 rfl rfl hcur ?_ (by intro w' hS'; unfold execOp; simp [go_sem, hwr])
  refine tk 9 (.int .i64 ((n : Int) + (r : Int))) 4 rfl rfl hcur ?_
  refine held_done (by kernel_rfl) ?_
  have HN := Lib.hid (And.intro hn1 (And.intro hn2 (And.intro hr1 (And.intro hr2 (HB.out.1.trans (hcur.mono HB.out.1.size))))))
  clear hwr hn1 hn2 hr1 hr2 hcur
  go_wp2_with fail
  go_ret
  refine ⟨⟨n + r, ret_i (by simp), ?_, ?_⟩, HN.out.2.2.2.2⟩
  · have h1 := HN.out.1; have h2 := HN.out.2.2.2.1; omega
  · intro hh
    have h1 := HN.out.2.1 (by omega)
    have h2 := HN.out.2.2.1 (by omega)
    unfold cntO
    rw [← h1, ← h2]
end Go.Proofs.YtilbbemdinpjcaaGreat.P
namespace Go.Proofs.YtilbbemdinpjcaaGreat.P
set_option maxRecDepth 100000
open Go.RowKit Go.Sort

/-- An entry as it may come in. -/
structure EnRaw (w : World) (e : En) : Prop where
  r : RfOk e.r
  o : OtRaw w e.o
theorem EnRaw.below {w w' : World} {e : En} {B : Nat} (h : EnRaw w e) (hb : Below B w w') (hB : w.heap.size ≤ B) : EnRaw w' e := ⟨h.r, h.o.below hb hB⟩
def HasER (w : World) (g off : Nat) (es : List En) : Prop := ∀ (i : Nat) (e : En), es[i]? = some e → w.rangeAt g (off + i * 102) (enC e).toList ∧ EnRaw w e
theorem HasER.below {B : Nat} {w w' : World} {g off : Nat} {es : List En} (h : HasER w g off es) (hb : Below B w w') (hg : g < B) (hB : w.heap.size ≤ B) : HasER w' g off es :=
  fun i e hi => ⟨fun j v hj => (hb.cell (p := ⟨g, off + i * 102 + j, none⟩) hg).trans ((h i e hi).1 j v hj), (h i e hi).2.below hb hB⟩
def RowER (w : World) (pa : Option Addr) (es : List En) : Prop := es.length ≤ maxLen ∧ (0 < es.length → ∃ g off, pa = some ⟨g, off, none⟩ ∧ g < w.heap.size ∧ HasER w g off es)
def cntE (es : List En) : Nat := (es.map fun e => 1 + cntO e.o).sum
theorem cntE_take {es : List En} {k : Nat} {e : En} (h : es[k]? = some e) : cntE (es.take (k + 1)) = cntE (es.take k) + (1 + cntO e.o) := by
  unfold cntE
  rw [List.take_add_one, h, List.map_append, List.sum_append]
  simp
theorem cntE_mem : ∀ {es : List En} {e : En}, e ∈ es → cntO e.o ≤ cntE es
  | d :: es, e, h => by
    have e1 : cntE (d :: es) = 1 + cntO d.o + cntE es := by simp [cntE]
    rw [e1]
    rcases List.mem_cons.1 h with rfl | h
    · omega
    · have := cntE_mem h
      omega
/-- Entries that are not too great. -/
theorem RowER.small {w : World} {pa : Option Addr} {es : List En} (h : RowER w pa es) (hc : cntE es ≤ 1000000) : RowE w pa es := ⟨h.1, fun h0 => by
  obtain ⟨g, off, h1, h2, h3⟩ := h.2 h0
  exact ⟨g, off, h1, h2, fun i e hi => ⟨(h3 i e hi).1, (h3 i e hi).2.r, (h3 i e hi).2.o.small (Nat.le_trans (cntE_mem (List.mem_of_getElem? hi)) hc)⟩⟩⟩
theorem enC_outR {e : En} (h : e.r.tx.length = 32) (j : Nat) (v : Value) (hv : (otC e.o).toList[j]? = some v) : (enC e).toList[33 + j]? = some v := by
  have hl : (refC e.r).toList.length = 33 := by rw [Array.length_toList, refC_size _ h]
  unfold enC
  rw [Array.toList_append, List.getElem?_append_right (by omega), hl, Nat.add_sub_cancel_left]
  exact hv
set_option maxHeartbeats 4000000 in
theorem entriesOf_any (w : World) (pa : Option Addr) (es : List En) (c lim : Nat) (hlim : lim ≤ 1000000) (h : RowER w pa es) :
    Calls Tryz.prog 40 #[.slice pa es.length c, .int .i64 (lim : Int)] w fun e w' => CntRes (cntE es) lim 800000000000000000 e ∧ Below w.heap.size w w' := by
  obtain ⟨N, hN⟩ : ∃ N, N = es.length := ⟨_, rfl⟩
  have hli : (N : Int) ≤ 9223372036854775807 := by have := h.1; unfold maxLen at this; omega
  have hlm : (lim : Int) ≤ 1000000 := by omega
  rw [← hN]
  have H := Lib.hid (And.intro h (And.intro hlim hN))
  clear h hlim hN
  go_enter Tryz.func40, Tryz.ntmps40
  go_wp2_with fail
  go_loopw [5, 6] (fun s i W => ∃ (k n : Nat), k ≤ N ∧ s = .int .i64 n ∧ i = .int .i64 k ∧ Below w.heap.size w W ∧ (n : Int) ≤ 800000000000000000 ∧ ((n : Int) ≤ (lim : Int) → n = cntE (es.take k))) (fun _ i _ => N - (intOf i).toNat)
  case atStart => exact ⟨0, 0, Nat.zero_le _, rfl, rfl, Below.refl _ _, by omega, fun _ => rfl⟩
  case round =>
    obtain ⟨k, n, hk, rfl, rfl, hb, hn0, hcn⟩ := hrel
    by_cases hlt : k < N
    · have m1 : (k : Int) < (N : Int) := by omega
      have m0 : (0 : Int) ≤ (k : Int) := by omega
      by_cases hn : (n : Int) ≤ (lim : Int)
      · have hNl := H.out.2.2
        obtain ⟨g, off, hpa, hg, hh⟩ := H.out.1.2 (by omega)
        subst hpa
        obtain ⟨e, hke⟩ : ∃ e, es[k]? = some e := ⟨es[k]'(by omega), List.getElem?_eq_getElem _⟩
        have hE := hh.below hb hg (Nat.le_refl _) k e hke
        obtain ⟨ov, hov⟩ : ∃ v, v = otC e.o := ⟨_, rfl⟩
        have hos : ov.size = 69 := by rw [hov]; exact otC_size _ hE.2.o.ah hE.2.o.dh
        have hrg : wr.rangeAt g (off + k * 102 + 33) ov.toList := fun j v hj => by
          rw [Nat.add_assoc]
          exact hE.1 (33 + j) v (enC_outR hE.2.r.1 j v (by rw [← hov]; exact hj))
        have hinf : (Tryz.prog.info? 35).map (·.size) = some ov.toList.length := by rw [Array.length_toList, hos]; exact info_output
        have hcall : Calls Tryz.prog 45 #[.agg ov, .int .i64 (lim : Int)] wr fun x w' => CntRes (cntO e.o) lim 700000000000000001 x ∧ Below wr.heap.size wr w' := by rw [hov]; exact outputOf_any wr e.o lim H.out.2.1 hE.2.o
        have HC := Lib.hid (And.intro hcall (And.intro hrg hinf))
        have HR := Lib.hid (And.intro hb (And.intro hlt (And.intro hke (And.intro (hcn hn) hn))))
        have hnl : (n : Int) ≤ 1000000 := by omega
        clear hNl hke hE hov hos hrg hinf hcall hg hh hb hlt hk hcn hn0
        go_wp2_with (refine wpList_load_mid rfl 35 _ rfl g (off + k * 102 + 33) rfl ov.toList _ HC.out.2.1 Tryz.underlying35 rfl HC.out.2.2 ?_)
        refine HC.out.1.mono ?_
        rintro x w2 ⟨⟨m, rfl, hm0, hm⟩, hb2⟩
        have hw : IntKind.i64.wrap ((n : Int) + 1 + (m : Int)) = (n : Int) + 1 + (m : Int) := by rw [IntKind.wrap_i64]; omega
        have hbd : ((n + 1 + m : Nat) : Int) ≤ 800000000000000000 := by omega
        have HB2 := Lib.hid (And.intro (HR.out.1.trans (hb2.mono HR.out.1.size)) (And.intro hm hbd))
        clear hb2 hm hm0 hbd
        go_wp2_with fail
        have e1 : (k : Int) + 1 = ((k + 1 : Nat) : Int) := by omega
        have e2 : (n : Int) + 1 + (m : Int) = ((n + 1 + m : Nat) : Int) := by omega
        rw [e1, e2]
        refine ⟨⟨k + 1, n + 1 + m, HR.out.2.1, rfl, rfl, HB2.out.1, HB2.out.2.2, fun h => ?_⟩, ?_⟩
        · rw [cntE_take HR.out.2.2.1, ← HR.out.2.2.2.1, ← HB2.out.2.1 (by omega)]
          omega
        · have h := HR.out.2.1
          show N - (k + 1) < N - k
          omega
      · have HB := Lib.hid (And.intro hb (And.intro hn0 hn))
        clear hb hlt hk hcn hn0
        go_wp2_with fail
        go_ret
        exact ⟨⟨n, rfl, HB.out.2.1, fun h => absurd h (by have := HB.out.2.2; omega)⟩, HB.out.1⟩
    · have m1 : ¬ (k : Int) < (N : Int) := by omega
      have hkl : es.take k = es := List.take_of_length_le (by have := H.out.2.2; omega)
      rw [hkl] at hcn
      have HB := Lib.hid (And.intro hb (And.intro hn0 hcn))
      clear hb hlt hk hcn hn0 hkl
      go_wp2_with fail
      go_ret
      exact ⟨⟨n, rfl, HB.out.2.1, HB.out.2.2⟩, HB.out.1⟩
end Go.Proofs.YtilbbemdinpjcaaGreat.P
namespace Go.Proofs.YtilbbemdinpjcaaGreat.P
set_option maxRecDepth 100000
open Go.RowKit Go.Sort

def cntT (l : List To) : Nat := (l.map fun a => 1 + a.nm.2.length / 16).sum
theorem cntT_take {l : List To} {k : Nat} {a : To} (h : l[k]? = some a) : cntT (l.take (k + 1)) = cntT (l.take k) + (1 + a.nm.2.length / 16) := by
  unfold cntT
  rw [List.take_add_one, h, List.map_append, List.sum_append]
  simp
set_option maxHeartbeats 4000000 in
theorem totalsX_any (w : World) (pa : Option Addr) (l : List To) (c : Nat) (lim : Int) (h : RowT w pa l) (hlim : lim ≤ 1000000) :
    Calls Tryz.prog 44 #[.slice pa l.length c, .int .i64 lim] w fun e w' => CntRes (cntT l) lim 600000000000000000 e ∧ Below w.heap.size w w' := by
  have hli : (l.length : Int) ≤ 9223372036854775807 := by have := h.1; unfold maxLen at this; omega
  have H := Lib.hid (And.intro h hlim)
  clear h hlim
  go_enter Tryz.func44, Tryz.ntmps44
  go_wp2_with fail
  go_loopw [5, 6] (fun s i W => ∃ (k n : Nat), k ≤ l.length ∧ s = .int .i64 n ∧ i = .int .i64 k ∧ Below w.heap.size w W ∧ n = cntT (l.take k) ∧ (n : Int) ≤ 600000000000000000) (fun _ i _ => l.length - (intOf i).toNat)
  case atStart => exact ⟨0, 0, Nat.zero_le _, rfl, rfl, Below.refl _ _, rfl, by omega⟩
  case round =>
    obtain ⟨k, n, hk, rfl, rfl, hb, hcn, hn0⟩ := hrel
    by_cases hlt : k < l.length
    · have m1 : (k : Int) < (l.length : Int) := by omega
      have m0 : (0 : Int) ≤ (k : Int) := by omega
      by_cases hn : (n : Int) ≤ lim
      · obtain ⟨g, off, rfl, hg, hh⟩ := H.out.1.2.2 (by omega)
        obtain ⟨a, ha⟩ : ∃ a, a = l[k] := ⟨_, rfl⟩
        have hka : l[k]? = some a := by rw [ha, List.getElem?_eq_getElem hlt]
        have oka := H.out.1.2.1 a (List.mem_of_getElem? hka)
        have c32 := (hh.below hb hg) k a hka 32 (.string (txt a.nm.2)) (by rw [Array.getElem?_toList]; exact toC_txt a oka.1)
        have hts := txt_size a.nm.2
        have ht := oka.2
        have hl := H.out.2
        have hnx : n + (1 + (txt a.nm.2).size / 16) = cntT (l.take (k + 1)) := by rw [cntT_take hka, ← hcn, hts]
        generalize txt a.nm.2 = tv at c32 hts hnx
        have hti : (tv.size : Int) ≤ 9223372036854775807 := by unfold maxLen at ht; omega
        obtain ⟨z, hz⟩ : ∃ z, z = tv.size / 16 := ⟨_, rfl⟩
        have hzl : z ≤ 576460752303423488 := by omega
        have hdiv : Int.tdiv (tv.size : Int) 16 = (z : Int) := by rw [hz]; rfl
        have hw1 : IntKind.i64.wrap ((n : Int) + 1) = (n : Int) + 1 := by rw [IntKind.wrap_i64]; omega
        have hwz : IntKind.i64.wrap (z : Int) = (z : Int) := by rw [IntKind.wrap_i64]; omega
        have hw2 : IntKind.i64.wrap ((n : Int) + 1 + (z : Int)) = (n : Int) + 1 + (z : Int) := by rw [IntKind.wrap_i64]; omega
        rw [← hz] at hnx
        have hnl : ((n + (1 + z) : Nat) : Int) ≤ 600000000000000000 := by omega
        have HR := Lib.hid (And.intro hb (And.intro hlt (And.intro hnx hnl)))
        clear ha hka oka hg hh hb hlt hk hts ht hcn hl hz hzl hnx hn0 hnl
        go_wp2_with fail
        have e1 : (k : Int) + 1 = ((k + 1 : Nat) : Int) := by omega
        have e2 : (n : Int) + 1 + (z : Int) = ((n + (1 + z) : Nat) : Int) := by omega
        rw [e1, e2]
        refine ⟨⟨k + 1, n + (1 + z), HR.out.2.1, rfl, rfl, HR.out.1, HR.out.2.2.1, HR.out.2.2.2⟩, ?_⟩
        have h := HR.out.2.1
        show l.length - (k + 1) < l.length - k
        omega
      · have HB := Lib.hid (And.intro hb (And.intro hn0 hn))
        clear hb hlt hk hcn hn0
        go_wp2_with fail
        go_ret
        exact ⟨⟨n, rfl, HB.out.2.1, fun h => absurd h (by have := HB.out.2.2; omega)⟩, HB.out.1⟩
    · have m1 : ¬ (k : Int) < (l.length : Int) := by omega
      have hkl : k = l.length := by omega
      subst hkl
      rw [List.take_length] at hcn
      have HB := Lib.hid (And.intro hb (And.intro hn0 hcn))
      clear hb hlt hk hcn hn0
      go_wp2_with fail
      go_ret
      exact ⟨⟨n, rfl, HB.out.2.1, fun _ => HB.out.2.2⟩, HB.out.1⟩
end Go.Proofs.YtilbbemdinpjcaaGreat.P
