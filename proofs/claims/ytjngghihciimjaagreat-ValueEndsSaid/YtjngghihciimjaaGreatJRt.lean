/-
  The document's own Cmp (42) of wide numbers.
-/
import Derived.Test.YtjngghihciimjaaGreatJAt
import Derived.Laws.MakeOwn
import Derived.Test.YtjngghihciimjaaGreatJAwt
import Derived.Test.YtjngghihciimjaaGreatJPd
import Derived.Test.YtjngghihciimjaaGreatJRa
import Derived.Test.YtjngghihciimjaaGreatJVj
namespace Go.Proofs.YtjngghihciimjaaGreat
set_option maxRecDepth 100000
open Go.RowKit Go.Sort Go.Maps
def marksT (k : Nat) : List To := (List.range k).map fun i => mkTo 1 i
theorem marksT_succ (k : Nat) : marksT (k + 1) = marksT k ++ [mkTo 1 k] := by simp [marksT, List.range_succ]
theorem marksT_len (k : Nat) : (marksT k).length = k := by simp [marksT]
theorem marksT_ok (k : Nat) : ∀ a, a ∈ marksT k → ToOk a := fun a ha => by
 obtain ⟨i, _, rfl⟩ := List.mem_map.1 ha
 exact mkTo_ok _ _
def SrcT (w : World) (bv : Value) (xs : List To) : Prop := (bv = .slice none 0 0 ∧ xs = []) ∨ ∃ ad c, bv = .slice (some ad) xs.length c ∧ ∀ j u, (cellsF toC xs)[j]? = some u → w.cell? (ad.add j) = some u
theorem row_srcT {w : World} {pa : Option Addr} {l : List To} {c : Nat} (h : RowT w pa l) (hc : pa = none → c = 0) : SrcT w (.slice pa l.length c) l := by
  cases pa with
  | none =>
    have hn : l = [] := by
      rcases Nat.eq_zero_or_pos l.length with h0 | h0
      · exact List.eq_nil_of_length_eq_zero h0
      · obtain ⟨g, off, h1, -⟩ := h.2.2 h0
        cases h1
    subst hn
    rw [hc rfl]
    exact .inl ⟨rfl, rfl⟩
  | some ad =>
    refine .inr ⟨ad, c, rfl, fun j u hu => ?_⟩
    have hok : ∀ a, a ∈ l → (toC a).size = 35 := fun a ha => toC_size a (h.2.1 a ha).1
    have h0 : 0 < l.length := by
      have := (List.getElem?_eq_some_iff.1 hu).1
      rw [cellsF_len toC 35 _ hok] at this
      omega
    obtain ⟨g, off, h1, h2, h3⟩ := h.2.2 h0
    cases h1
    exact cellsF_src toC 35 (by decide) hok h3 j u hu
theorem lies_srcT {w : World} {g : Nat} {a : To} {t : TypeId} (h : Lies w g (toC a) t) : SrcT w (.slice (some ⟨g, 0, none⟩) 1 1) [a] := .inr ⟨⟨g, 0, none⟩, 1, rfl, src_one toC h⟩
theorem wpList_append_T {ops : Array Oper} {rest : List Oper} {o : Oper} {a : Act} {w : World} {Q : Exit → Act → World → Prop} (hgd : o.guard = none) (s x : Operand)
  (ho : o.op = .call { callee := .builtin .append, args := #[s, x], argTypes := #[49, 49] })
  (B : Nat) (v bv : Value) (ys xs : List To) (hs : a.eval s = v) (hown : OwnTo w B v ys) (hx : a.eval x = bv) (hsrc : SrcT w bv xs) (hok : ∀ a, a ∈ xs → ToOk a) (hlen : ys.length + xs.length ≤ 1000000) (hB : B ≤ w.heap.size)
  (h : ∀ v' w', OwnTo w' B v' (ys ++ xs) → w.grownBy w' v.ownBlock → wpList Tryz.prog ops Q rest (a.put o.dst v') w') :
  wpList Tryz.prog ops Q (o :: rest) a w := by
 obtain ⟨i0, z0, hi0, hz0, hz1, hz2, hz3⟩ := info_parts info48
 rcases hsrc with ⟨rfl, rfl⟩ | ⟨ad, c, rfl, hsrc⟩
 ·
  refine wpList_append_own_none hgd s x 49 ho B 75 i0 35 Tryz.underlying49 hi0 v ys.length _ hs hown hx ?_
  exact h v w (by rw [List.append_nil]; exact hown) ⟨rfl, rfl, rfl, Nat.le_refl _, fun _ _ _ => rfl⟩
 ·
  refine wpList_append_own_at w hgd s x 49 ho B 75 i0 z0 35 64 Tryz.underlying49 hi0 hz0 hz1 hz2 hz3 (by decide) v ys.length _ hs hown ad xs.length c (cellsF toC xs) hx (cellsF_len toC 35 _ fun a ha => toC_size a (hok a ha).1) hsrc (cellsF_one toC _ fun a _ => toC_one a) (by unfold maxLen; omega) (by omega) hB ?_
  intro v' w' h2 h3 _ _
  exact h v' w' (by unfold OwnTo; rw [List.length_append, cellsF_app]; exact h2) h3
structure CopT (w W : World) (v : Value) (l : List To) : Prop where
 below : Below w.heap.size w W
 own : OwnTo W w.heap.size v l
theorem CopT.more {w W U : World} {v v' : Value} {l xs : List To} (h : CopT w W v l) (ho : OwnTo U w.heap.size v' (l ++ xs)) (hg : W.grownBy U v.ownBlock) : CopT w U v' (l ++ xs) :=
 ⟨h.below.grown hg h.below.size (fun j hj => (h.own.lt j hj).1), ho⟩
theorem CopT.step {w W U : World} {v : Value} {l : List To} (h : CopT w W v l) (hb : Below W.heap.size W U) : CopT w U v l :=
 ⟨h.below.trans (hb.mono h.below.size), ownsRow_below h.own hb⟩
theorem mk_totals (n : Nat) (hn : n ≤ 400000) : ∃ z : Value, ∀ w : World, (Instr.makeSlice 49 (.int .i64 0) (.int .i64 n)).run Tryz.prog w = .ok (.slice (some ⟨w.heap.size, 0, none⟩) 0 n) (w.alloc (.cells (madeCells z.cells (n * 35)) 75)) := by
 obtain ⟨i0, z0, hi0, hz0, hz1, hz2, hz3⟩ := info_parts info48
 refine ⟨z0, fun w => ?_⟩
 have := run_makeSlice (P := Tryz.prog) (w := w) 49 75 i0 z0 Tryz.underlying49 hi0 hz0 .i64 .i64 0 n (by omega) (by omega) (by rw [hz1]; simp; omega) (by rw [hz2]; omega) (by omega)
 rw [hz1] at this
 simp only [Int.toNat_natCast] at this
 exact this
def LentT (w : World) (B : Nat) (l : List To) (v : Value) : Prop := ∃ g c, v = .slice (some ⟨g, 0, none⟩) l.length c ∧ l.length + 12 ≤ c ∧ OwnTo w B (.slice (some ⟨g, 0, none⟩) (l.length + 12) c) (l ++ marksT 12)
attribute [-go_sem] Instr.build
attribute [-go_sem] Instr.buildSlice
set_option maxHeartbeats 4000000 in
theorem lentTo_any (w : World) (pa : Option Addr) (l : List To) (c : Nat) (h : RowT w pa l) (h0 : pa = none → c = 0) (hl : l.length ≤ 100000) :
  Calls Tryz.prog 74 #[.slice pa l.length c] w fun e w' => (∃ v, e = .returned v ∧ LentT w' w.heap.size l v) ∧ Below w.heap.size w w' := by
 have hsrc : ∀ V, Below w.heap.size w V → SrcT V (.slice pa l.length c) l := fun V hV => row_srcT (h.below hV (Nat.le_refl _)) h0
 have hok := h.2.1
 obtain ⟨n, hn⟩ : ∃ n, n = l.length := ⟨_, rfl⟩
 rw [← hn] at hl hsrc ⊢
 obtain ⟨z, hz⟩ := mk_totals (n + 12) (by omega)
 obtain ⟨mc, hmc⟩ : ∃ mc, mc = madeCells z.cells ((n + 12) * 35) := ⟨_, rfl⟩
 rw [← hmc] at hz
 have hms : mc.size = (n + 12) * 35 := by rw [hmc, made_size]
 have hmk : ∀ V, (Instr.makeSlice 49 (.int .i64 0) (.int .i64 ((n : Int) + 12))).run Tryz.prog V = .ok (.slice (some ⟨V.heap.size, 0, none⟩) 0 (n + 12)) (V.alloc (.cells mc 75)) := fun V => by
  have := hz V
  rwa [show (((n + 12 : Nat)) : Int) = (n : Int) + 12 by omega] at this
 have q1 : (n : Int) ≤ 100000 := by omega
 have q2 : (0 : Int) ≤ (n : Int) := by omega
 have hst : CopT w (w.alloc (.cells mc 75)) (.slice (some ⟨w.heap.size, 0, none⟩) 0 (n + 12)) [] :=
  ⟨(Below.refl _ _).alloc (Nat.le_refl _) _, rfl, .inr ⟨w.heap.size, n + 12, mc, rfl, Nat.le_refl _, Lies.new w mc 75, Nat.zero_le _, by unfold maxLen; omega, by rw [hms], rfl⟩⟩
 have hs0 := hsrc _ hst.below
 have H := Lib.hid (And.intro hn (And.intro hok (And.intro hst hs0)))
 clear h h0 hn hsrc hok hst hs0 hz hmc hms
 go_enter Tryz.func74, Tryz.ntmps74
 go_upto_region 4 with (at_builtin; go_must (refine wpList_append_T rfl _ _ rfl w.heap.size _ _ [] l rfl H.out.2.2.1.own rfl H.out.2.2.2 H.out.2.1 (by have := H.out.1; simp; omega) H.out.2.2.1.below.size ?_; intro v2 w2 ho2 hg2; have H2 := Lib.hid (H.out.2.2.1.more ho2 hg2); clear ho2 hg2))
 clear hmk
 go_loopw [3, 4] (fun v i W => ∃ k : Nat, k ≤ 12 ∧ i = .int .i64 k ∧ CopT w W v (l ++ marksT k)) (fun _ i _ => (12 - intOf i).toNat)
 case atStart => exact ⟨0, Nat.zero_le _, rfl, by simpa [marksT] using H2.out⟩
 case round =>
  obtain ⟨k, hk, rfl, hcop⟩ := hrel
  by_cases hlt : k < 12
  ·
   have q3 : (k : Int) < 12 := by omega
   have q4 : (0 : Int) ≤ (k : Int) := by omega
   have hm := mkTc_any wr 1 k (by omega) (by omega)
   obtain ⟨av, hav⟩ : ∃ v, v = mkTc 1 k := ⟨_, rfl⟩
   rw [← hav] at hm
   have has : av.size = 35 := by rw [hav]; exact mkTc_size _ _
   have hsl : ∀ W : World, (Instr.buildSlice 49 1 #[(0, .agg av)]).run Tryz.prog W = .ok (.slice (some ⟨W.heap.size, 0, none⟩) 1 1) (W.alloc (.cells av 75)) := fun W => run_slice1 W 49 75 35 64 av Tryz.underlying49 info48 (by decide) (by decide) has
   have HR := Lib.hid (And.intro hcop (And.intro hm (And.intro trivial (And.intro hav (And.intro hlt has)))))
   clear hcop hm hav hlt has hk
   go_wp2_with fail
   refine HR.out.2.1.mono ?_
   rintro e w4 ⟨rfl, hb4⟩
   have hc5 := (HR.out.1.step hb4).step ((Below.refl _ _).alloc (Nat.le_refl _) (.cells av 75))
   have hs5 : SrcT (w4.alloc (.cells av 75)) (.slice (some ⟨w4.heap.size, 0, none⟩) 1 1) [mkTo 1 k] := lies_srcT (t := 75) (by have e : av = toC (mkTo 1 k) := HR.out.2.2.2.1; rw [← e]; exact Lies.new w4 av 75)
   have HX := Lib.hid (And.intro hc5 hs5)
   clear hc5 hs5 hb4
   go_wp2_with (at_builtin; go_must (refine wpList_append_T rfl _ _ rfl w.heap.size _ _ (l ++ marksT k) [mkTo 1 k] rfl HX.out.1.own rfl HX.out.2 (fun a ha => by rw [List.mem_singleton] at ha; rw [ha]; exact mkTo_ok 1 k) (by have h1 := H.out.1; rw [List.length_append, marksT_len]; simp; omega) HX.out.1.below.size ?_; intro v6 w6 ho6 hg6; have H6 := Lib.hid (HX.out.1.more ho6 hg6); clear ho6 hg6))
   have e1 : (k : Int) + 1 = ((k + 1 : Nat) : Int) := by omega
   rw [e1]
   refine ⟨⟨k + 1, HR.out.2.2.2.2.1, rfl, by rw [marksT_succ, ← List.append_assoc]; exact H6.out⟩, ?_⟩
   have h := HR.out.2.2.2.2.1
   simp [intOf]
   omega
  ·
   have hk12 : k = 12 := by omega
   subst hk12
   have q3 : ¬ ((12 : Nat) : Int) < 12 := by omega
   have hlen : (l ++ marksT 12).length = n + 12 := by rw [List.length_append, marksT_len, ← H.out.1]
   rcases own_at toC 35 (fun a ha => by
    rcases List.mem_append.1 ha with ha | ha
    ·
     exact toC_size a (H.out.2.1 a ha).1
    ·
     exact toC_size a (marksT_ok 12 a ha).1) hcop.own with ⟨_, h2⟩ | ⟨g, cap, h1, h2, h3, h4, _, _⟩
   ·
    rw [h2] at hlen
    simp at hlen
   ·
    rw [hlen] at h1 h4
    subst h1
    have q5 : (n : Int) ≤ (cap : Int) := by omega
    have hroom : n + 12 ≤ cap := h4
    have HF := Lib.hid (And.intro hcop hroom)
    clear hcop hroom h2 h3 h4 hlen hk hlt
    go_wp2_with fail
    go_ret
    exact ⟨⟨_, rfl, g, cap, by rw [H.out.1]; rfl, by rw [← H.out.1]; exact HF.out.2, by rw [← H.out.1]; exact HF.out.1.own⟩, HF.out.1.below⟩
end Go.Proofs.YtjngghihciimjaaGreat
namespace Go.Proofs.YtjngghihciimjaaGreat
set_option maxRecDepth 100000
open Go.RowKit Go.Sort Go.Maps
attribute [-go_sem] Instr.build
attribute [-go_sem] Instr.buildSlice
structure LentTn (w : World) (l : List To) (g c : Nat) : Prop where
 room : l.length + 12 ≤ c
 lt : g < w.heap.size
 old : ∀ (k : Nat) (a : To), l[k]? = some a → w.rangeAt g (k * 35) (toC a).toList
 new : ∀ i, i < 12 → w.rangeAt g ((l.length + i) * 35) (toC (mkTo 1 i)).toList
theorem LentT.inn {w : World} {B : Nat} {l : List To} {v : Value} (h : LentT w B l v) (ho : ∀ a, a ∈ l → ToOk a) : ∃ g c, v = .slice (some ⟨g, 0, none⟩) l.length c ∧ LentTn w l g c := by
 obtain ⟨g, c, h1, h2, h3⟩ := h
 have hlen : (l ++ marksT 12).length = l.length + 12 := by rw [List.length_append, marksT_len]
 refine ⟨g, c, h1, ?_⟩
 rcases own_at toC 35 (fun a ha => by
  rcases List.mem_append.1 ha with ha | ha
  ·
   exact toC_size a (ho a ha).1
  ·
   exact toC_size a (marksT_ok 12 a ha).1) h3 with ⟨h4, _⟩ | ⟨g', cap, h4, _, h5, _, h6, _⟩
 ·
  cases h4
 ·
  rw [hlen] at h4
  simp only [Value.slice.injEq, Option.some.injEq, Addr.mk.injEq, true_and, and_true] at h4
  obtain ⟨rfl, rfl⟩ := h4
  refine ⟨h2, h5, fun k a hk => ?_, fun i hi => ?_⟩
  ·
   have := h6 k a (by rw [List.getElem?_append_left (List.getElem?_eq_some_iff.1 hk).1]; exact hk)
   rwa [Nat.zero_add] at this
  ·
   have := h6 (l.length + i) (mkTo 1 i) (by
    rw [List.getElem?_append_right (by omega), Nat.add_sub_cancel_left]
    unfold marksT
    rw [List.getElem?_map, List.getElem?_range hi]
    rfl)
   rwa [Nat.zero_add] at this
theorem LentTn.below {w U : World} {l : List To} {g c B : Nat} (h : LentTn w l g c) (hb : Below B w U) (hB : w.heap.size ≤ B := by exact Nat.le_refl _) : LentTn U l g c :=
 ⟨h.room, Nat.lt_of_lt_of_le h.lt hb.size, fun k a hk j v hv => (hb.cell (p := ⟨g, k * 35 + j, none⟩) (Nat.lt_of_lt_of_le h.lt hB)).trans (h.old k a hk j v hv), fun i hi j v hv => (hb.cell (p := ⟨g, (l.length + i) * 35 + j, none⟩) (Nat.lt_of_lt_of_le h.lt hB)).trans (h.new i hi j v hv)⟩
theorem LentTn.row {w : World} {l : List To} {g c : Nat} (h : LentTn w l g c) (hl : l.length ≤ maxLen) (ho : ∀ a, a ∈ l → ToOk a) : RowT w (some ⟨g, 0, none⟩) l :=
 ⟨hl, ho, fun _ => ⟨g, 0, rfl, h.lt, fun i a hi => by rw [Nat.zero_add]; exact h.old i a hi⟩⟩
set_option maxHeartbeats 8000000 in
theorem keptTo_any (w : World) (vs : List To) (g cg : Nat) (pa : Option Addr) (c : Nat) (hlk : LentTn w vs g cg) (h : RowT w pa vs) (hl : vs.length ≤ 100000) :
  Calls Tryz.prog 83 #[.slice (some ⟨g, 0, none⟩) vs.length cg, .slice pa vs.length c] w fun e w' => e = .returned (.bool true) ∧ Below w.heap.size w w' := by
 obtain ⟨n, hn⟩ : ∃ n, n = vs.length := ⟨_, rfl⟩
 have q5 : (n : Int) + 12 ≤ (cg : Int) := by have := hlk.room; omega
 have q1 : (n : Int) ≤ 100000 := by omega
 have q2 : (0 : Int) ≤ (n : Int) := by omega
 have H := Lib.hid (And.intro hlk (And.intro h (And.intro trivial hn)))
 rw [← hn] at hl ⊢
 clear hlk h hn hl
 go_enter Tryz.func83, Tryz.ntmps83
 go_wp2_with fail
 go_loopw [6] (fun i W => ∃ k : Nat, k ≤ n + 12 ∧ i = .int .i64 k ∧ Below w.heap.size w W) (fun i _ => n + 12 - (intOf i).toNat)
 case atStart => exact ⟨0, Nat.zero_le _, rfl, Below.refl _ _⟩
 case round =>
  obtain ⟨k, hk, rfl, hb⟩ := hrel
  have m0 : (0 : Int) ≤ (k : Int) := by omega
  by_cases hlt : k < n + 12
  ·
   have m1 : (k : Int) < (n : Int) + 12 := by omega
   have hlk := H.out.1.below hb
   by_cases hkn : k < n
   ·
    as_aux_lemma =>
    have r1 : (k : Int) < (n : Int) := by omega
    have r3 : k < n := hkn
    have r4 : ¬ n ≤ k := by omega
    have r5 : ¬ (n : Int) ≤ (k : Int) := by omega
    obtain ⟨g2, off, rfl, hg, hh⟩ := H.out.2.1.2.2 (by have := H.out.2.2.2; omega)
    obtain ⟨v, hkv⟩ : ∃ v, vs[k]? = some v := ⟨vs[k]'(by have := H.out.2.2.2; omega), List.getElem?_eq_getElem _⟩
    have h3 := hlk.old k v hkv
    have oky := H.out.2.1.2.1 v (List.mem_of_getElem? hkv)
    have hvv : wr.rangeAt g2 (off + k * 35) (toC v).toList := fun j u hu => (hb.cell (p := ⟨g2, off + k * 35 + j, none⟩) hg).trans (hh k v hkv j u hu)
    have hg2 : g2 < wr.heap.size := Nat.lt_of_lt_of_le hg hb.size
    obtain ⟨X, hX⟩ : ∃ X, X = toC v := ⟨_, rfl⟩
    have heq : ∀ W, (Op.equalIn 10000 75 (.agg X) (.agg X)).run Tryz.prog W = .ok true W := fun W => by
     have := eq_to W v v oky oky
     rw [decide_eq_true rfl] at this
     rw [hX]; exact this
    have hsz : (Tryz.prog.info? 75).map (·.size) = some X.size := by rw [hX, toC_size v oky.1]; exact info_total
    rw [← hX] at h3 hvv
    have K1 := Lib.hid heq
    have HX := Lib.hid (And.intro h3 (And.intro hlk.lt (And.intro hvv (And.intro hg2 hsz))))
    have HB := Lib.hid (And.intro hb hlt)
    clear heq hsz h3 hlk hvv hg2 hb hlt hkv hh hg hk hkn oky hX
    go_upto_region 7 with fail
    refine wp_region_quiet_below (by kernel_rfl) (by kernel_rfl) ?_
    iterate 8 (first | go_big_quiet_step (fail) | quiet_step (fail))
    refine wpQuiet_loadE (by rfl) 75 _ rfl g (k * 35) rfl X _ HX.out.1 HX.out.2.1 Tryz.underlying75 rfl HX.out.2.2.2.2 ?_
    iterate 3 (first | go_big_quiet_step (fail) | quiet_step (fail))
    refine wpQuiet_loadE (by rfl) 75 _ rfl g2 (off + k * 35) rfl X _ HX.out.2.2.1 HX.out.2.2.2.1 Tryz.underlying75 rfl HX.out.2.2.2.2 ?_
    refine wpQuiet_sameT (by rfl) _ _ rfl X K1.out rfl rfl ?_
    iterate 21 (first | go_big_quiet_step (fail) | quiet_step (fail))
    refine wpQuiet_nil ?_
    rintro w5 ⟨p9, hw5⟩
    have HB5 : Hid (Below w.heap.size w w5) := Lib.hid (by rw [hw5]; exact HB.out.1.trans ((below_regrown wr p9.d p9.os).mono HB.out.1.size))
    clear hw5 K1 HX
    go_wp2_with fail
    refine ⟨⟨k + 1, HB.out.2, by go_num, HB5.out⟩, ?_⟩
    have := HB.out.2
    simp [intOf]; omega
   ·
    as_aux_lemma =>
    have r1 : decide ((k : Int) < (n : Int)) = false := by simp; omega
    have r2 : decide (k < n) = false := by simp; omega
    have r4 : (n : Int) ≤ (k : Int) := by omega
    have r5 : n ≤ k := by omega
    obtain ⟨j, hj⟩ : ∃ j, j = k - n := ⟨_, rfl⟩
    have hjk : k = n + j := by omega
    have hwj : IntKind.i64.wrap ((k : Int) - (n : Int)) = (j : Int) := by rw [IntKind.wrap_i64]; omega
    have h3 := hlk.new j (by omega)
    rw [← H.out.2.2.2, ← hjk] at h3
    have hmk := fun U => mkTc_any U 1 j (by omega) (by omega)
    have hsm := mkTc_eq 1 j
    obtain ⟨X, hX⟩ : ∃ X, X = mkTc 1 j := ⟨_, rfl⟩
    have hXs : (Tryz.prog.info? 75).map (·.size) = some X.size := by rw [hX, mkTc_size]; exact info_total
    rw [show toC (mkTo 1 j) = mkTc 1 j from rfl, ← hX] at h3
    rw [← hX] at hsm
    simp only [← hX] at hmk
    have K1 := Lib.hid hmk
    have K2 := Lib.hid hsm
    have HX := Lib.hid (And.intro h3 (And.intro hlk.lt hXs))
    have HB := Lib.hid (And.intro hb hlt)
    clear hmk hsm h3 hlk hXs hX hb hlt hj hjk hk hkn
    go_upto_region 7 with fail
    refine wp_region_quiet_below (by kernel_rfl) (by kernel_rfl) ?_
    iterate 25 (first | go_big_quiet_step (fail) | quiet_step (fail))
    refine wpQuiet_loadE (by rfl) 75 _ rfl g (k * 35) rfl X _ HX.out.1 HX.out.2.1 Tryz.underlying75 rfl HX.out.2.2 ?_
    iterate 4 (first | go_big_quiet_step (fail) | quiet_step (fail))
    quiet_step ((go_at_call 126; with_reducible exact Calls.regrown_of (K1.out _)))
    refine wpQuiet_sameT (by rfl) _ _ rfl X K2.out rfl rfl ?_
    iterate 3 (first | go_big_quiet_step (fail) | quiet_step (fail))
    refine wpQuiet_nil ?_
    rintro w5 ⟨p9, hw5⟩
    have HB5 : Hid (Below w.heap.size w w5) := Lib.hid (by rw [hw5]; exact HB.out.1.trans ((below_regrown wr p9.d p9.os).mono HB.out.1.size))
    clear hw5 K1 K2 HX
    go_wp2_with fail
    refine ⟨⟨k + 1, HB.out.2, by go_num, HB5.out⟩, ?_⟩
    have := HB.out.2
    simp [intOf]; omega
  ·
   as_aux_lemma =>
   have m1 : decide ((k : Int) < (n : Int) + 12) = false := by simp; omega
   have HE := Lib.hid hb
   clear hb hlt hk
   go_wp2_with fail
   go_ret
   exact ⟨rfl, HE.out⟩
end Go.Proofs.YtjngghihciimjaaGreat
namespace Go.Proofs.YtjngghihciimjaaGreat
set_option maxRecDepth 100000
open Go.RowKit Go.Sort Go.Maps
attribute [-go_sem] Instr.build
def slR (ts : List Tr) : List Value := ts.map fun v => .slice v.pa v.l.length v.c
structure LentR (W : World) (B : Nat) (v : Value) (rs xs : List Tr) : Prop where
 own : W.ownsRow B 49 1 v xs.length (slR xs)
 each : ∀ x, x ∈ xs → LentT W B x.l (.slice x.pa x.l.length x.c)
 same : xs.map (·.l) = rs.map (·.l)
theorem LentT.below {w U : World} {B : Nat} {l : List To} {v : Value} (h : LentT w B l v) (hb : Below w.heap.size w U) : LentT U B l v := by
 obtain ⟨g, c, h1, h2, h3⟩ := h
 exact ⟨g, c, h1, h2, ownsRow_below h3 hb⟩
theorem LentT.mono {w : World} {B B' : Nat} {l : List To} {v : Value} (h : LentT w B l v) (hb : B' ≤ B) : LentT w B' l v := by
 obtain ⟨g, c, h1, h2, h3⟩ := h
 exact ⟨g, c, h1, h2, own_mono h3 hb⟩
theorem LentR.below {W W' : World} {B : Nat} {v : Value} {rs xs : List Tr} (h : LentR W B v rs xs) (hb : Below W.heap.size W W') : LentR W' B v rs xs := ⟨ownsRow_below h.own hb, fun u hu => (h.each u hu).below hb, h.same⟩
theorem LentR.len {W : World} {B : Nat} {v : Value} {rs xs : List Tr} (h : LentR W B v rs xs) : xs.length = rs.length := by
 have := congrArg List.length h.same
 simpa using this
theorem LentT.kept {w U : World} {B : Nat} {l : List To} {v : Value} (h : LentT w B l v) {r : Option Nat} (hg : w.grownBy U r) (hne : ∀ g, v.ownBlock = some g → r ≠ some g) : LentT U B l v := by
 obtain ⟨g, c, h1, h2, h3⟩ := h
 subst h1
 exact ⟨g, c, rfl, h2, own_keptO h3 hg hne⟩
def LentRRes (B : Nat) (rs : List Tr) (e : Ending) (w' : World) : Prop := ∃ pa c xs, e = .returned (.slice pa xs.length c) ∧ LentR w' B (.slice pa xs.length c) rs xs
set_option maxHeartbeats 8000000 in
theorem lentR_any (w : World) (pa : Option Addr) (rs : List Tr) (c : Nat) (h : RowRT w pa rs) (hl : rs.length ≤ 100000) (hls : ∀ r, r ∈ rs → r.l.length ≤ 100000) (hnil : ∀ r, r ∈ rs → r.pa = none → r.c = 0) :
    Calls Tryz.prog 34 #[.slice pa rs.length c] w fun e w' => LentRRes w.heap.size rs e w' ∧ Below w.heap.size w w' := by
  obtain ⟨n, hn⟩ : ∃ n, n = rs.length := ⟨_, rfl⟩
  obtain ⟨i0, hi0, hz0, hz1, hz2⟩ := info_partsZ infoRT
  have HI := Lib.hid (And.intro hi0 (And.intro hz0 (And.intro hz1 hz2)))
  rw [← hn] at hl ⊢
  have q1 : (n : Int) ≤ 100000 := by omega
  have q2 : (0 : Int) ≤ (n : Int) := by omega
  have H := Lib.hid (And.intro h (And.intro hn (And.intro hls (And.intro hnil hl))))
  clear h hn hls hnil hi0 hz0 hz1 hz2 hl
  go_enter Tryz.func34, Tryz.ntmps34
  go_wp2_with fail
  go_loopw [3, 4] (fun s i W => ∃ (k : Nat) (xs : List Tr) (pa : Option Addr) (d : Nat), k ≤ n ∧ i = .int .i64 k ∧ s = .slice pa k d ∧ xs.length = k ∧ LentR W w.heap.size (.slice pa k d) (rs.take k) xs ∧ Below w.heap.size w W) (fun _ i _ => n - (intOf i).toNat)
  case atStart => exact ⟨0, [], none, 0, Nat.zero_le _, rfl, rfl, rfl, by rw [List.take_zero]; exact ⟨World.ownsRow_nil _ _ _ _, fun u hu => by simp at hu, rfl⟩, Below.refl _ _⟩
  case round =>
    obtain ⟨k, xs, ps, d, hk, rfl, rfl, hxl, hcp, hb⟩ := hrel
    by_cases hlt : k < n
    · as_aux_lemma =>
      have m1 : (k : Int) < (n : Int) := by omega
      have m1n : k < n := hlt
      have m0 : (0 : Int) ≤ (k : Int) := by omega
      obtain ⟨g, off, rfl, hg, hh⟩ := H.out.1.2 (by have := H.out.2.1; omega)
      obtain ⟨v, hkv⟩ : ∃ v, rs[k]? = some v := ⟨rs[k]'(by have := H.out.2.1; omega), List.getElem?_eq_getElem _⟩
      have hmem := List.mem_of_getElem? hkv
      have c1 := (hb.cell (p := ⟨g, off + k, none⟩) hg).trans (hh k v hkv).1
      have hrow := (hh k v hkv).2.below hb (Nat.le_refl _)
      have hcall := lentTo_any wr v.pa v.l v.c hrow (H.out.2.2.2.1 v hmem) (H.out.2.2.1 v hmem)
      have HR := Lib.hid (And.intro hb (And.intro hlt (And.intro hkv (And.intro hcp (And.intro hcall hxl)))))
      clear hkv hcall hg hh hb hlt hk hcp hmem hrow hxl
      go_wp2_with (first
        | (go_at_call 74; refine HR.out.2.2.2.2.1.mono ?_; rintro e w2 ⟨⟨s5, rfl, hlent⟩, hb2⟩
           obtain ⟨gx, cx, rfl, hcx, hox⟩ := hlent
           have hlent : LentT w2 w.heap.size v.l (.slice (some ⟨gx, 0, none⟩) v.l.length cx) := LentT.mono ⟨gx, cx, rfl, hcx, hox⟩ HR.out.1.size
           have hb3 : Below wr.heap.size wr (w2.alloc (.cells #[.slice (some ⟨gx, 0, none⟩) v.l.length cx] 49)) := hb2.alloc hb2.size _
           have hb23 : Below w2.heap.size w2 (w2.alloc (.cells #[.slice (some ⟨gx, 0, none⟩) v.l.length cx] 49)) := (Below.refl _ _).alloc (Nat.le_refl _) _
           have H3 := Lib.hid (And.intro (HR.out.2.2.2.1.below hb3) (And.intro (HR.out.1.trans (hb3.mono HR.out.1.size)) (hlent.below hb23)))
           clear hb2 hb3 hb23 hlent hcx hox)
        | (at_builtin; go_must (refine wpList_append_own _ rfl _ _ 58 rfl w.heap.size 49 i0 (.slice none 0 0) 1 24 Tryz.underlying58 HI.out.1 HI.out.2.1 HI.out.2.2.1 HI.out.2.2.2 rfl (by decide) (.slice ps k d) k (slR xs) rfl (by have := H3.out.1.own; rw [HR.out.2.2.2.2.2] at this; exact this) ⟨w2.heap.size, 0, none⟩ 1 1 [.slice (some ⟨gx, 0, none⟩) v.l.length cx] rfl rfl (cell_one_new _ _ _) (by simp; rfl) (by have h2 := HR.out.2.1; have h3 := H.out.2.2.2.2; unfold maxLen; omega) (by have h2 := HR.out.2.1; have h3 := H.out.2.2.2.2; omega) H3.out.2.1.size ?_)
           intro v' w7 hown hgrow hnil
           have hsh : ∃ p c, v' = .slice p (k + 1) c := by
             rcases hown.2 with ⟨_, h0⟩ | ⟨g, cap, cur, rfl, _⟩
             · omega
             · exact ⟨_, cap, rfl⟩
           obtain ⟨p7, c7, rfl⟩ := hsh
           have H7 := Lib.hid (And.intro hown hgrow)
           clear hown hgrow hnil))
      have hfin : LentR w7 w.heap.size (.slice p7 (k + 1) c7) (rs.take (k + 1)) (xs ++ [⟨some ⟨gx, 0, none⟩, v.l, cx⟩]) := by
        have hfar : ∀ (l : List To) (u : Value), LentT (w2.alloc (.cells #[.slice (some ⟨gx, 0, none⟩) v.l.length cx] 49)) w.heap.size l u → ∀ g, u.ownBlock = some g → (Value.slice ps k d).ownBlock ≠ some g := fun l u hu g hg e => by
          obtain ⟨g5, c5, rfl, _, h5⟩ := hu
          exact rows_apart (H3.out.1.own) h5 (by decide) g5 rfl (by
            have e1 : g5 = g := Option.some.inj hg
            rw [e1]
            exact e.symm)
        refine ⟨?_, fun u hu => ?_, ?_⟩
        · have e : (xs ++ [(⟨some ⟨gx, 0, none⟩, v.l, cx⟩ : Tr)]).length = k + 1 := by rw [List.length_append, HR.out.2.2.2.2.2]; rfl
          rw [e]
          have e2 : slR (xs ++ [(⟨some ⟨gx, 0, none⟩, v.l, cx⟩ : Tr)]) = slR xs ++ [.slice (some ⟨gx, 0, none⟩) v.l.length cx] := by simp [slR]
          rw [e2]
          exact H7.out.1
        · rcases List.mem_append.1 hu with hu | hu
          · exact (H3.out.1.each u hu).kept H7.out.2 (hfar _ _ (H3.out.1.each u hu))
          · rw [List.mem_singleton] at hu
            subst hu
            exact H3.out.2.2.kept H7.out.2 (hfar _ _ H3.out.2.2)
        · rw [List.map_append, H3.out.1.same, List.take_add_one, HR.out.2.2.1]
          simp
      have hxl2 : (xs ++ [(⟨some ⟨gx, 0, none⟩, v.l, cx⟩ : Tr)]).length = k + 1 := by rw [List.length_append, HR.out.2.2.2.2.2]; rfl
      have hbf := H3.out.2.1.grown H7.out.2 H3.out.2.1.size (fun j hj => (H3.out.1.own.lt j hj).1)
      have HX := Lib.hid (And.intro hfin (And.intro hxl2 hbf))
      clear hfin hxl2 hbf c1
      go_wp2_with fail
      refine ⟨⟨k + 1, _, p7, c7, HR.out.2.1, by go_num, rfl, HX.out.2.1, HX.out.1, HX.out.2.2⟩, ?_⟩
      have h := HR.out.2.1
      simp [intOf]; omega
    · as_aux_lemma =>
      have hkn : k = n := by omega
      subst hkn
      have m1 : decide ((k : Int) < (k : Int)) = false := by simp
      have m1n : ¬ k < k := by omega
      have hvs : rs.take k = rs := by rw [H.out.2.1]; exact List.take_length
      rw [hvs] at hcp
      have HE := Lib.hid (And.intro hcp (And.intro hb hxl))
      clear hcp hb hlt hk hvs hxl
      go_wp2_with fail
      go_ret
      exact ⟨⟨ps, d, xs, by rw [HE.out.2.2]; rfl, by rw [HE.out.2.2]; exact HE.out.1⟩, HE.out.2.1⟩
structure LookR (w : World) (rs xs : List Tr) (pa : Option Addr) : Prop where
 len : xs.length = rs.length
 each : ∀ (k : Nat) (r : Tr), rs[k]? = some r → ∃ gx cx, xs[k]? = some ⟨some ⟨gx, 0, none⟩, r.l, cx⟩ ∧ LentTn w r.l gx cx
 row : 0 < rs.length → ∃ g, pa = some ⟨g, 0, none⟩ ∧ g < w.heap.size ∧ ∀ (k : Nat) (x : Tr), xs[k]? = some x → w.cell? ⟨g, k, none⟩ = some (.slice x.pa x.l.length x.c)
theorem LentR.look {w : World} {B : Nat} {rs xs : List Tr} {pa : Option Addr} {n c : Nat} (h : LentR w B (.slice pa n c) rs xs) (ho : ∀ r, r ∈ rs → ∀ a, a ∈ r.l → ToOk a) : LookR w rs xs pa := by
 have hlen := h.len
 refine ⟨hlen, fun k r hr => ?_, fun hpos => ?_⟩
 ·
  have hk : k < rs.length := (List.getElem?_eq_some_iff.1 hr).1
  have hu : xs[k]? = some (xs[k]'(by omega)) := List.getElem?_eq_getElem _
  have hs := congrArg (fun l : List (List To) => l[k]?) h.same
  simp only [List.getElem?_map, hu, hr, Option.map_some, Option.some.injEq] at hs
  have hla := h.each _ (List.mem_of_getElem? hu)
  generalize xs[k]'(by omega) = u at hu hs hla
  obtain ⟨p, l, d⟩ := u
  obtain rfl : l = r.l := hs
  obtain ⟨gx, cx, e, hin⟩ := hla.inn (ho r (List.mem_of_getElem? hr))
  simp only [Value.slice.injEq, true_and] at e
  obtain ⟨rfl, rfl⟩ := e
  exact ⟨gx, d, hu, hin⟩
 ·
  rcases h.own.2 with ⟨h1, h0⟩ | ⟨g, cap, cur, h1, h2, h3, _⟩
  ·
   omega
  ·
   simp only [Value.slice.injEq] at h1
   have hg : (Value.slice pa n c).ownBlock = some g := by rw [h1.1]; rfl
   refine ⟨g, h1.1, (Array.getElem?_eq_some_iff.1 h3).1, fun k x hx => ?_⟩
   have := h.own.cells hg k (.slice x.pa x.l.length x.c) (by unfold slR; rw [List.getElem?_map, hx]; rfl)
   rwa [Addr.add_mid, Nat.zero_add] at this
theorem LookR.below {w U : World} {rs xs : List Tr} {pa : Option Addr} (h : LookR w rs xs pa) {B : Nat} (hB : w.heap.size ≤ B) (hb : Below B w U) : LookR U rs xs pa :=
 ⟨h.len, fun k r hr => by
   obtain ⟨gx, cx, h1, h2⟩ := h.each k r hr
   exact ⟨gx, cx, h1, h2.below hb hB⟩, fun hp => by
   obtain ⟨g, h1, h2, h3⟩ := h.row hp
   exact ⟨g, h1, Nat.lt_of_lt_of_le h2 hb.size, fun k x hx => (hb.cell (p := ⟨g, k, none⟩) (Nat.lt_of_lt_of_le h2 hB)).trans (h3 k x hx)⟩⟩
theorem LookR.rows {w : World} {rs xs : List Tr} {pa : Option Addr} (h : LookR w rs xs pa) (hl : rs.length ≤ maxLen) (ho : ∀ r, r ∈ rs → r.l.length ≤ maxLen ∧ ∀ a, a ∈ r.l → ToOk a) : RowRT w pa xs := by
 refine ⟨by rw [h.len]; exact hl, fun hp => ?_⟩
 obtain ⟨g, h1, h2, h3⟩ := h.row (by rw [← h.len]; exact hp)
 refine ⟨g, 0, h1, h2, fun i x hx => ⟨by rw [Nat.zero_add]; exact h3 i x hx, ?_⟩⟩
 have hi : i < rs.length := by rw [← h.len]; exact (List.getElem?_eq_some_iff.1 hx).1
 have hv : rs[i]? = some (rs[i]'hi) := List.getElem?_eq_getElem _
 obtain ⟨gx, cx, h4, h5⟩ := h.each i _ hv
 rw [hx] at h4
 obtain rfl := Option.some.inj h4
 have hm := ho _ (List.mem_of_getElem? hv)
 exact h5.row hm.1 hm.2
set_option maxHeartbeats 8000000 in
theorem keptR_any (w : World) (rs xs : List Tr) (px : Option Addr) (cx : Nat) (pa : Option Addr) (c : Nat) (hlk : LookR w rs xs px) (h : RowRT w pa rs) (hl : rs.length ≤ 100000) (hls : ∀ r, r ∈ rs → r.l.length ≤ 100000) :
  Calls Tryz.prog 45 #[.slice px rs.length cx, .slice pa rs.length c] w fun e w' => e = .returned (.bool true) ∧ Below w.heap.size w w' := by
 obtain ⟨n, hn⟩ : ∃ n, n = rs.length := ⟨_, rfl⟩
 have q1 : (n : Int) ≤ 100000 := by omega
 have q2 : (0 : Int) ≤ (n : Int) := by omega
 have H := Lib.hid (And.intro hlk (And.intro h (And.intro hls hn)))
 rw [← hn] at hl ⊢
 clear hlk h hls hn hl
 go_enter Tryz.func45, Tryz.ntmps45
 go_wp2_with fail
 go_loopw [5] (fun i W => ∃ k : Nat, k ≤ n ∧ i = .int .i64 k ∧ Below w.heap.size w W) (fun i _ => n - (intOf i).toNat)
 case atStart => exact ⟨0, Nat.zero_le _, rfl, Below.refl _ _⟩
 case round =>
  obtain ⟨k, hk, rfl, hb⟩ := hrel
  have m0 : (0 : Int) ≤ (k : Int) := by omega
  by_cases hlt : k < n
  ·
   as_aux_lemma =>
   have m1 : (k : Int) < (n : Int) := by omega
   have m1n : k < n := hlt
   obtain ⟨g2, off, rfl, hg, hh⟩ := H.out.2.1.2 (by have := H.out.2.2.2; omega)
   obtain ⟨v, hkv⟩ : ∃ v, rs[k]? = some v := ⟨rs[k]'(by have := H.out.2.2.2; omega), List.getElem?_eq_getElem _⟩
   obtain ⟨gx, cx2, hx1, hx2⟩ := H.out.1.each k v hkv
   obtain ⟨g1, rfl, hg1, hrow1⟩ := H.out.1.row (by have := H.out.2.2.2; omega)
   have c1 := (hb.cell (p := ⟨g1, k, none⟩) hg1).trans (hrow1 k _ hx1)
   have c2 := (hb.cell (p := ⟨g2, off + k, none⟩) hg).trans (hh k v hkv).1
   have rX := fun d os => cell_regrown c1 d os
   have rY := fun d os => cell_regrown c2 d os
   have hkp := fun U (hU : Below wr.heap.size wr U) => keptTo_any U v.l gx cx2 v.pa v.c ((hx2.below hb).below hU) (((hh k v hkv).2.below hb (Nat.le_refl _)).below hU (Nat.le_refl _)) (H.out.2.2.1 v (List.mem_of_getElem? hkv))
   have K1 : Hid (∀ U, Below wr.heap.size wr U → Calls Tryz.prog 83 #[.slice (some ⟨gx, 0, none⟩) v.l.length cx2, .slice v.pa v.l.length v.c] U fun e w' => e = .returned (.bool true) ∧ Below U.heap.size U w') := Lib.hid hkp
   have HB := Lib.hid (And.intro hb hlt)
   clear hkp hb hlt hkv hh hg hx1 hx2 hg1 hrow1 hk c1 c2
   go_upto_region 6 with fail
   refine wp_region_quiet_below (by kernel_rfl) (by kernel_rfl) ?_
   iterate 8 (first | go_big_quiet_step (fail) | quiet_step (fail))
   quiet_step ((go_at_call 83; with_reducible exact Calls.regrown_of (K1.out _ (below_regrown _ _ _))))
   iterate 1 (first | go_big_quiet_step (fail) | quiet_step (fail))
   refine wpQuiet_nil ?_
   rintro w5 ⟨p9, hw5⟩
   have HB5 : Hid (Below w.heap.size w w5) := Lib.hid (by rw [hw5]; exact HB.out.1.trans ((below_regrown wr p9.d p9.os).mono HB.out.1.size))
   clear hw5 K1 rX rY
   go_wp2_with fail
   refine ⟨⟨k + 1, HB.out.2, by go_num, HB5.out⟩, ?_⟩
   have := HB.out.2
   simp [intOf]; omega
  ·
   as_aux_lemma =>
   obtain rfl : k = n := by omega
   have m1 : decide ((k : Int) < (k : Int)) = false := by simp
   have m1n : ¬ k < k := by omega
   have HE := Lib.hid hb
   clear hb hlt hk
   go_wp2_with fail
   go_ret
   exact ⟨rfl, HE.out⟩
end Go.Proofs.YtjngghihciimjaaGreat
namespace Go.Proofs.YtjngghihciimjaaGreat
set_option maxRecDepth 100000
open Go.RowKit Go.Sort
def cmpW (x y : BitVec 128) : Int := if x = y then 0 else if hiS x < hiS y ∨ hiS x = hiS y ∧ loN x < loN y then -1 else 1
set_option maxHeartbeats 2000000 in
theorem rcmp_any (w : World) (x y : BitVec 128) : Calls Tryz.prog 42 #[wv x, wv y] w fun e w' => e = .returned (.int .i64 (cmpW x y)) ∧ Below w.heap.size w w' := by
 have heq : ∀ W, (Op.equalIn 10000 48 (.agg #[.int .i64 (hiS x), .int .u64 (loN x)]) (.agg #[.int .i64 (hiS y), .int .u64 (loN y)])).run Tryz.prog W = .ok (decide (x = y)) W := fun W => eq_w W x y
 obtain ⟨z, hz⟩ : ∃ z, z = cmpW x y := ⟨_, rfl⟩
 rw [← hz]
 unfold cmpW at hz
 unfold wv
 obtain ⟨a, ha⟩ : ∃ a, a = hiS x := ⟨_, rfl⟩
 obtain ⟨b, hb⟩ : ∃ b, b = loN x := ⟨_, rfl⟩
 obtain ⟨c, hc⟩ : ∃ c, c = hiS y := ⟨_, rfl⟩
 obtain ⟨d, hd⟩ : ∃ d, d = loN y := ⟨_, rfl⟩
 rw [← ha, ← hb, ← hc, ← hd] at heq
 rw [← ha, ← hb, ← hc, ← hd] at hz
 rw [← ha, ← hb, ← hc, ← hd]
 clear ha hb hc hd
 have hL1 : Lies ((w.alloc (.cells #[.int .i64 a, .int .u64 b] 48)).alloc (.cells #[.int .i64 c, .int .u64 d] 48)) w.heap.size #[.int .i64 a, .int .u64 b] 48 := (Lies.new _ _ _).alloc _
 have hL2 : Lies ((w.alloc (.cells #[.int .i64 a, .int .u64 b] 48)).alloc (.cells #[.int .i64 c, .int .u64 d] 48)) (w.heap.size + 1) #[.int .i64 c, .int .u64 d] 48 := by
  have := Lies.new (w.alloc (.cells #[.int .i64 a, .int .u64 b] 48)) #[.int .i64 c, .int .u64 d] 48
  simpa using this
 have hb0 : Below w.heap.size w ((w.alloc (.cells #[.int .i64 a, .int .u64 b] 48)).alloc (.cells #[.int .i64 c, .int .u64 d] 48)) := ((Below.refl _ _).alloc (Nat.le_refl _) _).alloc (by simp) _
 have H := Lib.hid hb0
 clear hb0
 go_enter Tryz.func42, Tryz.ntmps42
 go_upto_region 1 with fail
 generalize (w.alloc (.cells #[.int .i64 a, .int .u64 b] 48)).alloc (.cells #[.int .i64 c, .int .u64 d] 48) = W1 at hL1 hL2 H ⊢
 have p0 := hL1.cell 0 (v := .int .i64 a) rfl
 have p1 := hL1.cell 1 (v := .int .u64 b) rfl
 have p2 := hL2.cell 0 (v := .int .i64 c) rfl
 have p3 := hL2.cell 1 (v := .int .u64 d) rfl
 clear hL1 hL2
 by_cases hxy : x = y
 ·
  have hd : decide (x = y) = true := decide_eq_true hxy
  rw [hd] at heq
  rw [if_pos hxy] at hz
  have HZ := Lib.hid hz
  clear hz hxy hd
  go_wp2_with fail
  go_ret
  exact ⟨by rw [HZ.out]; rfl, H.out⟩
 ·
  have hd : decide (x = y) = false := decide_eq_false hxy
  rw [hd] at heq
  rw [if_neg hxy] at hz
  clear hxy hd
  by_cases h1 : a < c
  ·
   rw [if_pos (.inl h1)] at hz
   have HZ := Lib.hid hz
   clear hz
   go_wp2_with fail
   go_ret
   exact ⟨by rw [HZ.out]; rfl, H.out⟩
  ·
   by_cases h2 : a = c
   ·
    by_cases h3 : b < d
    ·
     rw [if_pos (.inr ⟨h2, h3⟩)] at hz
     have HZ := Lib.hid hz
     clear hz h1
     subst h2
     have h4 : (b : Int) < (d : Int) := by omega
     go_wp2_with fail
     go_ret
     exact ⟨by rw [HZ.out]; rfl, H.out⟩
    ·
     rw [if_neg (fun h => by rcases h with h | h; exact h1 h; exact h3 h.2)] at hz
     have HZ := Lib.hid hz
     clear hz h1
     subst h2
     have h4 : ¬ (b : Int) < (d : Int) := by omega
     have h5 : d ≤ b := by omega
     go_wp2_with fail
     go_ret
     exact ⟨by rw [HZ.out]; rfl, H.out⟩
   ·
    rw [if_neg (fun h => by rcases h with h | h; exact h1 h; exact h2 h.1)] at hz
    have HZ := Lib.hid hz
    clear hz
    have h5 : c ≤ a := by omega
    go_wp2_with fail
    go_ret
    exact ⟨by rw [HZ.out]; rfl, H.out⟩
end Go.Proofs.YtjngghihciimjaaGreat
