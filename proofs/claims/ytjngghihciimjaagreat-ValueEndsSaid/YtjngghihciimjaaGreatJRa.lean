/-
  The document's own order of names.
-/
import Derived.Test.YtjngghihciimjaaGreatJVsu
import Derived.Test.YtjngghihciimjaaGreatJVtu
import Derived.Test.YtjngghihciimjaaGreatJVj
import Derived.Test.YtjngghihciimjaaGreatJVe
import Derived.Laws.IdiomStrings
namespace Go.Proofs.YtjngghihciimjaaGreat
set_option maxRecDepth 100000
open Go.RowKit Go.Sort Go.Maps
def asT (tl : List To) : List As := tl.map fun t => ⟨t.nm, t.w.toNat⟩
def ctT (tl : List To) : List Ct := tl.map fun t => (t.nm, t.w)
def TogOk (x : BitVec 128) (f : Nm → BitVec 128) (coin : Int) (l : List As) : Prop :=
 fitsW x = true ∧ coin = x.toNat ∧ ∃ tl, IsTot f (ctT tl) ∧ tl.length ≤ 30 ∧ (∀ t, t ∈ tl → fitsW t.w = true) ∧ l = asT tl
theorem ctT_inj : ∀ {a b : List To}, ctT a = ctT b → a = b
  | [], [], _ => rfl
  | [], _ :: _, h => by simp [ctT] at h
  | _ :: _, [], h => by simp [ctT] at h
  | x :: a, y :: b, h => by
    simp only [ctT, List.map_cons, List.cons.injEq, Prod.mk.injEq] at h
    rw [(To.ext_iff' x y).2 h.1, ctT_inj (a := a) (b := b) h.2]
theorem TogOk.eq {x : BitVec 128} {f : Nm → BitVec 128} {c d : Int} {l m : List As} (h : TogOk x f c l) (k : TogOk x f d m) : c = d ∧ l = m := by
 obtain ⟨_, h1, tl, h2, _, _, h3⟩ := h
 obtain ⟨_, k1, tm, k2, _, _, k3⟩ := k
 exact ⟨h1.trans k1.symm, by rw [h3, k3, ctT_inj (h2.eq k2)]⟩
def TogNo (x : BitVec 128) (f : Nm → BitVec 128) : Prop := ∀ c l, ¬ TogOk x f c l
def Mine (B : Nat) (w : World) (pa : Option Addr) (l : List As) (c : Nat) : Prop := Row w pa l ∧ OwnAs w B (.slice pa l.length c) l
theorem Mine.mono {B B' : Nat} {w : World} {pa : Option Addr} {l : List As} {c : Nat} (h : Mine B w pa l c) (hb : B' ≤ B) : Mine B' w pa l c :=
 ⟨h.1, h.2.1, by
  rcases h.2.2 with h1 | ⟨g, cap, cur, h1, h2, h3⟩
  ·
   exact .inl h1
  ·
   exact .inr ⟨g, cap, cur, h1, Nat.le_trans hb h2, h3⟩⟩
theorem Mine.below {B : Nat} {w w' : World} {pa : Option Addr} {l : List As} {c : Nat} (h : Mine B w pa l c) (hb : Below w.heap.size w w') : Mine B w' pa l c := ⟨h.1.below hb (Nat.le_refl _), ownsRow_below h.2 hb⟩
def Tog (B : Nat) (x : BitVec 128) (f : Nm → BitVec 128) (w' : World) (e : Ending) : Prop :=
 (∃ coin l pa c, e = .returned (.agg (vC coin pa l.length c)) ∧ Mine B w' pa l c ∧ TogOk x f coin l) ∨ (Fault e ∧ TogNo x f)
theorem Fault.panic (n : Int) : Fault (.panicked [{ v := .iface 139 (.int .i64 n), recovered := false }]) := ⟨n, rfl⟩
theorem fits_nat {x : BitVec 128} (h : fitsW x = true) : x.toNat < 9223372036854775808 := by unfold fitsW at h; exact of_decide_eq_true h
def z35 : Array Value := (Array.replicate 32 (.int .u8 0)) ++ #[.string ⟨#[]⟩, .int .i64 0, .int .u64 0]
attribute [-go_sem] Instr.build Instr.buildSlice
structure OnTog (w W : World) (B b5 : Nat) (coin : Int) (tl : List To) (k : Nat) (pt : Option Addr) : Prop where
 below : Below w.heap.size w W
 res : Lies W w.heap.size #[.int .i64 0, .slice none 0 0] 24
 tot : RowT W pt tl
 all : ∃ pk ck, Lies W b5 #[.int .i64 coin, .slice pk k ck] 24 ∧ OwnAs W B (.slice pk k ck) (asT (tl.take k))
 size : B ≤ W.heap.size
 far : b5 < B
 first : w.heap.size < b5
 blk : ∀ g off, pt = some ⟨g, off, none⟩ → 0 < tl.length → g < b5
set_option maxHeartbeats 4000000 in
theorem together_any (w : World) (pa : Option Addr) (vs : List Va) (c : Nat) (h : RowV w pa vs) (hc : (ctsL vs).length ≤ 1000000) (hnm : ∀ p, p ∈ ctsL vs → p.1.1.length = 32 ∧ p.1.2.length ≤ 281474976710656) :
    Calls Tryz.prog 52 #[.slice pa vs.length c] w fun e w' => Tog w.heap.size (coinS vs) (sumAt (ctsL vs)) w' e ∧ Below w.heap.size w w' := by
  obtain ⟨s, hs⟩ : ∃ s, s = coinS vs := ⟨_, rfl⟩
  obtain ⟨f, hf⟩ : ∃ f, f = sumAt (ctsL vs) := ⟨_, rfl⟩
  have hsums : ∀ W, Below w.heap.size w W → Calls Tryz.prog 26 #[.slice pa vs.length c] W fun e w' => (∃ p lt c', e = .returned (.tuple #[wv s, .slice p lt.length c']) ∧ RowT w' p lt ∧ IsTot f (ctT lt)) ∧ Below W.heap.size W w' := fun W hW =>
    (sums_any totals_any W pa vs c (h.below hW (Nat.le_refl _)) hc hnm).mono fun e w' hh => by
      obtain ⟨⟨p, l, c', h1, h2, h3⟩, h4⟩ := hh
      rw [← hs] at h1
      rw [← hf] at h3
      exact ⟨⟨p, l, c', h1, h2, h3⟩, h4⟩
  rw [← hs, ← hf]
  have H := Lib.hid hsums
  clear hsums h hc hnm hs hf
  go_enter Tryz.func52, Tryz.ntmps52
  go_wp2_with fail
  have hb1 : Below w.heap.size w (w.alloc (.cells #[.int .i64 0, .slice none 0 0] 24)) := (Below.refl _ _).alloc (Nat.le_refl _) _
  have hL1 : Lies (w.alloc (.cells #[.int .i64 0, .slice none 0 0] 24)) w.heap.size #[.int .i64 0, .slice none 0 0] 24 := Lies.new _ _ _
  refine (H.out _ hb1).mono ?_
  rintro e w2 ⟨⟨pt, lt, ct, rfl, hrow, htot⟩, hb2⟩
  have hbw2 := hb1.trans (hb2.mono hb1.size)
  have hL2 := hL1.below hb2 hL1.lt
  have hlt2 := hL2.lt
  generalize w.alloc (.cells #[.int .i64 0, .slice none 0 0] 24) = W1 at hb1 hL1 hb2 ⊢
  have H2 := Lib.hid (And.intro hbw2 (And.intro hL2 (And.intro hrow (And.intro htot hlt2))))
  clear hb1 hL1 hb2 hbw2 hL2 hrow htot hlt2
  clear W1
  unfold wv
  have hli : (lt.length : Int) ≤ 9223372036854775807 := by have := H2.out.2.2.1.1; unfold maxLen at this; omega
  go_upto_region 2 with fail
  have hb3 : Below w2.heap.size w2 (w2.alloc (.cells #[.int .i64 (hiS s), .int .u64 (loN s)] 48)) := (Below.refl _ _).alloc (Nat.le_refl _) _
  have hL3 : Lies (w2.alloc (.cells #[.int .i64 (hiS s), .int .u64 (loN s)] 48)) w2.heap.size #[.int .i64 (hiS s), .int .u64 (loN s)] 48 := Lies.new _ _ _
  generalize w2.alloc (.cells #[.int .i64 (hiS s), .int .u64 (loN s)] 48) = W3 at hb3 hL3 ⊢
  have c0 := hL3.cell 0 (v := .int .i64 (hiS s)) rfl
  have c1 := hL3.cell 1 (v := .int .u64 (loN s)) rfl
  have H3 := Lib.hid hb3
  clear hb3 hL3
  by_cases hlen : lt.length ≤ 30
  · have m1 : (lt.length : Int) ≤ 30 := by omega
    cases hx : fitsW s with
    | false =>
      have hcall : ∀ W, Calls Tryz.prog 86 #[.agg #[.int .i64 (hiS s), .int .u64 (loN s)]] W fun e w' => Fault e ∧ Below W.heap.size W w' := fun W =>
        (amounts_any W s).mono fun e w' hh => by
          rcases hh with ⟨⟨h1, _⟩ | ⟨_, h1⟩, h2⟩
          · rw [hx] at h1; cases h1
          · exact ⟨h1, h2⟩
      have HC := Lib.hid (And.intro hcall hx)
      clear hcall hx
      go_wp2_with fail
      refine (HC.out.1 _).mono ?_
      rintro e w4 ⟨⟨n, rfl⟩, hb4⟩
      exact ⟨rfl, .inr ⟨Fault.panic n, fun c l hk => by have := hk.1; rw [HC.out.2] at this; cases this⟩, H2.out.1.trans ((H3.out.trans (hb4.mono H3.out.size)).mono H2.out.1.size)⟩
    | true =>
      have hcall : ∀ W, Calls Tryz.prog 86 #[.agg #[.int .i64 (hiS s), .int .u64 (loN s)]] W fun e w' => e = .returned (.int .i64 s.toNat) ∧ Below W.heap.size W w' := fun W => amount_any W s hx
      have hbl : ∀ W, (Instr.build 24 #[(0, .int .i64 s.toNat)]).run Tryz.prog W = .ok (.agg #[.int .i64 s.toNat, .slice none 0 0]) W := fun W => run_build W 24 _ _ (by kernel_rfl)
      have HC := Lib.hid (And.intro hcall hx)
      clear hcall hx
      go_wp2_with fail
      refine (HC.out.1 _).mono ?_
      rintro e w4 ⟨rfl, hb4⟩
      have hb34 := H3.out.trans (hb4.mono H3.out.size)
      have HB4 := Lib.hid hb34
      clear hb34 hb4 c0 c1
      go_upto_region 6 with fail
      clear hbl
      obtain ⟨b5, hb5⟩ : ∃ b, b = w4.heap.size := ⟨_, rfl⟩
      have hL5 : Lies (w4.alloc (.cells #[.int .i64 s.toNat, .slice none 0 0] 24)) b5 #[.int .i64 s.toNat, .slice none 0 0] 24 := by rw [hb5]; exact Lies.new _ _ _
      have hb25 : Below w2.heap.size w2 (w4.alloc (.cells #[.int .i64 s.toNat, .slice none 0 0] 24)) := by
        have h1 : Below w2.heap.size w2 w4 := HB4.out
        exact h1.alloc h1.size _
      have hsz5 : (w4.alloc (.cells #[.int .i64 s.toNat, .slice none 0 0] 24)).heap.size = b5 + 1 := by rw [hb5]; simp
      have hfar : w.heap.size < b5 := by rw [hb5]; exact Nat.lt_of_lt_of_le H2.out.2.2.2.2 HB4.out.size
      rw [← hb5]
      generalize w4.alloc (.cells #[.int .i64 s.toNat, .slice none 0 0] 24) = W5 at hL5 hb25 hsz5 ⊢
      have hon5 : OnTog w W5 (b5 + 1) b5 s.toNat lt 0 pt := ⟨H2.out.1.trans (hb25.mono H2.out.1.size), H2.out.2.1.below hb25 H2.out.2.2.2.2, H2.out.2.2.1.below hb25 (Nat.le_refl _), ⟨none, 0, hL5, World.ownsRow_nil _ _ _ _⟩, by omega, by omega, hfar, fun g off e h0 => by
        obtain ⟨g', off', e', hlt, _⟩ := H2.out.2.2.1.2.2 h0
        rw [e] at e'
        cases e'
        rw [hb5]
        exact Nat.lt_of_lt_of_le hlt HB4.out.size⟩
      have H5 := Lib.hid hon5
      clear hL5 hb25 hsz5 hon5 hb5 hfar
      go_loopw [22] (fun i W => ∃ k : Nat, k ≤ lt.length ∧ i = .int .i64 k ∧ OnTog w W (b5 + 1) b5 s.toNat lt k pt ∧ ∀ t, t ∈ lt.take k → fitsW t.w = true) (fun i _ => lt.length - (intOf i).toNat)
      case atStart => exact ⟨0, Nat.zero_le _, rfl, H5.out, fun t ht => by simp at ht⟩
      case round =>
        obtain ⟨k, hk, rfl, hon, hall⟩ := hrel
        by_cases hlt : k < lt.length
        · have n1 : (k : Int) < (lt.length : Int) := by omega
          have n0 : (0 : Int) ≤ (k : Int) := by omega
          obtain ⟨g, off, rfl, hg, hh⟩ := hon.tot.2.2 (by omega)
          obtain ⟨t, ht⟩ : ∃ t, t = lt[k] := ⟨_, rfl⟩
          have hkt : lt[k]? = some t := by rw [ht, List.getElem?_eq_getElem hlt]
          have okt := hon.tot.2.1 t (List.mem_of_getElem? hkt)
          have hrg := hh k t hkt
          obtain ⟨ov, hov⟩ : ∃ v, v = toC t := ⟨_, rfl⟩
          have hos : ov.size = 35 := by rw [hov]; exact toC_size t okt.1
          have ho1 : ov.all (·.oneCell') = true := by rw [hov]; exact toC_one t
          rw [← hov] at hrg
          have HI := Lib.hid (And.intro (show (Tryz.prog.info? 75).map (·.size) = some ov.size by rw [hos]; exact info_total) (And.intro hos (And.intro ho1 hov)))
          have HJ := Lib.hid (And.intro hon (And.intro hlt (And.intro hkt (And.intro okt hall))))
          have HRG := Lib.hid hrg
          clear hon hlt hk ht hkt okt hrg hos ho1 hov hg hh hall H5
          go_upto_region 8 with (first
            | (refine wpList_load_mid rfl 75 _ rfl g (off + k * 35) rfl ov.toList _ HRG.out Tryz.underlying75 rfl (by rw [Array.length_toList]; exact HI.out.1) ?_)
            | (refine wpList_store_row rfl 75 _ _ rfl wr.heap.size ov rfl rfl 75 z35 (Lies.new wr z35 75) HI.out.1 (by rw [HI.out.2.1]; kernel_rfl) HI.out.2.2.1 ?_))
          rw [World.setRow_alloc_new]
          obtain ⟨b7, hb7⟩ : ∃ b, b = wr.heap.size := ⟨_, rfl⟩
          have hL7 : Lies (wr.alloc (.cells ov 75)) b7 ov 75 := by rw [hb7]; exact Lies.new _ _ _
          have hba : Below wr.heap.size wr (wr.alloc (.cells ov 75)) := (Below.refl _ _).alloc (Nat.le_refl _) _
          rw [← hb7]
          have hb7s : b5 + 1 ≤ b7 := by rw [hb7]; exact HJ.out.1.size
          generalize wr.alloc (.cells ov 75) = W7 at hL7 hba ⊢
          obtain ⟨pk, ck, hLk, howk⟩ := HJ.out.1.all
          have hLk7 := hLk.below hba hLk.lt
          have HS : Hid (∀ U, Below W7.heap.size W7 U → Lies U b5 #[.int .i64 s.toNat, .slice pk k ck] 24 ∧ Lies U b7 ov 75) := Lib.hid fun U hU => ⟨hLk7.below hU hLk7.lt, hL7.below hU hL7.lt⟩
          have how7 := ownsRow_below howk hba
          have H7 := Lib.hid (And.intro hba (And.intro how7 hb7s))
          clear hL7 hba hLk howk hLk7 how7 hb7 hb7s
          obtain ⟨pv, hpv⟩ : ∃ v, v = B8 t.nm.1 := ⟨_, rfl⟩
          obtain ⟨tv, htv⟩ : ∃ v, v = txt t.nm.2 := ⟨_, rfl⟩
          obtain ⟨av, hav⟩ : ∃ v, v = asC ⟨t.nm, t.w.toNat⟩ := ⟨_, rfl⟩
          have hbuilt : ∀ W, (Instr.build 38 #[(0, .agg pv), (1, .string tv), (2, .int .i64 t.w.toNat)]).run Tryz.prog W = .ok (.agg av) W := fun W => by
            rw [hpv, htv, hav]
            exact run_build W 38 _ _ (built_asset ⟨t.nm, t.w.toNat⟩ HJ.out.2.2.2.1.1)
          have hread : ∀ U, Lies U b7 ov 75 → U.rangeAt b7 0 pv.toList ∧ U.cell? ⟨b7, 32, none⟩ = some (.string tv) ∧ U.rangeAt b7 33 (#[Value.int .i64 (hiS t.w), .int .u64 (loN t.w)] : Array Value).toList := fun U hU => by
            rw [HI.out.2.2.2] at hU
            rw [hpv, htv]
            refine ⟨pol_range fun j hj => ?_, hU.cell 32 (toC_txt t HJ.out.2.2.2.1.1), fun j v hv => ?_⟩
            · rw [Nat.zero_add]
              exact hU.cell j (toC_get t HJ.out.2.2.2.1.1 j (by rw [← HJ.out.2.2.2.1.1]; exact hj))
            · have hj : j = 0 ∨ j = 1 := by have := (List.getElem?_eq_some_iff.1 hv).1; simp at this; omega
              rcases hj with rfl | rfl
              · simp at hv; subst hv; exact hU.cell 33 (toC_hi t HJ.out.2.2.2.1.1)
              · simp at hv; subst hv; exact hU.cell 34 (toC_lo t HJ.out.2.2.2.1.1)
          have hps : (Tryz.prog.info? 26).map (·.size) = some pv.size := by rw [hpv, B8_size, HJ.out.2.2.2.1.1]; exact info_hash
          have has : av.size = 34 := by rw [hav]; exact asC_size _ HJ.out.2.2.2.1.1
          have hsl : ∀ W : World, (Instr.buildSlice 22 1 #[(0, .agg av)]).run Tryz.prog W = .ok (.slice (some ⟨W.heap.size, 0, none⟩) 1 1) (W.alloc (.cells av 38)) := fun W => run_slice1 W 22 38 34 56 av Tryz.underlying22 info54 (by decide) (by decide) has
          have HQ := Lib.hid (And.intro hbuilt (And.intro hread (And.intro hps (And.intro has (And.intro hsl hav)))))
          clear hbuilt hread hps has hsl hav hpv htv
          refine wp_region_orPanic (fun c U => (∃ n, c = [{ v := .iface 139 (.int .i64 n), recovered := false }]) ∧ TogNo s f ∧ Below w.heap.size w U) (fun c a U h1 h2 => ⟨h1, .inr ⟨by obtain ⟨n, rfl⟩ := h2.1; exact Fault.panic n, h2.2.1⟩, h2.2.2⟩) ?_
          refine wp_region_late (fun j => j == 13) (fun U => Lies U b5 #[.int .i64 s.toNat, .slice pk k ck] 24 ∧ Lies U b7 ov 75) (by kernel_rfl) ?_
          change wpLate _ _ _ _ _ _ 14 _ _ (World.drew W7)
          have hbd : Below W7.heap.size W7 W7.drew := (Below.refl _ _).drew
          generalize World.drew W7 = wd at hbd ⊢
          have hcur := HS.out _ hbd
          refine late_take (i := 0) (v := (.pointer (some ⟨b5, 1, none⟩))) rfl 26 rfl (by kernel_rfl) (by kernel_rfl) (by kernel_rfl) (by kernel_rfl) (fun _ _ _ h => h) (by rfl) (by intro w' hS'; unfold execOp; simp [go_sem]) hcur _ rfl ?_
          simp only [Act.put, List.setIfInBounds_toArray, List.set_cons_zero, List.set_cons_succ]
          refine late_take (i := 1) (v := (.slice pk k ck)) rfl 27 rfl (by kernel_rfl) (by kernel_rfl) (by kernel_rfl) (by kernel_rfl) (fun _ _ _ h => h) (by rfl) (by intro w' hS'; have hq := hS'.1.cell 1 (v := .slice pk k ck) rfl; unfold execOp; simp [go_sem, hq]) hcur _ rfl ?_
          simp only [Act.put, List.setIfInBounds_toArray, List.set_cons_zero, List.set_cons_succ]
          refine late_take (i := 2) (v := (.pointer (some ⟨b7, 0, none⟩))) rfl 28 rfl (by kernel_rfl) (by kernel_rfl) (by kernel_rfl) (by kernel_rfl) (fun _ _ _ h => h) (by rfl) (by intro w' hS'; unfold execOp; simp [go_sem]) hcur _ rfl ?_
          simp only [Act.put, List.setIfInBounds_toArray, List.set_cons_zero, List.set_cons_succ]
          refine late_take (i := 3) (v := (.agg pv)) rfl 29 rfl (by kernel_rfl) (by kernel_rfl) (by kernel_rfl) (by kernel_rfl) (fun _ _ _ h => h) (by rfl) (by intro w' hS'; exact exec_loadM 26 _ rfl _ _ rfl pv (HQ.out.2.1 _ hS'.2).1 Tryz.underlying26 rfl HQ.out.2.2.1) hcur _ rfl ?_
          simp only [Act.put, List.setIfInBounds_toArray, List.set_cons_zero, List.set_cons_succ]
          refine late_take (i := 4) (v := (.pointer (some ⟨b7, 32, none⟩))) rfl 30 rfl (by kernel_rfl) (by kernel_rfl) (by kernel_rfl) (by kernel_rfl) (fun _ _ _ h => h) (by rfl) (by intro w' hS'; unfold execOp; simp [go_sem]) hcur _ rfl ?_
          simp only [Act.put, List.setIfInBounds_toArray, List.set_cons_zero, List.set_cons_succ]
          refine late_take (i := 5) (v := (.string tv)) rfl 31 rfl (by kernel_rfl) (by kernel_rfl) (by kernel_rfl) (by kernel_rfl) (fun _ _ _ h => h) (by rfl) (by intro w' hS'; have hq := (HQ.out.2.1 _ hS'.2).2.1; unfold execOp; simp [go_sem, hq]) hcur _ rfl ?_
          simp only [Act.put, List.setIfInBounds_toArray, List.set_cons_zero, List.set_cons_succ]
          refine late_take (i := 6) (v := (.pointer (some ⟨b7, 33, none⟩))) rfl 32 rfl (by kernel_rfl) (by kernel_rfl) (by kernel_rfl) (by kernel_rfl) (fun _ _ _ h => h) (by rfl) (by intro w' hS'; unfold execOp; simp [go_sem]) hcur _ rfl ?_
          simp only [Act.put, List.setIfInBounds_toArray, List.set_cons_zero, List.set_cons_succ]
          refine late_take (i := 7) (v := (.agg #[.int .i64 (hiS t.w), .int .u64 (loN t.w)])) rfl 33 rfl (by kernel_rfl) (by kernel_rfl) (by kernel_rfl) (by kernel_rfl) (fun _ _ _ h => h) (by rfl) (by intro w' hS'; exact exec_loadM 48 _ rfl _ _ rfl #[.int .i64 (hiS t.w), .int .u64 (loN t.w)] (HQ.out.2.1 _ hS'.2).2.2 Tryz.underlying48 rfl info_wide) hcur _ rfl ?_
          simp only [Act.put, List.setIfInBounds_toArray, List.set_cons_zero, List.set_cons_succ]
          have hamt : Calls Tryz.prog 86 #[.agg #[.int .i64 (hiS t.w), .int .u64 (loN t.w)]] wd fun e w' => (∃ v, e = .returned v ∧ (fitsW t.w = true ∧ v = .int .i64 t.w.toNat ∧ Below wd.heap.size wd w')) ∨ (∃ c, e = .panicked c ∧ (fitsW t.w = false ∧ (∃ n, c = [{ v := .iface 139 (.int .i64 n), recovered := false }]) ∧ Below wd.heap.size wd w')) :=
            (amounts_any wd t.w).mono fun e w' hh => by
              rcases hh with ⟨⟨h1, h2⟩ | ⟨h1, n, h2⟩, h3⟩
              · exact .inl ⟨_, h2, h1, rfl, h3⟩
              · exact .inr ⟨_, h2, h1, ⟨n, rfl⟩, h3⟩
          refine late_one (i := 8) (by kernel_rfl) _ rfl (wpOp_callP rfl (by rfl) 34 rfl 86 #[.agg #[.int .i64 (hiS t.w), .int .u64 (loN t.w)]] (by unfold execOp; simp [go_sem]) _ _ hamt ?_ ?_)
          rotate_left
          · rintro c8 w8 ⟨hx, ⟨n, rfl⟩, hb8⟩
            have hb := HJ.out.1.below.trans ((H7.out.1.trans ((hbd.trans (hb8.mono hbd.size)).mono H7.out.1.size)).mono HJ.out.1.below.size)
            refine ⟨rfl, ⟨n, rfl⟩, fun c l hk => ?_, hb⟩
            obtain ⟨_, _, tl, h1, _, h3, _⟩ := hk
            have h4 := h3 t (by rw [ctT_inj (h1.eq H2.out.2.2.2.1)]; exact List.mem_of_getElem? HJ.out.2.2.1)
            rw [hx] at h4
            cases h4
          rintro v8 w8 ⟨hx, rfl, hb8⟩
          have hc8 := hbd.trans (hb8.mono hbd.size)
          have hcur := HS.out _ hc8
          refine ⟨fun _ => hcur, ?_⟩
          simp only [Act.put, List.setIfInBounds_toArray, List.set_cons_zero, List.set_cons_succ]
          have hbq := HQ.out.1 w8
          refine late_one (i := 9) (by kernel_rfl) _ rfl (wpOp_valG (v := .agg av) (w' := w8) rfl (by rfl) 35 rfl (by unfold execOp; simp [go_sem, hbq]) ?_)
          refine ⟨fun _ => hcur, ?_⟩
          simp only [Act.put, List.setIfInBounds_toArray, List.set_cons_zero, List.set_cons_succ]
          have hsq := HQ.out.2.2.2.2.1 w8
          refine late_one (i := 10) (by kernel_rfl) _ rfl (wpOp_valG (v := .slice (some ⟨w8.heap.size, 0, none⟩) 1 1) (w' := w8.alloc (.cells av 38)) rfl (by rfl) 36 rfl (by unfold execOp; simp [go_sem, hsq]) ?_)
          have hb10 : Below w8.heap.size w8 (w8.alloc (.cells av 38)) := (Below.refl _ _).alloc (Nat.le_refl _) _
          have hL10 : Lies (w8.alloc (.cells av 38)) w8.heap.size av 38 := Lies.new _ _ _
          clear hbq hsq
          obtain ⟨g10, hg10⟩ : ∃ g, g = w8.heap.size := ⟨_, rfl⟩
          generalize w8.alloc (.cells av 38) = w10 at hb10 hL10 ⊢
          rw [← hg10] at hL10 hb10 ⊢
          have hc10 : Below W7.heap.size W7 w10 := hc8.trans (hb10.mono (by rw [hg10]; exact hc8.size))
          have hcur := HS.out _ hc10
          refine ⟨fun _ => hcur, ?_⟩
          simp only [Act.put, List.setIfInBounds_toArray, List.set_cons_zero, List.set_cons_succ]
          have how10 : OwnAs w10 (b5 + 1) (.slice pk k ck) (asT (lt.take k)) := ownsRow_below H7.out.2.1 hc10
          have hlk : (asT (lt.take k)).length = k := by unfold asT; rw [List.length_map, List.length_take]; have := HJ.out.2.1; omega
          have hown10 : w10.ownsRow (b5 + 1) 38 34 (.slice pk k ck) k (cellsF asC (asT (lt.take k))) := by
            have h1 := how10
            unfold OwnAs at h1
            rw [hlk] at h1
            exact h1
          have hk30 : k + 1 ≤ 1000000 := by have := HJ.out.2.1; omega
          refine late_one (i := 11) (by kernel_rfl) _ rfl (wpOp_append rfl rfl 37 rfl _ _ 22 rfl (b5 + 1) 38 34 56 Tryz.underlying22 info54 (by decide) (.slice pk k ck) k (cellsF asC (asT (lt.take k))) rfl hown10 ⟨g10, 0, none⟩ 1 1 (cellsF asC [⟨t.nm, t.w.toNat⟩]) rfl (cellsF_len asC 34 [⟨t.nm, t.w.toNat⟩] (fun a ha => by rw [List.mem_singleton] at ha; subst ha; exact asC_size _ HJ.out.2.2.2.1.1)) (src_one asC (by rw [← HQ.out.2.2.2.2.2]; exact hL10)) (cellsF_one asC _ fun a _ => asC_one a) (by decide) (Nat.le_trans hk30 (by decide)) (by omega) (by have := H7.out.2.2; have := hcur.2.lt; omega) ?_)
          intro g11 cap11 w11 hown11 hgr11 hat11 hlt11
          have hS11 : Lies w11 b5 #[.int .i64 s.toNat, .slice pk k ck] 24 ∧ Lies w11 b7 ov 75 := ⟨lies_grown hgr11 hcur.1 (ownsRow_far how10 hcur.1 (by decide)), lies_grown hgr11 hcur.2 (ownsRow_far how10 hcur.2 (by decide))⟩
          refine ⟨fun _ => hS11, ?_⟩
          simp only [Act.put, List.setIfInBounds_toArray, List.set_cons_zero, List.set_cons_succ]
          refine late_one (i := 12) (by kernel_rfl) _ rfl (wpOp_valG (v := .pointer (some ⟨b5, 1, none⟩)) (w' := w11) rfl (by rfl) 38 rfl (by unfold execOp; simp [go_sem]) ?_)
          refine ⟨fun _ => hS11, ?_⟩
          simp only [Act.put, List.setIfInBounds_toArray, List.set_cons_zero, List.set_cons_succ]
          have hq11 := hS11.1.cell 1 (v := .slice pk k ck) rfl
          have hf11 := hS11.1.free 1
          refine late_one (i := 13) (by kernel_rfl) _ rfl (wpOp_skipG (w' := w11.setCell ⟨b5, 1, none⟩ (.slice (some ⟨g11, 0, none⟩) (k + 1) cap11)) rfl (by rfl) rfl (by unfold execOp; simp [go_sem, hq11, hf11]) ?_)
          refine ⟨fun h => absurd h (by decide), ?_⟩
          have hblk : ∀ j, (Value.slice pk k ck).ownBlock = some j → b5 + 1 ≤ j := fun j hj => (how10.lt j hj).1
          have hb710 : Below wr.heap.size wr w10 := H7.out.1.trans (hc10.mono H7.out.1.size)
          have hg13 := grown_setCell w11 ⟨b5, 1, none⟩ (.slice (some ⟨g11, 0, none⟩) (k + 1) cap11)
          have hsz : b5 + 1 ≤ w10.heap.size := by have := H7.out.2.2; have := hcur.2.lt; omega
          have hon13 : OnTog w (w11.setCell ⟨b5, 1, none⟩ (.slice (some ⟨g11, 0, none⟩) (k + 1) cap11)) (b5 + 1) b5 s.toNat lt (k + 1) (some ⟨g, off, none⟩) := by
            have hB := HJ.out.1
            have h10 : Below w.heap.size w w10 := hB.below.trans (hb710.mono hB.below.size)
            have hr10 : Lies w10 w.heap.size #[.int .i64 0, .slice none 0 0] 24 := hB.res.below hb710 hB.res.lt
            have ht10 : RowT w10 (some ⟨g, off, none⟩) lt := hB.tot.below hb710 (Nat.le_refl _)
            have hf := hB.first
            refine ⟨below_setCell (h10.grown hgr11 h10.size (fun j hj => by have := hblk j hj; omega)) _ _ (by show w.heap.size ≤ b5; omega), (lies_grown hgr11 hr10 (ownsRow_far how10 hr10 (by decide))).other _ _ (by show w.heap.size ≠ b5; omega), (ht10.but hgr11 (fun g' off' e h0 e2 => ?_)).but hg13 (fun g' off' e h0 e2 => ?_), ⟨some ⟨g11, 0, none⟩, cap11, hS11.1.set 1 _, ?_⟩, Nat.le_trans hsz (Nat.le_trans hgr11.size hg13.size), hB.far, hf, hB.blk⟩
            · have h1 := hblk g' e2.symm
              have h2 := hB.blk g' off' e h0
              omega
            · have h1 : g' = b5 := Option.some.inj e2
              have h2 := hB.blk g' off' e h0
              omega
            · have htk : asT (lt.take (k + 1)) = asT (lt.take k) ++ [⟨t.nm, t.w.toNat⟩] := by
                rw [List.take_add_one, HJ.out.2.2.1]
                simp [asT]
              have h1 : OwnAs w11 (b5 + 1) (.slice (some ⟨g11, 0, none⟩) (k + 1) cap11) (asT (lt.take (k + 1))) := by
                unfold OwnAs
                rw [htk, cellsF_app, List.length_append, hlk]
                exact hown11
              refine World.ownsRow.kept h1 hg13 (.inr fun e2 => ?_)
              have h3 : g11 = b5 := Option.some.inj e2
              have h4 := (h1.lt g11 rfl).1
              omega
          have hall13 : ∀ u, u ∈ lt.take (k + 1) → fitsW u.w = true := fun u hu => by
            rw [List.take_add_one, HJ.out.2.2.1] at hu
            rcases List.mem_append.1 hu with hu | hu
            · exact HJ.out.2.2.2.2 u hu
            · have : u = t := by simpa using hu
              rw [this]; exact hx
          generalize w11.setCell ⟨b5, 1, none⟩ (.slice (some ⟨g11, 0, none⟩) (k + 1) cap11) = w13 at hon13 ⊢
          have HE := Lib.hid (And.intro hon13 (And.intro hall13 HJ.out.2.1))
          clear hon13 hall13 hsz hg13 hb710 hblk hq11 hf11 hS11 hown11 hgr11 hat11 hlt11 hown10 how10 hlk hk30 hcur hc10 hb10 hL10 hc8 hb8 hx hbd hamt
          refine late_done (by kernel_rfl) ?_ _
          unfold OrPanic
          dsimp only
          go_wp2_with fail
          have e1 : (k : Int) + 1 = ((k + 1 : Nat) : Int) := by omega
          rw [e1]
          refine ⟨⟨k + 1, HE.out.2.2, rfl, HE.out.1, HE.out.2.1⟩, ?_⟩
          have h := HE.out.2.2
          show lt.length - (k + 1) < lt.length - k
          omega
        · have n1 : ¬ (k : Int) < (lt.length : Int) := by omega
          have hkl : k = lt.length := by omega
          subst hkl
          rw [List.take_length] at hall
          obtain ⟨pk, ck, hLk, howk⟩ := hon.all
          rw [List.take_length] at howk
          have c0 := hLk.cell 0 (v := .int .i64 s.toNat) rfl
          have c1 := hLk.cell 1 (v := .slice pk lt.length ck) rfl
          have q0 := hon.res.cell 0 (v := .int .i64 0) rfl
          have q1 := hon.res.cell 1 (v := .slice none 0 0) rfl
          have f0 := hon.res.free 0
          have f1 := hon.res.free 1
          have hok : ∀ a, a ∈ asT lt → AsOk a := fun a ha => by
            obtain ⟨t, ht, rfl⟩ := List.mem_map.1 ha
            have h1 := hon.tot.2.1 t ht
            have h2 := fits_nat (hall t ht)
            refine ⟨h1.1, h1.2, ?_, ?_⟩
            · show (-9223372036854775808 : Int) ≤ (t.w.toNat : Int)
              omega
            · show (t.w.toNat : Int) < 9223372036854775808
              omega
          have hlt : (asT lt).length = lt.length := by unfold asT; rw [List.length_map]
          have hfirst := hon.first
          have hrow2 : Row ((wr.setCell ⟨w.heap.size, 0, none⟩ (.int .i64 s.toNat)).setCell ⟨w.heap.size, 1, none⟩ (.slice pk lt.length ck)) pk (asT lt) := ⟨by rw [hlt]; exact hon.tot.1, hok, fun h0 => by
            have h1 := howk
            unfold OwnAs at h1
            rcases own_at asC 34 (fun a ha => asC_size a (hok a ha).1) h1 with ⟨_, h2⟩ | ⟨g, cap, h1, h2, h3, h4, h5, h6⟩
            · rw [h2] at h0; simp at h0
            · simp only [Value.slice.injEq] at h1
              refine ⟨g, 0, h1.1, by rw [size_set, size_set]; exact h3, fun i a hi j v hv => ?_⟩
              exact (World.cell?_of_block ((heap_setCell_other _ _ g _ (by show g ≠ w.heap.size; omega)).trans (heap_setCell_other _ _ g _ (by show g ≠ w.heap.size; omega)))).trans (h5 i a hi j v hv)⟩
          have hbR : Below w.heap.size w ((wr.setCell ⟨w.heap.size, 0, none⟩ (.int .i64 s.toNat)).setCell ⟨w.heap.size, 1, none⟩ (.slice pk lt.length ck)) := below_setCell (below_setCell hon.below _ _ (by simp)) _ _ (by simp)
          have hLR : Lies ((wr.setCell ⟨w.heap.size, 0, none⟩ (.int .i64 s.toNat)).setCell ⟨w.heap.size, 1, none⟩ (.slice pk lt.length ck)) w.heap.size #[.int .i64 s.toNat, .slice pk lt.length ck] 24 := (hon.res.set 0 _).set 1 _
          have hok2 : TogOk s f s.toNat (asT lt) := ⟨HC.out.2, rfl, lt, H2.out.2.2.2.1, hlen, hall, rfl⟩
          have hmine : Mine w.heap.size ((wr.setCell ⟨w.heap.size, 0, none⟩ (.int .i64 s.toNat)).setCell ⟨w.heap.size, 1, none⟩ (.slice pk lt.length ck)) pk (asT lt) ck := by
            refine Mine.mono (B := b5 + 1) ⟨hrow2, ?_⟩ (by omega)
            rw [hlt]
            have hne : (Value.slice pk lt.length ck).ownBlock ≠ some w.heap.size := fun e => by have := (howk.lt _ e).1; omega
            exact (howk.kept (grown_setCell wr _ _) (.inr hne)).kept (grown_setCell _ _ _) (.inr hne)
          have HE := Lib.hid (And.intro hmine (And.intro hbR (And.intro hLR (And.intro hok2 hlt))))
          clear hmine hrow2 hbR hLR hok2 hlt hok hfirst hLk howk hon hall hk H5
          go_wp2_with fail
          refine bodyPost_ret (v := .agg #[.int .i64 s.toNat, .slice pk lt.length ck]) (results_cell_row (p := 2) (ty := 24) (by kernel_rfl) _ _ w.heap.size 24 #[.int .i64 s.toNat, .slice pk lt.length ck] (0, 0) _ rfl HE.out.2.2.1 Tryz.underlying24 rfl info_value) rfl ⟨.inl ⟨s.toNat, asT lt, pk, ck, by rw [HE.out.2.2.2.2]; rfl, HE.out.1, HE.out.2.2.2.1⟩, HE.out.2.1⟩
  · have m1 : ¬ (lt.length : Int) ≤ 30 := by omega
    go_wp2_with fail
    exact ⟨rfl, .inr ⟨Fault.panic _, fun c l hk => by
      obtain ⟨_, _, tl, h1, h2, _, _⟩ := hk
      rw [ctT_inj (h1.eq H2.out.2.2.2.1)] at h2
      exact hlen h2⟩, H2.out.1.trans (H3.out.mono H2.out.1.size)⟩
end Go.Proofs.YtjngghihciimjaaGreat
namespace Go.Proofs.YtjngghihciimjaaGreat
set_option maxRecDepth 100000
def Rise (l : List To) : Prop := l.Pairwise fun a b => cN a.nm b.nm < 0
def putL (x : To) : List To → List To
 | [] => [x]
 | y :: l => if cN x.nm y.nm < 0 then x :: y :: l else if cN x.nm y.nm = 0 then ⟨y.nm, y.w + x.w⟩ :: l else y :: putL x l
theorem putL_cons (x y : To) (l : List To) : putL x (y :: l) = if cN x.nm y.nm < 0 then x :: y :: l else if cN x.nm y.nm = 0 then ⟨y.nm, y.w + x.w⟩ :: l else y :: putL x l := rfl
theorem putL_lt {x : To} : ∀ {l : List To} (r : List To), (∀ y, y ∈ l → 0 < cN x.nm y.nm) → putL x (l ++ r) = l ++ putL x r
  | [], _, _ => rfl
  | y :: l, r, h => by
    have h0 := h y (by simp)
    show putL x (y :: (l ++ r)) = _
    rw [putL_cons, if_neg (by omega), if_neg (by omega), putL_lt r fun z hz => h z (by simp [hz])]
    rfl
theorem putL_done {x : To} : ∀ {l : List To} (r : List To), (∃ y, y ∈ l ∧ cN x.nm y.nm ≤ 0) → putL x (l ++ r) = putL x l ++ r
  | [], _, h => by
    obtain ⟨y, hy, _⟩ := h
    simp at hy
  | y :: l, r, h => by
    show putL x (y :: (l ++ r)) = putL x (y :: l) ++ r
    by_cases h1 : cN x.nm y.nm < 0
    · rw [putL_cons, putL_cons, if_pos h1, if_pos h1]
      rfl
    · by_cases h2 : cN x.nm y.nm = 0
      · rw [putL_cons, putL_cons, if_neg h1, if_pos h2, if_neg h1, if_pos h2]
        rfl
      · have h3 : ∃ z, z ∈ l ∧ cN x.nm z.nm ≤ 0 := by
          obtain ⟨z, hz, h4⟩ := h
          rcases List.mem_cons.1 hz with rfl | hz
          · omega
          · exact ⟨z, hz, h4⟩
        have ih := putL_done r h3
        rw [putL_cons, putL_cons, if_neg h1, if_neg h2, if_neg h1, if_neg h2, ih]
        rfl
def PutAt (x : To) (l : List To) (k : Nat) (done : Bool) (out : List To) : Prop := (done = false ∧ out = l.take k ∧ ∀ y, y ∈ l.take k → 0 < cN x.nm y.nm) ∨ (done = true ∧ out = putL x (l.take k) ∧ ∃ y, y ∈ l.take k ∧ cN x.nm y.nm ≤ 0)
theorem PutAt.start (x : To) (l : List To) : PutAt x l 0 false [] := .inl ⟨rfl, by simp, fun y hy => by simp at hy⟩
theorem take_next {l : List To} {k : Nat} {y : To} (h : l[k]? = some y) : l.take (k + 1) = l.take k ++ [y] := by
 rw [List.take_add_one, h]
 rfl
theorem PutAt.behind {x : To} {l : List To} {k : Nat} {out : List To} (h : PutAt x l k true out) (hr : Rise l) {y : To} (hy : l[k]? = some y) : cN x.nm y.nm < 0 ∧ PutAt x l (k + 1) true (out ++ [y]) := by
 rcases h with ⟨h1, _⟩ | ⟨_, h2, z, hz, h3⟩
 ·
  cases h1
 ·
  have hzy : cN z.nm y.nm < 0 := by
   have h4 : (l.take k ++ [y]).Pairwise fun a b => cN a.nm b.nm < 0 := by
    rw [← take_next hy]
    exact hr.sublist (List.take_sublist _ _)
   exact (List.pairwise_append.1 h4).2.2 z hz y (by simp)
  have h5 : cN x.nm y.nm < 0 := by
   rcases Int.lt_or_eq_of_le h3 with h3 | h3
   ·
    exact cN_trans h3 hzy
   ·
    rw [cN_eq h3]; exact hzy
  refine ⟨h5, .inr ⟨rfl, ?_, z, ?_, h3⟩⟩
  ·
   rw [take_next hy, putL_done [y] ⟨z, hz, h3⟩, h2]
  ·
   rw [take_next hy]; exact List.mem_append_left _ hz
theorem PutAt.ahead {x : To} {l : List To} {k : Nat} {out : List To} (h : PutAt x l k false out) {y : To} (hy : l[k]? = some y) (hc : cN x.nm y.nm < 0) : PutAt x l (k + 1) true (out ++ [x] ++ [y]) := by
 rcases h with ⟨_, h2, h3⟩ | ⟨h1, _⟩
 ·
  refine .inr ⟨rfl, ?_, y, by rw [take_next hy]; simp, by omega⟩
  rw [take_next hy, putL_lt [y] h3, h2]
  rw [putL_cons, if_pos hc]
  simp
 ·
  cases h1
theorem PutAt.meet {x : To} {l : List To} {k : Nat} {out : List To} (h : PutAt x l k false out) {y : To} (hy : l[k]? = some y) (hc : cN x.nm y.nm = 0) : PutAt x l (k + 1) true (out ++ [⟨y.nm, y.w + x.w⟩]) := by
 rcases h with ⟨_, h2, h3⟩ | ⟨h1, _⟩
 ·
  refine .inr ⟨rfl, ?_, y, by rw [take_next hy]; simp, by omega⟩
  rw [take_next hy, putL_lt [y] h3, h2]
  rw [putL_cons, if_neg (by omega), if_pos hc]
 ·
  cases h1
theorem PutAt.pass {x : To} {l : List To} {k : Nat} {out : List To} (h : PutAt x l k false out) {y : To} (hy : l[k]? = some y) (hc : 0 < cN x.nm y.nm) : PutAt x l (k + 1) false (out ++ [y]) := by
 rcases h with ⟨_, h2, h3⟩ | ⟨h1, _⟩
 ·
  refine .inl ⟨rfl, by rw [take_next hy, h2], fun z hz => ?_⟩
  rw [take_next hy] at hz
  rcases List.mem_append.1 hz with hz | hz
  ·
   exact h3 z hz
  ·
   rw [List.mem_singleton] at hz
   rw [hz]; exact hc
 ·
  cases h1
theorem PutAt.end_ {x : To} {l : List To} {done : Bool} {out : List To} (h : PutAt x l l.length done out) : (if done then out else out ++ [x]) = putL x l := by
 rcases h with ⟨rfl, h2, h3⟩ | ⟨rfl, h2, _⟩
 ·
  rw [List.take_length] at h2 h3
  have := putL_lt (l := l) (x := x) [] h3
  rw [List.append_nil] at this
  rw [this, h2]
  rfl
 ·
  rw [List.take_length] at h2
  rw [h2]
  rfl
theorem mem_putL {x z : To} : ∀ {l : List To}, z ∈ putL x l → z.nm = x.nm ∨ ∃ y, y ∈ l ∧ y.nm = z.nm
  | [], h => by
    simp [putL] at h
    exact .inl (by rw [h])
  | y :: l, h => by
    unfold putL at h
    split at h
    · rcases List.mem_cons.1 h with rfl | h
      · exact .inl rfl
      · exact .inr ⟨z, h, rfl⟩
    · split at h
      · rcases List.mem_cons.1 h with rfl | h
        · exact .inr ⟨y, by simp, rfl⟩
        · exact .inr ⟨z, by simp [h], rfl⟩
      · rcases List.mem_cons.1 h with rfl | h
        · exact .inr ⟨z, by simp, rfl⟩
        · rcases mem_putL h with h | ⟨u, hu, e⟩
          · exact .inl h
          · exact .inr ⟨u, by simp [hu], e⟩
theorem rise_putL {x : To} : ∀ {l : List To}, Rise l → Rise (putL x l)
  | [], _ => by simp [putL, Rise]
  | y :: l, h => by
    obtain ⟨h1, h2⟩ := List.pairwise_cons.1 h
    unfold putL
    split
    · rename_i hc
      refine List.pairwise_cons.2 ⟨fun z hz => ?_, h⟩
      rcases List.mem_cons.1 hz with rfl | hz
      · exact hc
      · exact cN_trans hc (h1 z hz)
    · split
      · exact List.pairwise_cons.2 ⟨h1, h2⟩
      · rename_i hc1 hc2
        refine List.pairwise_cons.2 ⟨fun z hz => ?_, rise_putL h2⟩
        rcases mem_putL hz with e | ⟨u, hu, e⟩
        · rw [e, cN_swap]; omega
        · rw [← e]; exact h1 u hu
theorem sum_putL (x : To) (n : Nm) : ∀ l : List To, sumAt (ctT (putL x l)) n = sumAt (ctT l) n + sumAt [(x.nm, x.w)] n
  | [] => by
    have e : ctT (putL x []) = [(x.nm, x.w)] := rfl
    have e2 : sumAt (ctT []) n = 0 := rfl
    rw [e, e2]
    exact (BitVec.zero_add _).symm
  | y :: l => by
    have e0 : ctT (y :: l) = [(y.nm, y.w)] ++ ctT l := rfl
    unfold putL
    split
    · have e1 : ctT (x :: y :: l) = [(x.nm, x.w)] ++ ctT (y :: l) := rfl
      rw [e1, sumAt_append, BitVec.add_comm]
    · split
      · rename_i hc
        have hn := cN_eq hc
        have e1 : ctT (⟨y.nm, y.w + x.w⟩ :: l) = [(y.nm, y.w + x.w)] ++ ctT l := rfl
        rw [e1, e0, sumAt_append, sumAt_append, hn]
        have s1 : ∀ z : BitVec 128, sumAt [(y.nm, z)] n = if y.nm = n then z else 0 := fun z => by
          simp only [sumAt]
          split <;> simp
        rw [s1, s1, s1]
        by_cases h : y.nm = n
        · rw [if_pos h, if_pos h, if_pos h, BitVec.add_assoc, BitVec.add_comm x.w, ← BitVec.add_assoc]
        · rw [if_neg h, if_neg h, if_neg h]
          simp
      · have ih := sum_putL x n l
        have e1 : ctT (y :: putL x l) = [(y.nm, y.w)] ++ ctT (putL x l) := rfl
        rw [e1, e0, sumAt_append, sumAt_append, ih, BitVec.add_assoc]
def putAll (l : List To) : List Ct → List To
 | [] => l
 | c :: cs => putAll (putL ⟨c.1, c.2⟩ l) cs
theorem putAll_app : ∀ (l : List To) (a b : List Ct), putAll l (a ++ b) = putAll (putAll l a) b
 | _, [], _ => rfl
 | l, c :: a, b => putAll_app (putL ⟨c.1, c.2⟩ l) a b
theorem rise_all : ∀ {l : List To} (cs : List Ct), Rise l → Rise (putAll l cs)
 | _, [], h => h
 | _, _ :: cs, h => rise_all cs (rise_putL h)
theorem sum_all (n : Nm) : ∀ (l : List To) (cs : List Ct), sumAt (ctT (putAll l cs)) n = sumAt (ctT l) n + sumAt cs n
  | l, [] => by
    have e : sumAt ([] : List Ct) n = 0 := rfl
    rw [e]
    exact (BitVec.add_zero _).symm
  | l, c :: cs => by
    have e : putAll l (c :: cs) = putAll (putL ⟨c.1, c.2⟩ l) cs := rfl
    have e2 : (c :: cs) = [c] ++ cs := rfl
    rw [e, sum_all n _ cs, sum_putL, e2, sumAt_append, BitVec.add_assoc]
theorem mem_all {z : To} : ∀ {l : List To} {cs : List Ct}, z ∈ putAll l cs → (∃ y, y ∈ l ∧ y.nm = z.nm) ∨ ∃ c, c ∈ cs ∧ c.1 = z.nm
  | _, [], h => .inl ⟨z, h, rfl⟩
  | l, c :: cs, h => by
    rcases mem_all (l := putL ⟨c.1, c.2⟩ l) (cs := cs) h with ⟨y, hy, e⟩ | ⟨d, hd, e⟩
    · rcases mem_putL hy with e2 | ⟨u, hu, e2⟩
      · exact .inr ⟨c, by simp, by rw [← e, e2]⟩
      · exact .inl ⟨u, hu, by rw [e2, e]⟩
    · exact .inr ⟨d, by simp [hd], e⟩
theorem len_putL (x : To) : ∀ l : List To, (putL x l).length ≤ l.length + 1
  | [] => Nat.le_refl _
  | y :: l => by
    have ih := len_putL x l
    unfold putL
    split
    · simp
    · split
      · simp
      · simp only [List.length_cons]; omega
theorem len_all : ∀ (l : List To) (cs : List Ct), (putAll l cs).length ≤ l.length + cs.length
  | _, [] => Nat.le_refl _
  | l, c :: cs => by
    have h1 := len_all (putL ⟨c.1, c.2⟩ l) cs
    have h2 := len_putL ⟨c.1, c.2⟩ l
    show (putAll (putL ⟨c.1, c.2⟩ l) cs).length ≤ _
    rw [List.length_cons]
    omega
def someL (l : List To) : List To := l.filter fun t => !decide (t.w = 0)
theorem some_take {l : List To} {k : Nat} {y : To} (h : l[k]? = some y) : someL (l.take (k + 1)) = someL (l.take k) ++ (if y.w = 0 then [] else [y]) := by
 rw [take_next h]
 unfold someL
 rw [List.filter_append]
 congr 1
 by_cases h0 : y.w = 0
 ·
  rw [if_pos h0]
  have : (!decide (y.w = 0)) = false := by rw [decide_eq_true h0]; rfl
  rw [List.filter_cons, this]
  rfl
 ·
  rw [if_neg h0]
  have : (!decide (y.w = 0)) = true := by rw [decide_eq_false h0]; rfl
  rw [List.filter_cons, this]
  rfl
theorem some_tot {l : List To} (h : Rise l) : IsTot (fun n => sumAt (ctT l) n) (ctT (someL l)) := by
 have hr : (ctT l).Pairwise fun p q => cN p.1 q.1 < 0 := by
  unfold ctT
  rw [List.pairwise_map]
  exact h
 have hmem : ∀ p, p ∈ ctT (someL l) ↔ p ∈ ctT l ∧ p.2 ≠ 0 := fun p => by
  unfold ctT someL
  simp only [List.mem_map, List.mem_filter]
  constructor
  ·
   rintro ⟨t, ⟨ht, h0⟩, rfl⟩
   exact ⟨⟨t, ht, rfl⟩, by simpa using h0⟩
  ·
   rintro ⟨⟨t, ht, rfl⟩, h0⟩
   exact ⟨t, ⟨ht, by simpa using h0⟩, rfl⟩
 refine ⟨?_, fun p hp => ?_, fun n hn => ?_⟩
 ·
  unfold ctT someL
  rw [List.pairwise_map]
  exact h.sublist List.filter_sublist
 ·
  obtain ⟨h1, h2⟩ := (hmem p).1 hp
  exact ⟨(sum_rise hr p h1).symm, h2⟩
 ·
  obtain ⟨p, hp, e⟩ := sumAt_mem hn
  have h1 := sum_rise hr p hp
  rw [e] at h1
  refine (hmem _).2 ⟨?_, hn⟩
  show (n, sumAt (ctT l) n) ∈ ctT l
  rw [h1, ← e]
  exact hp
theorem all_tot (cs : List Ct) : IsTot (sumAt cs) (ctT (someL (putAll [] cs))) := by
 refine (some_tot (rise_all cs List.Pairwise.nil)).congr fun n => ?_
 rw [sum_all]
 exact BitVec.zero_add _
end Go.Proofs.YtjngghihciimjaaGreat
namespace Go.Proofs.YtjngghihciimjaaGreat
set_option maxRecDepth 100000
open Go.RowKit Go.Sort
attribute [-go_sem] Instr.build
def hash1 (b : UInt8) : List UInt8 := b :: List.replicate 31 0
theorem hash1_len (b : UInt8) : (hash1 b).length = 32 := rfl
theorem built_hash1 (b : UInt8) : Tryz.prog.built 26 [(0, .int .u8 b.toNat)] = some (B8 (hash1 b)) := by kernel_rfl
theorem built_assetX (p : List UInt8) (hp : p.length = 32) (t : ByteArray) (x : Int) : Tryz.prog.built 38 [(0, .agg (B8 p)), (1, .string t), (2, .int .i64 x)] = some (B8 p ++ #[.string t, .int .i64 x]) := by
 obtain ⟨a0, a1, a2, a3, a4, a5, a6, a7, a8, a9, a10, a11, a12, a13, a14, a15, a16, a17, a18, a19, a20, a21, a22, a23, a24, a25, a26, a27, a28, a29, a30, a31, rfl⟩ := list32 p hp
 kernel_rfl
set_option maxHeartbeats 1000000 in
theorem asset_any (w : World) (b : UInt8) (t : List UInt8) (x : Int) :
  Calls Tryz.prog 47 #[.int .u8 b.toNat, .string (txt t), .int .i64 x] w fun e w' => e = .returned (.agg (asC ⟨(hash1 b, t), x⟩)) ∧ Below w.heap.size w w' := by
 obtain ⟨hv, hhv⟩ : ∃ v, v = B8 (hash1 b) := ⟨_, rfl⟩
 obtain ⟨tv, htv⟩ : ∃ v, v = txt t := ⟨_, rfl⟩
 obtain ⟨av, hav⟩ : ∃ v, v = asC ⟨(hash1 b, t), x⟩ := ⟨_, rfl⟩
 obtain ⟨bi, hbi⟩ : ∃ n : Int, n = b.toNat := ⟨_, rfl⟩
 have hb1 : ∀ W, (Instr.build 26 #[(0, .int .u8 bi)]).run Tryz.prog W = .ok (.agg hv) W := fun W => by
  rw [hhv, hbi]
  exact run_build W 26 _ _ (built_hash1 b)
 have hb2 : ∀ W, (Instr.build 38 #[(0, .agg hv), (1, .string tv), (2, .int .i64 x)]).run Tryz.prog W = .ok (.agg av) W := fun W => by
  rw [hhv, htv, hav]
  exact run_build W 38 _ _ (built_assetX (hash1 b) (hash1_len b) (txt t) x)
 have hsz : av.size = 34 := by rw [hav]; exact asC_size _ (hash1_len b)
 have h1 : av.all (·.oneCell') = true := by rw [hav]; exact asC_one _
 rw [← hbi, ← htv, ← hav]
 have H := Lib.hid (And.intro hsz h1)
 clear hhv htv hav hbi hsz h1
 go_enter Tryz.func47, Tryz.ntmps47
 go_wp2_with (refine wpList_store_row rfl 38 _ _ rfl w.heap.size av rfl rfl 38 z34 (Lies.new w z34 38) (by rw [H.out.1]; exact info_asset) (by rw [H.out.1]; kernel_rfl) H.out.2 ?_)
 rw [World.setRow_alloc_new]
 refine bodyPost_ret (v := .agg av) (results_cell_row (p := 6) (ty := 38) (by kernel_rfl) _ _ w.heap.size 38 av (0, 0) _ rfl (Lies.new _ _ _) Tryz.underlying38 rfl (by rw [H.out.1]; exact info_asset)) rfl ⟨rfl, (Below.refl _ _).alloc (Nat.le_refl _) _⟩
theorem built_value (x : Int) (pa : Option Addr) (n c : Nat) : Tryz.prog.built 24 [(0, .int .i64 x), (1, .slice pa n c)] = some #[.int .i64 x, .slice pa n c] := by kernel_rfl
set_option maxHeartbeats 1000000 in
theorem ofV_any (w : World) (x : Int) (pa : Option Addr) (n c : Nat) :
  Calls Tryz.prog 46 #[.int .i64 x, .slice pa n c] w fun e w' => e = .returned (.agg (vC x pa n c)) ∧ Below w.heap.size w w' := by
 have hb1 : ∀ W, (Instr.build 24 #[(0, .int .i64 x), (1, .slice pa n c)]).run Tryz.prog W = .ok (.agg #[.int .i64 x, .slice pa n c]) W := fun W => run_build W 24 _ _ (built_value x pa n c)
 go_enter Tryz.func46, Tryz.ntmps46
 go_wp2
 refine bodyPost_ret (v := .agg (vC x pa n c)) (results_cell_row (p := 4) (ty := 24) (by kernel_rfl) _ _ w.heap.size 24 (vC x pa n c) (0, 0) _ rfl (Lies.new _ _ _) Tryz.underlying24 rfl info_value) rfl ⟨rfl, (Below.refl _ _).alloc (Nat.le_refl _) _⟩
end Go.Proofs.YtjngghihciimjaaGreat
namespace Go.Proofs.YtjngghihciimjaaGreat
set_option maxRecDepth 100000
open Go.RowKit Go.Sort
set_option maxHeartbeats 400000 in
theorem texts_any (w : World) (x y : List UInt8) : Calls Tryz.prog 129 #[.string (txt x), .string (txt y)] w fun e w' => e = .returned (.int .i64 (cmpB x y)) ∧ w = w' := by
  obtain ⟨m, hm⟩ : ∃ m, m = cmpB x y := ⟨_, rfl⟩
  rw [← hm]
  rw [← less_is] at hm
  have hx := txt_list x
  have hy := txt_list y
  generalize txt x = X at hx ⊢
  generalize txt y = Y at hy ⊢
  subst hx hy
  by_cases he : X = Y
  · subst he
    have HM := Lib.hid hm
    clear hm
    go_enter Tryz.func129, Tryz.ntmps129
    go_wp2_with fail
    go_ret
    have hl : Op.bytesLess X.toList X.toList = false := by
      have := less_is X.toList X.toList
      rw [cmpB_self] at this
      by_cases h : Op.bytesLess X.toList X.toList = true
      · rw [if_pos h] at this; cases this
      · simpa using h
    exact ⟨ret_i (by rw [HM.out, hl]; simp), rfl⟩
  · have hbe : (X == Y) = false := by
      cases h : X == Y with
      | false => rfl
      | true =>
        obtain ⟨xd⟩ := X
        obtain ⟨yd⟩ := Y
        have h2 : (xd == yd) = true := h
        exact absurd (congrArg ByteArray.mk (eq_of_beq h2)) he
    have hne : (X.toList == Y.toList) = false := by
      have : X.toList ≠ Y.toList := fun e => he (by
        have h1 := congrArg List.toArray e
        rw [ByteArray.toList_eq, ByteArray.toList_eq] at h1
        simp only [Array.toArray_toList] at h1
        exact ByteArray.ext h1)
      simpa using this
    rw [hne] at hm
    cases hl : Op.bytesLess X.toList Y.toList with
    | true =>
      rw [hl] at hm
      have HM := Lib.hid hm
      clear hm
      go_enter Tryz.func129, Tryz.ntmps129
      go_wp2_with fail
      go_ret
      exact ⟨ret_i (by rw [HM.out]; rfl), rfl⟩
    | false =>
      rw [hl] at hm
      have HM := Lib.hid hm
      clear hm
      go_enter Tryz.func129, Tryz.ntmps129
      go_wp2_with fail
      go_ret
      exact ⟨ret_i (by rw [HM.out]; rfl), rfl⟩
theorem conv_src {W : World} {g c : Nat} {l : List UInt8} (h : Src W g 0 l) : (convert 182 9 (.slice (some ⟨g, 0, none⟩) l.length c)).run Tryz.prog W = .ok (.string (txt l)) W :=
 run_convert_bytes_back W 182 9 5 ⟨g, 0, none⟩ c l Tryz.underlying182 Tryz.underlying5 Tryz.underlying9 (fun j hj => by
  have h1 := h j hj
  have e : (⟨g, 0, none⟩ : Addr).add j = ⟨g, j, none⟩ := by cases j <;> simp [Addr.add]
  rw [Nat.zero_add] at h1
  rw [e, h1, List.getD_eq_getElem?_getD, List.getElem?_eq_getElem hj]
  rfl)
theorem b8_src {W : World} {g : Nat} {l : List UInt8} {t : TypeId} (h : Lies W g (B8 l) t) : Src W g 0 l := fun j hj => by
 rw [Nat.zero_add]
 exact h.cell j (B8_get l j hj)
set_option maxHeartbeats 2000000 in
theorem rorder_any (w : World) (a b : Nm) (ha : a.1.length = 32) (hb : b.1.length = 32) :
  Calls Tryz.prog 82 #[.agg (B8 a.1), .string (txt a.2), .agg (B8 b.1), .string (txt b.2)] w fun e w' => e = .returned (.int .i64 (cN a b)) ∧ Below w.heap.size w w' := by
 obtain ⟨va, hva⟩ : ∃ v, v = B8 a.1 := ⟨_, rfl⟩
 obtain ⟨vb, hvb⟩ : ∃ v, v = B8 b.1 := ⟨_, rfl⟩
 obtain ⟨x, hx⟩ : ∃ x, x = cmpB a.1 b.1 := ⟨_, rfl⟩
 obtain ⟨y, hy⟩ : ∃ y, y = cmpB a.2 b.2 := ⟨_, rfl⟩
 have ht1 := fun V => texts_any V a.1 b.1
 have ht2 := fun V => texts_any V a.2 b.2
 have hcn : cN a b = if x = 0 then y else x := by rw [hx, hy]; rfl
 rw [← hx] at ht1
 rw [← hy] at ht2
 have hcv1 : ∀ W g, Lies W g va 26 → (convert 182 9 (.slice (some ⟨g, 0, none⟩) 32 32)).run Tryz.prog W = .ok (.string (txt a.1)) W := fun W g h => by
  rw [hva] at h
  have := conv_src (c := 32) (b8_src h)
  rw [ha] at this
  exact this
 have hcv2 : ∀ W g, Lies W g vb 26 → (convert 182 9 (.slice (some ⟨g, 0, none⟩) 32 32)).run Tryz.prog W = .ok (.string (txt b.1)) W := fun W g h => by
  rw [hvb] at h
  have := conv_src (c := 32) (b8_src h)
  rw [hb] at this
  exact this
 rw [← hva, ← hvb, hcn]
 have HCV := Lib.hid (And.intro hcv1 hcv2)
 clear hva hvb hcn hx hy hcv1 hcv2 ha hb
 generalize txt a.1 = pa at ht1 HCV ⊢
 generalize txt b.1 = pb at ht1 HCV ⊢
 generalize txt a.2 = ta at ht2 ⊢
 generalize txt b.2 = tb at ht2 ⊢
 have HT := Lib.hid (And.intro ht1 ht2)
 clear ht1 ht2
 go_enter Tryz.func82, Tryz.ntmps82
 go_upto_region 1 with fail
 have hl1 : Lies ((w.alloc (.cells va 26)).alloc (.cells vb 26)) w.heap.size va 26 := (Lies.new _ _ _).alloc _
 have hl2 : Lies ((w.alloc (.cells va 26)).alloc (.cells vb 26)) (w.heap.size + 1) vb 26 := by
  have := Lies.new (w.alloc (.cells va 26)) vb 26
  simpa using this
 have hb0 : Below w.heap.size w ((w.alloc (.cells va 26)).alloc (.cells vb 26)) := ((Below.refl _ _).alloc (Nat.le_refl _) _).alloc (by simp) _
 generalize (w.alloc (.cells va 26)).alloc (.cells vb 26) = W0 at hl1 hl2 hb0 ⊢
 obtain ⟨g1, hg1⟩ : ∃ g, g = w.heap.size := ⟨_, rfl⟩
 obtain ⟨g2, hg2⟩ : ∃ g, g = w.heap.size + 1 := ⟨_, rfl⟩
 rw [← hg2] at hl2 ⊢
 rw [← hg1] at hl1 ⊢
 have hd : Below W0.heap.size W0 W0.drew := (Below.refl _ _).drew
 have hs0 : (convert 182 9 (.slice (some ⟨g1, 0, none⟩) 32 32)).run Tryz.prog W0.drew = .ok (.string pa) W0.drew ∧ (convert 182 9 (.slice (some ⟨g2, 0, none⟩) 32 32)).run Tryz.prog W0.drew = .ok (.string pb) W0.drew := ⟨HCV.out.1 _ _ (hl1.below hd hl1.lt), HCV.out.2 _ _ (hl2.below hd hl2.lt)⟩
 have HB := Lib.hid (hb0.trans (hd.mono hb0.size))
 clear hl1 hl2 hb0 hg1 hg2 hd HCV
 go_region_held3 (fun V => (convert 182 9 (.slice (some ⟨g1, 0, none⟩) 32 32)).run Tryz.prog V = .ok (.string pa) V ∧ (convert 182 9 (.slice (some ⟨g2, 0, none⟩) 32 32)).run Tryz.prog V = .ok (.string pb) V)
  (exact hs0)
  (with_reducible refine (HT.out.1 _).mono ?_; rintro e w5 ⟨rfl, rfl⟩)
 clear hs0
 by_cases h0 : x = 0
 ·
  subst h0
  go_wp2_with fail
  refine (HT.out.2 _).mono ?_
  rintro e w5 ⟨rfl, rfl⟩
  go_wp2_with fail
  go_ret
  exact ⟨rfl, HB.out⟩
 ·
  have hb0 : (x != 0) = true := by simpa using h0
  go_wp2_with fail
  go_ret
  exact ⟨rfl, HB.out⟩
end Go.Proofs.YtjngghihciimjaaGreat
