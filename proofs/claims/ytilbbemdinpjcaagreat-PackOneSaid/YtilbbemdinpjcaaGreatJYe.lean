/-
  pack: the getter's entries.
-/
import Derived.Test.YtilbbemdinpjcaaGreatJYb
set_option maxHeartbeats 16000000
namespace Go.Proofs.YtilbbemdinpjcaaGreat.P
set_option maxRecDepth 100000
open Go.RowKit Go.Sort
theorem flagS_some {xs : List UInt8} {st : Option Nat} {p : Nat} (h : W.flagS xs st = some p) : ∃ a, st = some a ∧ a ≤ p := by
  cases st with
  | none => cases h
  | some a =>
    simp only [W.flagS] at h
    split at h
    · have := Option.some.inj h
      exact ⟨a, rfl, by omega⟩
    · cases h
theorem countS_some {xs : List UInt8} {st : Option Nat} {m : Int} {p : Nat} (h : W.countS xs st m = some p) : ∃ a, st = some a ∧ a ≤ p := by
  cases st with
  | none => cases h
  | some a =>
    simp only [W.countS] at h
    split at h
    · have := Option.some.inj h
      exact ⟨a, rfl, by omega⟩
    · cases h
theorem rowD_ge {α : Type} {one : Option Nat → α} {nx : Option Nat → Option Nat} (hn : ∀ st p, nx st = some p → ∃ a, st = some a ∧ a + 1 ≤ p) : ∀ (n : Nat) (acc : List α) (st : Option Nat) (l : List α) (p : Nat), rowD one nx n acc st = some (l, some p) → ∃ a, st = some a ∧ a ≤ p
  | 0, acc, st, l, p, e => by
    have h1 : st = some p := congrArg Prod.snd (Option.some.inj e)
    exact ⟨p, h1, Nat.le_refl _⟩
  | n + 1, acc, st, l, p, e => by
    unfold rowD at e
    split at e
    · obtain ⟨b, h1, h2⟩ := rowD_ge hn n _ _ l p e
      obtain ⟨a, h3, h4⟩ := hn st b h1
      exact ⟨a, h3, by omega⟩
    · cases e
theorem ndP_some {xs : List UInt8} {st : Option Nat} {kd : Int} {p : Nat} (h : ndP xs st kd = some p) : ∃ a, st = some a ∧ a ≤ p := by
 unfold ndP at h
 split at h
 ·
  obtain ⟨a, h1, h2⟩ := numS_some h
  exact ⟨a, h1, by omega⟩
 split at h
 ·
  obtain ⟨a, h1, h2⟩ := textS_some h
  exact ⟨a, h1, by omega⟩
 split at h
 ·
  obtain ⟨a, h1, h2⟩ := numS_some h
  exact ⟨a, h1, by omega⟩
 split at h
 ·
  obtain ⟨b, h1, h2⟩ := numS_some h
  obtain ⟨a, h3, h4⟩ := numS_some h1
  exact ⟨a, h3, by omega⟩
 ·
  obtain ⟨a, h1, h2⟩ := numS_some h
  exact ⟨a, h1, by omega⟩
theorem decT_ge (xs : List UInt8) : ∀ (f l : Nat) (acc : List T.Nd) (st : Option Nat) (ns : List T.Nd) (p : Nat), decT xs f l acc st = some (ns, p) → ∃ a, st = some a ∧ a ≤ p
  | f, 0, acc, st, ns, p, e => by
    rw [decT_end] at e
    cases st with
    | none => cases e
    | some a =>
      have : a = p := congrArg Prod.snd (Option.some.inj e)
      exact ⟨a, rfl, by omega⟩
  | 0, l + 1, acc, st, ns, p, e => by cases e
  | f + 1, l + 1, acc, st, ns, p, e => by
    unfold decT at e
    split at e
    · obtain ⟨b, h1, h2⟩ := decT_ge xs f _ _ _ ns p e
      obtain ⟨d, h3, h4⟩ := ndP_some h1
      obtain ⟨a, h5, h6⟩ := numS_some h3
      exact ⟨a, h5, by omega⟩
    · cases e
theorem valD_ge {xs : List UInt8} {st : Option Nat} {y : Int × List As} {p : Nat} (h : valD xs st = some (y, some p)) : ∃ a, st = some a ∧ a ≤ p := by
  unfold valD at h
  cases hd : assetsD xs (W.numS xs st 8) with
  | none => rw [hd] at h; cases h
  | some z =>
    rw [hd] at h
    have h1 : z.2 = some p := congrArg Prod.snd (Option.some.inj h)
    obtain ⟨b, h2, h3⟩ := rowD_ge (fun st p h => asE_some h) _ _ _ z.1 p (show rowD (asV xs) (asE xs) _ [] _ = some (z.1, some p) by rw [← h1]; exact hd)
    obtain ⟨d, h4, h5⟩ := countS_some h2
    obtain ⟨a, h6, h7⟩ := numS_some h4
    exact ⟨a, h6, by omega⟩
theorem outD_ge {xs : List UInt8} {st : Option Nat} {y : OutV} {p : Nat} (h : outD xs st = some (y, p)) : ∃ a, st = some a ∧ a ≤ p := by
  have back : ∀ (u : Int × List As) (s2 : Option Nat) (b : Nat), valD xs (adE xs st) = some (u, s2) → W.numS xs s2 1 = some b → b ≤ p → ∃ a, st = some a ∧ a ≤ p := fun u s2 b hv hb hbp => by
    obtain ⟨d, h1, h2⟩ := numS_some hb
    rw [h1] at hv
    obtain ⟨e, h3, h4⟩ := valD_ge hv
    obtain ⟨f, h5, h6⟩ := numS_some h3
    obtain ⟨a, h7, h8⟩ := flagS_some h5
    exact ⟨a, h7, by omega⟩
  unfold outD at h
  split at h
  · cases h
  · rename_i x l s2 hv
    split at h
    · cases h3 : W.numS xs (W.numS xs s2 1) 32 with
      | none => rw [h3] at h; cases h
      | some b =>
        rw [h3] at h
        have hb : b = p := congrArg Prod.snd (Option.some.inj h)
        obtain ⟨d, h4, h5⟩ := numS_some h3
        exact back _ s2 d hv h4 (by omega)
    split at h
    · cases h3 : decT xs 100 1 [] (W.numS xs s2 1) with
      | none => rw [h3] at h; cases h
      | some z =>
        rw [h3] at h
        have hb : z.2 = p := congrArg Prod.snd (Option.some.inj h)
        obtain ⟨d, h4, h5⟩ := decT_ge xs 100 1 [] _ z.1 z.2 h3
        exact back _ s2 d hv h4 (by omega)
    · cases h3 : W.numS xs s2 1 with
      | none => rw [h3] at h; cases h
      | some b =>
        rw [h3] at h
        have hb : b = p := congrArg Prod.snd (Option.some.inj h)
        exact back _ s2 b hv h3 (by omega)
theorem entD_some {xs : List UInt8} {st : Option Nat} {y : Rf × OutV} {p : Nat} (h : entD xs st = some (y, p)) : ∃ a, st = some a ∧ a + 1 ≤ p := by
  unfold entD at h
  cases hd : outD xs (rfE xs st) with
  | none => rw [hd] at h; cases h
  | some z =>
    rw [hd] at h
    have hb : z.2 = p := congrArg Prod.snd (Option.some.inj h)
    obtain ⟨b, h1, h2⟩ := outD_ge (y := z.1) (p := z.2) hd
    obtain ⟨d, h3, h4⟩ := countS_some h1
    obtain ⟨a, h5, h6⟩ := numS_some h3
    exact ⟨a, h5, by omega⟩
end Go.Proofs.YtilbbemdinpjcaaGreat.P
namespace Go.Proofs.YtilbbemdinpjcaaGreat.P
set_option maxRecDepth 100000
open Go.RowKit Go.Sort
def rowE (xs : List UInt8) : Nat → List (Rf × OutV) → Option Nat → Option (List (Rf × OutV) × Option Nat)
  | 0, acc, st => some (acc, st)
  | n + 1, acc, st => match entD xs st with
    | some (y, p) => rowE xs n (acc ++ [y]) (some p)
    | none => none
def enV (e : En) : Rf × OutV := (e.r, outV e.o)
def EnMem (V : World) (B : Nat) (e : En) : Prop := RfOk e.r ∧ OutIn V B e.o
def EnFar (v : Value) (e : En) : Prop := ∀ j, v.ownBlock = some j → (Value.slice e.o.v.pa e.o.v.l.length e.o.v.c).ownBlock ≠ some j ∧ (Value.slice e.o.tp e.o.ns.length e.o.tc).ownBlock ≠ some j
def EntsG (g k : Nat) (xs : List UInt8) (c : Nat) (w : World) (d : Option (List (Rf × OutV) × Option Nat)) (e : Ending) (w' : World) : Prop :=
 W.Only g w w' none ∧ ((∃ l v st, e = .returned v ∧ w'.ownsRow w.heap.size 81 102 v l.length (cellsF enC l) ∧ (∀ x ∈ l, EnMem w' w.heap.size x ∧ EnFar v x) ∧ W.RSt w' g k xs c st ∧ d = some (l.map enV, st)) ∨ (Fault e ∧ d = none ∧ ∃ st, W.RSt w' g k xs c st))
structure RLE (W0 Z : World) (g k : Nat) (xs : List UInt8) (c : Nat) (res : Option (List (Rf × OutV) × Option Nat)) (n : Nat) (l : List En) (st : Option Nat) (v : Value) : Prop where
 res : res = rowE xs n (l.map enV) st
 rd : W.RSt Z g k xs c st
 only : W.Only g W0 Z none
 own : Z.ownsRow W0.heap.size 81 102 v l.length (cellsF enC l)
 none : st = none → l = []
 some : ∀ a, st = some a → l.length ≤ a
 each : ∀ x ∈ l, EnMem Z W0.heap.size x ∧ EnFar v x
theorem infoEn : (Tryz.prog.info? 81).map (fun i => (i.zero.map (·.cells.size), i.size, i.bytes)) = some (some 102, 102, 176) := by kernel_rfl
theorem OutIn.only {V V' : World} {g B : Nat} {o : Ot} (h : OutIn V B o) (ho : W.Only g V V' none) (hg : g < B) : OutIn V' B o :=
 ⟨h.1, h.2.1, W.own_only h.2.2.1 ho (fun e => by have := (W.own_block h.2.2.1 _ e).1; omega) (fun _ _ => by simp), ownT_only h.2.2.2.1 ho hg, h.2.2.2.2⟩
theorem OutIn.grown {V V' : World} {B : Nat} {o : Ot} {b : Option Nat} (h : OutIn V B o) (hg : V.grownBy V' b) (hf : ∀ j, b = some j → (Value.slice o.v.pa o.v.l.length o.v.c).ownBlock ≠ some j ∧ (Value.slice o.tp o.ns.length o.tc).ownBlock ≠ some j) : OutIn V' B o :=
 ⟨h.1, h.2.1, W.own_kept h.2.2.1 hg (fun j e e2 => (hf j e2).1 e), W.own_kept h.2.2.2.1 hg (fun j e e2 => (hf j e2).2 e), h.2.2.2.2⟩
theorem OutIn.blk {V : World} {B : Nat} {o : Ot} (h : OutIn V B o) : (∀ j, (Value.slice o.v.pa o.v.l.length o.v.c).ownBlock = some j → B ≤ j ∧ j < V.heap.size) ∧ ∀ j, (Value.slice o.tp o.ns.length o.tc).ownBlock = some j → B ≤ j ∧ j < V.heap.size :=
 ⟨W.own_block h.2.2.1, W.own_block h.2.2.2.1⟩
attribute [-go_sem] Instr.build Instr.buildSlice
theorem rowEntry_any (w : World) (g k : Nat) (xs : List UInt8) (c : Nat) (st0 : Option Nat) (n : Nat) (h : W.RSt w g k xs c st0) (hx : xs.length < 1000000) (hn : n < 9223372036854775808) :
    Calls Tryz.prog 231 #[.agg #[.pointer (some ⟨g, 0, none⟩)], .int .i64 n, .func (Fn.func 232) #[] #[]] w (EntsG g k xs c w (rowE xs n [] st0)) := by
  obtain ⟨res, hres⟩ : ∃ r, r = rowE xs n [] st0 := ⟨_, rfl⟩
  rw [← hres]
  obtain ⟨hA, hb⟩ := box_one w (.pointer (some ⟨g, 0, none⟩)) 174
  have hsl : ∀ (W : World) (av : Array Value), av.size = 102 → (Instr.buildSlice 38 1 #[(0, .agg av)]).run Tryz.prog W = .ok (.slice (some ⟨W.heap.size, 0, none⟩) 1 1) (W.alloc (.cells av 81)) := fun W av has => run_slice1 W 38 81 102 176 av Tryz.underlying38 infoEn (by decide) (by decide) has
  have HSL := Lib.hid hsl
  have HLT := Lib.hid h.lt
  have HX := Lib.hid hx
  have hr0 := h.below hb
  have H := Lib.hid (And.intro hres hr0)
  clear h hres hr0 hsl hx
  have hcf := fun cap V => T.callK 232 Tryz.f232 Tryz.func232 (by kernel_rfl) (by kernel_rfl) cap V
  go_enter Tryz.func231, Tryz.ntmps231
  go_upto_region 1 with fail
  generalize w.alloc (.cells #[.pointer (some ⟨g, 0, none⟩)] 174) = W0 at hA hb H ⊢
  obtain ⟨p0, hp0⟩ : ∃ p, p = w.heap.size := ⟨_, rfl⟩
  rw [← hp0] at hA ⊢
  have HA := Lib.hid (And.intro hA (And.intro hb hp0))
  clear hA hb hp0
  go_upto_region 3 with fail
  go_loopw [7, 9] (fun v i Z => ∃ (m : Nat) (l : List En) (st : Option Nat), m ≤ n ∧ i = .int .i64 m ∧ RLE W0 Z g k xs c res (n - m) l st v) (fun _ i _ => (n - intOf i).toNat)
  case atStart => exact ⟨0, [], st0, Nat.zero_le _, by go_num, ⟨H.out.1, H.out.2, W.Only.refl _ _ _, World.ownsRow_nil _ _ _ _, fun _ => rfl, fun _ _ => Nat.zero_le _, fun x hx => by cases hx⟩⟩
  case round =>
    obtain ⟨m, l, st, hm, rfl, hT⟩ := hrel
    have hpg : p0 ≠ g := by rw [HA.out.2.2]; have := HLT.out; omega
    have hl0 := hT.only.lies HA.out.1 hpg
    by_cases hlt : m < n
    · have q0 : (m : Int) < (n : Int) := by omega
      have q1 : (m : Int) + 1 ≤ 9223372036854775807 := by omega
      have q2 : (0 : Int) ≤ (m : Int) := by omega
      have c0 := hl0.cell 0 (v := .pointer (some ⟨g, 0, none⟩)) rfl
      have hC := getterEntry_any wr g k xs c st hT.rd HX.out
      obtain ⟨ed, hed⟩ : ∃ d, d = entD xs st := ⟨_, rfl⟩
      rw [← hed] at hC
      have HC := Lib.hid hC
      have hne : (n - m) = (n - (m + 1)) + 1 := by omega
      have HT := Lib.hid (And.intro hT (And.intro hed (And.intro hpg (And.intro hm (And.intro hlt hl0)))))
      have HNE := Lib.hid hne
      clear hT hed hpg hm hlt hC hl0 hne
      go_wp2_with (at_builtin; fail)
      refine HC.out.mono ?_
      rintro e W2 ⟨ho2, hcase⟩
      rcases hcase with ⟨x, st1, rfl, hx32, hin, hr2, hd⟩ | ⟨⟨mm, rfl⟩, hd, st1, hr2⟩
      case inr =>
        have HF := Lib.hid (And.intro ((W.only_below HA.out.2.1).trans0 (HT.out.1.only.trans0 ho2)) (And.intro hd hr2))
        clear ho2 hd hr2 HC c0
        go_wp2_with (at_builtin; fail)
        refine ⟨rfl, HF.out.1, .inr ⟨⟨mm, rfl⟩, ?_, st1, HF.out.2.2⟩⟩
        rw [HT.out.1.res, HNE.out]
        simp only [rowE]
        rw [← HT.out.2.1, HF.out.2.1]
      obtain ⟨cs, hcs⟩ : ∃ y, y = enC x := ⟨_, rfl⟩
      have has : cs.size = 102 := by rw [hcs, enC, Array.size_append, refC_size _ hx32.1, otC_size _ hin.1 hin.2.1]
      have hsl := fun W => HSL.out W cs has
      have hone : cs.all (·.oneCell') = true := by rw [hcs]; exact enG_one x.r x.o
      rw [← hcs]
      have hX := W.own_only HT.out.1.own ho2 (fun e => by have := (W.own_block HT.out.1.own _ e).1; have := HA.out.2.1.size; have := HLT.out; omega) (fun _ _ => by simp)
      have hb3 : Below W2.heap.size W2 (W2.alloc (.cells cs 81)) := (Below.refl _ _).alloc (Nat.le_refl _) _
      have hL3 := Lies.new W2 cs 81
      have hX3 := ownsRow_below hX hb3
      have hr3 := hr2.below hb3
      have ho3 := (HT.out.1.only.trans0 ho2).trans0 (W.only_below hb3)
      have hl3 := (ho2.lies HT.out.2.2.2.2.2 HT.out.2.2.1).below hb3 (ho2.lies HT.out.2.2.2.2.2 HT.out.2.2.1).lt
      have hlen : l.length + 1 ≤ 1000000 := by
        have := HX.out
        cases hst : st with
        | none => rw [HT.out.1.none hst]; simp
        | some a =>
          have h1 := HT.out.1.some a hst
          have h2 := HT.out.1.rd
          rw [hst] at h2
          have := h2.1
          omega
      have hea : ∀ z ∈ l ++ [x], EnMem (W2.alloc (.cells cs 81)) W0.heap.size z ∧ EnFar u7 z := fun z hz => by
        rcases List.mem_append.1 hz with h1 | h1
        · have := HT.out.1.each z h1
          exact ⟨⟨this.1.1, (this.1.2.only ho2 (by have := HA.out.2.1.size; have := HLT.out; omega)).below hb3⟩, this.2⟩
        · rw [List.mem_singleton] at h1
          rw [h1]
          refine ⟨⟨hx32, (hin.weak HT.out.1.only.size).below hb3⟩, fun j hj => ?_⟩
          have hjl := (W.own_block HT.out.1.own j hj).2
          exact ⟨fun e => by have := (hin.blk.1 j e).1; omega, fun e => by have := (hin.blk.2 j e).1; omega⟩
      have H3 := Lib.hid (And.intro hX3 (And.intro (show Lies (W2.alloc (.cells cs 81)) W2.heap.size (enC x) 81 by rw [← hcs]; exact hL3) (And.intro hr3 (And.intro ho3 (And.intro hl3 (And.intro hlen (And.intro (W.own_block hX) (And.intro hd (And.intro hea (And.intro (show (enC x).size = 102 by rw [← hcs]; exact has) (show (enC x).all (·.oneCell') = true by rw [← hcs]; exact hone)))))))))))
      clear hX hb3 hL3 hX3 hr3 ho3 hl3 hlen hr2 ho2 c0 hd hea hin has hone hcs hx32
      go_upto_region 5 with (first
        | (at_builtin; go_must (refine wpList_append_F enC 102 176 38 81 Tryz.underlying38 infoEn (by decide) (by decide) rfl _ _ rfl W0.heap.size W2.heap.size u7 l x rfl H3.out.1 rfl H3.out.2.1 H3.out.2.2.2.2.2.2.2.2.2.1 H3.out.2.2.2.2.2.2.2.2.2.2 H3.out.2.2.2.2.2.1 H3.out.2.2.2.1.size ?_; intro v' W7 hown7 hgrow7 hat7; have HO7 := Lib.hid (And.intro hown7 (And.intro hgrow7 hat7)); clear hown7 hgrow7 hat7)))
      have hl7 := T.grown_lies HO7.out.2.1 H3.out.2.2.2.2.1 (fun e => by have := (H3.out.2.2.2.2.2.2.1 _ e.symm).1; have := HA.out.1.lt; omega)
      have hr7 := rd_grown H3.out.2.2.1 HO7.out.2.1 (fun e => by have := (H3.out.2.2.2.2.2.2.1 _ e).1; have := HA.out.2.1.size; have := HLT.out; omega) (fun e => by have := (H3.out.2.2.2.2.2.2.1 _ e).1; have := HA.out.2.1.size; have := HLT.out; omega)
      have ho7 := grown_on0 H3.out.2.2.2.1 HO7.out.2.1 (fun j e => (H3.out.2.2.2.2.2.2.1 _ e).1)
      have he7 : ∀ z ∈ l ++ [x], EnMem W7 W0.heap.size z ∧ EnFar v' z := fun z hz => by
        have h1 := H3.out.2.2.2.2.2.2.2.2.1 z hz
        refine ⟨⟨h1.1.1, h1.1.2.grown HO7.out.2.1 h1.2⟩, fun j hj => ?_⟩
        rcases HO7.out.2.2 with e | e
        · exact h1.2 j (by rw [← e]; exact hj)
        · have hje := Option.some.inj (e.symm.trans hj)
          exact ⟨fun e2 => by have := (h1.1.2.blk.1 j e2).2; omega, fun e2 => by have := (h1.1.2.blk.2 j e2).2; omega⟩
      obtain ⟨y, hy⟩ : ∃ y, y = st1.isSome := ⟨_, rfl⟩
      have hS := sound_any W7 g k xs c st1 hr7
      rw [← hy] at hS
      have HS := Lib.hid hS
      have c0 := hl7.cell 0 (v := .pointer (some ⟨g, 0, none⟩)) rfl
      have H7 := Lib.hid (And.intro hr7 (And.intro ho7 (And.intro hy (And.intro he7 HO7.out.1))))
      clear hl7 hr7 ho7 hS hy he7
      go_wp2_with (at_builtin; fail)
      refine HS.out.mono ?_
      rintro e W8 ⟨rfl, hb8⟩
      have H8 := Lib.hid hb8
      have hsb := fun W => run_bool1 W y
      clear hb8 c0
      go_wp2_with (at_builtin; fail)
      refine (must1 _ _).mono ?_
      rintro e W9 ⟨hm, hb9⟩
      have hb := H8.out.trans (hb9.mono H8.out.size)
      have h1 := H7.out.1.below hb
      have h2 := H7.out.2.1.trans0 (W.only_below hb)
      have h3 := ownsRow_below H7.out.2.2.2.2 hb
      have h4 : ∀ z ∈ l ++ [x], EnMem W9 W0.heap.size z ∧ EnFar v' z := fun z hz => ⟨⟨(H7.out.2.2.2.1 z hz).1.1, (H7.out.2.2.2.1 z hz).1.2.below hb⟩, (H7.out.2.2.2.1 z hz).2⟩
      have H9 := Lib.hid (And.intro h1 (And.intro h2 (And.intro h3 h4)))
      clear hb hb9 h1 h2 h3 h4
      rcases hm with ⟨rfl, rfl⟩ | ⟨rfl, mm, rfl⟩
      · go_wp2_with (at_builtin; fail)
        go_roundw
        case rel =>
          have hsm : st1.isSome = true := H7.out.2.2.1.symm
          obtain ⟨p, hp⟩ := Option.isSome_iff_exists.1 hsm
          have hde := H3.out.2.2.2.2.2.2.2.1
          rw [hp] at hde
          have hde : ed = some (enV x, p) := hde
          refine ⟨m + 1, l ++ [x], st1, HT.out.2.2.2.2.1, by go_num, ?_, H9.out.1, H9.out.2.1, H9.out.2.2.1, fun e => ?_, fun a e => ?_, H9.out.2.2.2⟩
          · rw [HT.out.1.res, HNE.out]
            simp only [rowE]
            rw [← HT.out.2.1, hde, List.map_append, hp]
            rfl
          · rw [e] at hsm; cases hsm
          · rw [hp] at e
            obtain rfl := Option.some.inj e
            obtain ⟨d, hd, hle⟩ := entD_some (HT.out.2.1.symm.trans hde)
            have := HT.out.1.some d hd
            rw [List.length_append, List.length_singleton]
            omega
        case measure =>
          have := HT.out.2.2.2.2.1
          simp [intOf]
          omega
      · go_wp2_with (at_builtin; fail)
        refine ⟨rfl, (W.only_below HA.out.2.1).trans0 H9.out.2.1, .inr ⟨⟨mm, rfl⟩, ?_, st1, H9.out.1⟩⟩
        rw [HT.out.1.res, HNE.out]
        simp only [rowE]
        have hno : st1 = none := by
          cases hst : st1 with
          | none => rfl
          | some a =>
            have := H7.out.2.2.1
            rw [hst] at this
            cases this
        have hde := H3.out.2.2.2.2.2.2.2.1
        rw [hno] at hde
        have hde : ed = none := hde
        rw [← HT.out.2.1, hde]
    · have q0 : ¬ (m : Int) < (n : Int) := by omega
      have HT := Lib.hid (And.intro hT (show n - m = 0 by omega))
      clear hT hl0 hpg hlt hm
      go_wp2_with (at_builtin; fail)
      go_ret
      refine ⟨(W.only_below HA.out.2.1).trans0 HT.out.1.only, .inl ⟨l, _, st, rfl, ownsRow_weak HT.out.1.own HA.out.2.1.size, fun z hz => ⟨⟨(HT.out.1.each z hz).1.1, (HT.out.1.each z hz).1.2.weak HA.out.2.1.size⟩, (HT.out.1.each z hz).2⟩, HT.out.1.rd, ?_⟩⟩
      have h1 := HT.out.1.res
      rw [HT.out.2] at h1
      exact h1
end Go.Proofs.YtilbbemdinpjcaaGreat.P
namespace Go.Proofs.YtilbbemdinpjcaaGreat.P
set_option maxRecDepth 100000
open Go.RowKit Go.Sort
def entriesD (xs : List UInt8) (st : Option Nat) : Option (List (Rf × OutV) × Option Nat) := rowE xs (W.numV xs st 4) [] (W.numS xs st 4)
theorem entsG_forms {f : FuncId} {args : Array Value} {V w : World} {g k : Nat} {xs : List UInt8} {c : Nat} {o : Option (List (Rf × OutV) × Option Nat)} (h : Calls Tryz.prog f args V (EntsG g k xs c w o)) :
  Calls Tryz.prog f args V fun e w' => (∃ v, e = .returned v ∧ (W.Only g w w' none ∧ ∃ l st, w'.ownsRow w.heap.size 81 102 v l.length (cellsF enC l) ∧ (∀ x ∈ l, EnMem w' w.heap.size x ∧ EnFar v x) ∧ W.RSt w' g k xs c st ∧ o = some (l.map enV, st))) ∨ (∃ ch, e = .panicked ch ∧ (W.Only g w w' none ∧ Fault (.panicked ch) ∧ o = none ∧ ∃ st, W.RSt w' g k xs c st)) :=
 h.mono fun e w' hr => by
  rcases hr with ⟨h1, ⟨l, v, st, rfl, h2, h5, h3, h4⟩ | ⟨⟨n, rfl⟩, h2, h3⟩⟩
  ·
   exact .inl ⟨v, rfl, h1, l, st, h2, h5, h3, h4⟩
  ·
   exact .inr ⟨_, rfl, h1, ⟨n, rfl⟩, h2, h3⟩
theorem getterEntries_any (w : World) (g k : Nat) (xs : List UInt8) (c : Nat) (st : Option Nat) (h : W.RSt w g k xs c st) (hx : xs.length < 1000000) :
  Calls Tryz.prog 158 #[.agg #[.pointer (some ⟨g, 0, none⟩)]] w (EntsG g k xs c w (entriesD xs st)) := by
 obtain ⟨res, hres⟩ : ∃ r, r = entriesD xs st := ⟨_, rfl⟩
 rw [← hres]
 obtain ⟨hA, hb⟩ := box_one w (.pointer (some ⟨g, 0, none⟩)) 174
 obtain ⟨n, hn⟩ : ∃ n : Nat, n = W.numV xs st 4 := ⟨_, rfl⟩
 obtain ⟨s1, hs1⟩ : ∃ s, s = W.numS xs st 4 := ⟨_, rfl⟩
 have HN := Lib.hid (And.intro hn hs1)
 have HLT := Lib.hid h.lt
 have H := Lib.hid (And.intro hres (And.intro (h.below hb) (And.intro hx (show n < 9223372036854775808 by have := numV_four xs st; omega))))
 clear h hres hx hn hs1
 go_enter Tryz.func158, Tryz.ntmps158
 go_upto_region 1 with fail
 generalize w.alloc (.cells #[.pointer (some ⟨g, 0, none⟩)] 174) = W0 at hA hb H ⊢
 obtain ⟨p, hp⟩ : ∃ p, p = w.heap.size := ⟨_, rfl⟩
 rw [← hp] at hA ⊢
 have hpg : p ≠ g := by have := HLT.out; omega
 have HB := Lib.hid (And.intro hA (And.intro hb (And.intro hp hpg)))
 clear hA hb hp hpg
 refine wp_region_held (S := fun V => V.cell? ⟨p, 0, none⟩ = some (.pointer (some ⟨g, 0, none⟩))) (by kernel_rfl) ?_
 change wpAnyH _ _ _ _ _ 6 _ _ (World.drew W0)
 have hcur : (World.drew W0).cell? ⟨p, 0, none⟩ = some (.pointer (some ⟨g, 0, none⟩)) := HB.out.1.cell 0 rfl
 have hd : Below W0.heap.size W0 W0.drew := (Below.refl _ _).drew
 have hr0 := H.out.2.1.below hd
 have ho0 : W.Only g W0 W0.drew none := W.only_below hd
 refine tk 0 (.agg #[.pointer (some ⟨g, 0, none⟩)]) 3 rfl rfl hcur ?_ (by intro w' hS'; unfold execOp; simp [go_sem, hS'])
 refine tk 1 (.pointer (some ⟨p, 0, none⟩)) 4 rfl rfl hcur ?_
 refine tk 2 (.pointer (some ⟨g, 0, none⟩)) 5 rfl rfl hcur ?_ (by intro w' hS'; unfold execOp; simp [go_sem, hS'])
 generalize W0.drew = U0 at hcur hr0 ho0 ⊢
 clear hd
 refine held_one (i := 3) (by kernel_rfl) _ rfl (wpOp_callG rfl (by rfl) 6 rfl 224 #[.pointer (some ⟨g, 0, none⟩)] (by unfold execOp; simp [go_sem]) (fun v w' => v = .int .i64 (n : Int) ∧ W.RSt w' g k xs c s1 ∧ W.Only g U0 w' none) ((W.ask54_st U0 g k xs c st hr0).mono fun e w' k => ⟨_, k.1, by rw [HN.out.1], by rw [HN.out.2]; exact k.2.1, k.2.2⟩) ?_)
 rintro _ U1 ⟨rfl, hr1, hn⟩
 have hcur := (onlyCell hn (Nat.lt_of_lt_of_le HB.out.1.lt ho0.size) HB.out.2.2.2).trans hcur
 have ho1 := ho0.trans0 hn
 refine ⟨hcur, ?_⟩
 simp only [Act.put, List.setIfInBounds_toArray, List.set_cons_zero, List.set_cons_succ]
 clear hn hr0 ho0
 have hfin : ∀ o, o = rowE xs n [] s1 → res = o := fun o e => by rw [e, H.out.1, HN.out.1, HN.out.2]; rfl
 refine held_one (i := 4) (by kernel_rfl) _ rfl (wpOp_callP rfl (by rfl) 7 rfl 231 #[.agg #[.pointer (some ⟨g, 0, none⟩)], .int .i64 (n : Int), .func (Fn.func 232) #[] #[]] (by unfold execOp; simp [go_sem]) _ _ (entsG_forms (rowEntry_any U1 g k xs c s1 n hr1 H.out.2.2.1 H.out.2.2.2)) ?_ ?_)
 ·
  rintro v U2 ⟨hn, l, s2, hown, hea, hr2, hres⟩
  have hcur := (onlyCell hn (Nat.lt_of_lt_of_le HB.out.1.lt ho1.size) HB.out.2.2.2).trans hcur
  have ho2 := ho1.trans0 hn
  have HF := Lib.hid (And.intro (ownsRow_weak hown (Nat.le_trans HB.out.2.1.size ho1.size)) (And.intro hr2 (And.intro ((W.only_below HB.out.2.1).trans0 ho2) (And.intro (hfin _ hres.symm) (show ∀ x ∈ l, EnMem U2 w.heap.size x ∧ EnFar v x from fun x hx => ⟨⟨(hea x hx).1.1, (hea x hx).1.2.weak (Nat.le_trans HB.out.2.1.size ho1.size)⟩, (hea x hx).2⟩)))))
  refine ⟨hcur, ?_⟩
  simp only [Act.put, List.setIfInBounds_toArray, List.set_cons_zero, List.set_cons_succ]
  refine tk 5 v 2 rfl rfl hcur ?_
  refine held_done (by kernel_rfl) ?_
  clear hn hr1 ho1 ho2 hown hr2 hcur hres hfin hea
  go_wp2_with fail
  go_ret
  exact ⟨HF.out.2.2.1, .inl ⟨l, v, s2, rfl, HF.out.1, HF.out.2.2.2.2, HF.out.2.1, HF.out.2.2.2.1⟩⟩
 ·
  rintro ch U2 ⟨hn, hf, hres, s2, hr2⟩
  have ho2 := (W.only_below HB.out.2.1).trans0 (ho1.trans0 hn)
  show bodyPost Tryz.prog Tryz.f158 _ (Exit.panic _) _ _
  exact ⟨rfl, ho2, .inr ⟨hf, hfin _ hres.symm, s2, hr2⟩⟩
end Go.Proofs.YtilbbemdinpjcaaGreat.P
