/-
  A list more in the bag (133, 90, 62); bundles, and the lists within them, lie apart (21).
  Bundles, and the lists within them, lie apart (21): one row of bundles, whose rows of assets are the call's own.
  A list of totals more in the bag (73); rows of totals lie apart (33).
  Two rows of totals, each told anew, lie apart; how many totals there are.
  A row of totals that is lent (74).
  A row of totals that was lent is as it was (83).
-/
import Derived.Test.YtjngghihciimjaaGreatJBq
import Derived.Test.YtjngghihciimjaaGreatJBt
import Derived.Test.YtjngghihciimjaaGreatJRd
import Derived.Test.YtjngghihciimjaaGreatJAt
import Derived.Laws.MakeOwn
import Derived.Test.YtjngghihciimjaaGreatJAwt
namespace Go.Proofs.YtjngghihciimjaaGreat
set_option maxRecDepth 100000
open Go.RowKit Go.Sort Go.Maps

attribute [-go_sem] Instr.build
theorem infoRA : (Tryz.prog.info? 22).map (fun i => (i.zero, i.size, i.bytes)) = some (some (.slice none 0 0), 1, 24) := by kernel_rfl
theorem infoRV : (Tryz.prog.info? 28).map (fun i => (i.zero, i.size, i.bytes)) = some (some (.slice none 0 0), 1, 24) := by kernel_rfl
theorem info_partsZ {P : Program} {t : TypeId} {z : Value} {k b : Nat} (h : (P.info? t).map (fun i => (i.zero, i.size, i.bytes)) = some (some z, k, b)) : ∃ i, P.info? t = some i ∧ i.zero = some z ∧ i.size = k ∧ i.bytes = b := by
  cases hi : P.info? t with
  | none => rw [hi] at h; simp at h
  | some i =>
    rw [hi] at h
    simp only [Option.map_some, Option.some.injEq, Prod.mk.injEq] at h
    exact ⟨i, rfl, h.1, h.2.1, h.2.2⟩
theorem own_keptO {w w' : World} {base : Nat} {e : TypeId} {size n : Nat} {u : Value} {xs : List Value} {o : Option Nat} (h : w.ownsRow base e size u n xs) (hg : w.grownBy w' o) (hne : ∀ g, u.ownBlock = some g → o ≠ some g) :
    w'.ownsRow base e size u n xs := by
  refine h.kept hg ?_
  cases hu : u.ownBlock with
  | none => exact .inl rfl
  | some g => exact .inr (fun e => hne g hu e.symm)
theorem old_of_alloc {w u : World} {o : Obj} {r : Option Nat} (h : (w.alloc o).grownBy u r) (g : Nat) (hg : g < w.heap.size) (hn : some g ≠ r) : u.heap[g]? = w.heap[g]? :=
  (h.block g (Nat.lt_of_lt_of_le hg (World.grownBy_alloc w o none).size) hn).trans (Below.heap_alloc w o g hg)
/-- A row whose block stands as it was. -/
theorem own_blockO {w w' : World} {base : Nat} {e : TypeId} {size n : Nat} {u : Value} {xs : List Value} (h : w.ownsRow base e size u n xs) (hk : ∀ g, u.ownBlock = some g → w'.heap[g]? = w.heap[g]?) : w'.ownsRow base e size u n xs := by
  refine ⟨h.1, ?_⟩
  rcases h.2 with hn | ⟨g, cap, cur, h1, h2, h3, h4⟩
  · exact .inl hn
  · exact .inr ⟨g, cap, cur, h1, h2, (hk g (by rw [h1]; rfl)).trans h3, h4⟩
/-- Rows of two types are two. -/
theorem rows_apart {w : World} {b1 b2 : Nat} {e1 e2 : TypeId} {s1 s2 n1 n2 : Nat} {u1 u2 : Value} {x1 x2 : List Value} (h1 : w.ownsRow b1 e1 s1 u1 n1 x1) (h2 : w.ownsRow b2 e2 s2 u2 n2 x2) (hne : e1 ≠ e2) (g : Nat) (hg : u2.ownBlock = some g) : some g ≠ u1.ownBlock := by
  rcases h2.2 with ⟨h, _⟩ | ⟨g2, cap, cur, h, _, h3, _⟩
  · rw [h] at hg; cases hg
  · rw [h] at hg
    have : g2 = g := Option.some.inj hg
    subst this
    exact ownsRow_far h1 (show Lies w g2 cur e2 from h3) (fun e => hne e.symm)
/-- What a list more leaves: the bag has it, nothing else turns. -/
def PutA (w w' : World) (B base Bg : Nat) (a v : Value) (vs : List Value) (x : Value) : Prop :=
  ∃ a', Lies w' Bg (bagAV a' v) 116 ∧ w'.ownsRow base 22 1 a' (vs.length + 1) (vs ++ [x]) ∧ Below B w w' ∧ base ≤ w'.heap.size ∧ ∀ g, g < w.heap.size → g ≠ Bg → some g ≠ a.ownBlock → w'.heap[g]? = w.heap[g]?
set_option maxHeartbeats 2000000 in
theorem putA_any (w : World) (B base Bg : Nat) (vs : List Value) (ua v : Value) (la : Option Addr) (ln lc : Nat) (hB : B ≤ Bg) (hbb : B ≤ base) (hbs : Bg < base) (hlen : vs.length ≤ 1000) (hbw : base ≤ w.heap.size) (hbg : Lies w Bg (bagAV ua v) 116) (hr : w.ownsRow base 22 1 ua vs.length vs) :
    Calls Tryz.prog 133 #[.pointer (some ⟨Bg, 0, none⟩), .slice la ln lc] w fun e w' => e = .returned (.tuple #[]) ∧ PutA w w' B base Bg ua v vs (.slice la ln lc) := by
  obtain ⟨i0, hi0, hz0, hz1, hz2⟩ := info_partsZ infoRA
  have c7 := hbg.cell 10 (v := ua) rfl
  have hbga := hbg.alloc (.cells #[.slice la ln lc] 22)
  have hra := hr.alloc (.cells #[.slice la ln lc] 22)
  have HI := Lib.hid (And.intro hi0 (And.intro hz0 (And.intro hz1 hz2)))
  have HB := Lib.hid (And.intro hB (And.intro hbb (And.intro hbs (And.intro hlen hbw))))
  have HA := Lib.hid (And.intro hbga hra)
  clear hbg hr hbga hra hi0 hz0 hz1 hz2 hB hbb hbs hlen hbw
  go_enter Tryz.func133, Tryz.ntmps133
  go_wp2_with (first
    | (at_builtin; go_must (refine wpList_append_own _ rfl _ _ 98 rfl base 22 i0 (.slice none 0 0) 1 24 Tryz.underlying98 HI.out.1 HI.out.2.1 HI.out.2.2.1 HI.out.2.2.2 rfl (by decide) ua vs.length vs rfl HA.out.2 ⟨w.heap.size, 0, none⟩ 1 1 [.slice la ln lc] rfl rfl (cell_one_new _ _ _) (by simp; rfl) (by have := HB.out.2.2.2.1; unfold maxLen; omega) (by have := HB.out.2.2.2.1; omega) (by have := HB.out.2.2.2.2; simp; omega) ?_)
       intro v' w7 hown hgrow hnil
       have hne : v'.ownBlock ≠ some Bg := fun e => by have := hown.lt Bg e; have := HB.out.2.2.1; omega
       have hl7 : Lies w7 Bg (bagAV ua v) 116 := (hgrow.block Bg HA.out.1.lt (fun e => by have := (HA.out.2.lt Bg e.symm).1; have := HB.out.2.2.1; omega)).trans HA.out.1
       have hb7 : Below B w w7 := ((Below.refl _ _).alloc (Nat.le_trans HB.out.2.1 HB.out.2.2.2.2) _).grown hgrow (by have := HB.out.2.2.2.2; have := HB.out.2.1; simp; omega) (fun j e => by have := (HA.out.2.lt j e).1; have := HB.out.2.1; omega)
       have hs7 : base ≤ w7.heap.size := by have := hgrow.size; have := HB.out.2.2.2.2; simp at *; omega
       have ho7 : ∀ g, g < w.heap.size → some g ≠ ua.ownBlock → w7.heap[g]? = w.heap[g]? := fun g hg hn => old_of_alloc hgrow g hg hn
       have hsh : ∃ g c, v' = .slice (some ⟨g, 0, none⟩) (vs.length + 1) c := by
         rcases hown.2 with ⟨_, h0⟩ | ⟨g, cap, cur, rfl, _⟩
         · omega
         · exact ⟨g, cap, rfl⟩
       obtain ⟨g, c, rfl⟩ := hsh
       have H7 := Lib.hid (And.intro hown (And.intro hl7 (And.intro hb7 (And.intro hs7 (And.intro hne ho7)))))
       have c8 := hl7.cell 10 (v := ua) rfl
       have f8 := hl7.free 10
       clear hown hgrow hnil hl7 hb7 hs7 hne ho7))
  go_end0
  refine ⟨rfl, _, H7.out.2.1.set 10 _, ?_, H7.out.2.2.1.setCell (p := ⟨Bg, 10, none⟩) HB.out.1 _, by rw [size_set]; exact H7.out.2.2.2.1, fun g hg hn hn2 => (Below.heap_setCell _ _ _ _ (by exact hn)).trans (H7.out.2.2.2.2.2 g hg hn2)⟩
  exact own_keptO H7.out.1 (grownBy_set w7 Bg 10 _) (fun x hx e => H7.out.2.2.2.2.1 (by rw [hx, e]))
set_option maxHeartbeats 2000000 in
theorem oneV_any (w : World) (B base Bg : Nat) (vs : List Value) (a v : Value) (x : Int) (la : Option Addr) (ln lc : Nat) (hB : B ≤ Bg) (hbb : B ≤ base) (hbs : Bg < base) (hlen : vs.length ≤ 1000) (hbw : base ≤ w.heap.size) (hbg : Lies w Bg (bagAV a v) 116) (hr : w.ownsRow base 22 1 a vs.length vs) :
    Calls Tryz.prog 90 #[.pointer (some ⟨Bg, 0, none⟩), .agg #[.int .i64 x, .slice la ln lc]] w fun e w' => e = .returned (.tuple #[]) ∧ PutA w w' B base Bg a v vs (.slice la ln lc) := by
  have hL : Lies (w.alloc (.cells #[.int .i64 x, .slice la ln lc] 24)) w.heap.size #[.int .i64 x, .slice la ln lc] 24 := Lies.new _ _ _
  have hb0 : Below w.heap.size w (w.alloc (.cells #[.int .i64 x, .slice la ln lc] 24)) := (Below.refl _ _).alloc (Nat.le_refl _) _
  have hp := putA_any (w.alloc (.cells #[.int .i64 x, .slice la ln lc] 24)) B base Bg vs a v la ln lc hB hbb hbs hlen (Nat.le_trans hbw hb0.size) (hbg.below hb0 hbg.lt) (hr.alloc _)
  have c1 := hL.cell 1 (v := .slice la ln lc) rfl
  have H := Lib.hid (And.intro hp (And.intro hb0 (show B ≤ w.heap.size by omega)))
  clear hL hb0 hp hB hbb hbs hlen hbw hbg hr
  go_enter Tryz.func90, Tryz.ntmps90
  go_wp2_with (go_at_call 133; refine H.out.1.mono ?_; rintro e w5 ⟨rfl, hpa⟩)
  go_end0
  obtain ⟨a', h1, h2, h3, h4, h5⟩ := hpa
  exact ⟨rfl, a', h1, h2, (H.out.2.1.mono H.out.2.2).trans h3, h4, fun g hg hn hn2 => (h5 g (Nat.lt_of_lt_of_le hg H.out.2.1.size) hn hn2).trans (H.out.2.1.block g hg)⟩
/-- The slices of the first k bundles. -/
def slK (vs : List Va) (k : Nat) : List Value := (vs.take k).map fun v => .slice v.pa v.l.length v.c
theorem slK_length (vs : List Va) (k : Nat) (h : k ≤ vs.length) : (slK vs k).length = k := by simp [slK, h]
theorem slK_succ (vs : List Va) (k : Nat) (v : Va) (h : vs[k]? = some v) : slK vs (k + 1) = slK vs k ++ [.slice v.pa v.l.length v.c] := by
  unfold slK
  rw [List.take_add_one, h]
  simp
/-- The rows of bundles in the bag: of assets those of the first k, of bundles one. -/
structure InBag (w W : World) (B base Bg : Nat) (vs : List Va) (k : Nat) (x : Value) : Prop where
  bag : ∃ a v, Lies W Bg (bagAV a v) 116 ∧ W.ownsRow base 22 1 a k (slK vs k) ∧ W.ownsRow base 28 1 v 1 [x]
  below : Below B w W
  size : base ≤ W.heap.size
  old : ∀ g, g < w.heap.size → g ≠ Bg → W.heap[g]? = w.heap[g]?
set_option maxHeartbeats 4000000 in
theorem putV_any (w : World) (B base Bg V0 cV : Nat) (vs : List Va) (hB : B ≤ Bg) (hbb : B ≤ base) (hbs : Bg < base) (hlen : vs.length ≤ 1000) (hbw : base = w.heap.size) (hbg : Lies w Bg (bagAV (.slice none 0 0) (.slice none 0 0)) 116) (hV0 : V0 < w.heap.size) (hVB : V0 ≠ Bg) (hv : ∀ (i : Nat) (v : Va), vs[i]? = some v → w.rangeAt V0 (i * 2) (vaC v).toList) :
    Calls Tryz.prog 62 #[.pointer (some ⟨Bg, 0, none⟩), .slice (some ⟨V0, 0, none⟩) vs.length cV] w fun e w' => e = .returned (.tuple #[]) ∧ InBag w w' B base Bg vs vs.length (.slice (some ⟨V0, 0, none⟩) vs.length cV) := by
  obtain ⟨n, hn⟩ : ∃ n, n = vs.length := ⟨_, rfl⟩
  rw [← hn] at hlen ⊢
  obtain ⟨i0, hi0, hz0, hz1, hz2⟩ := info_partsZ infoRV
  have c7 := hbg.cell 11 (v := .slice none 0 0) rfl
  have hbga := hbg.alloc (.cells #[.slice (some ⟨V0, 0, none⟩) n cV] 28)
  have HI := Lib.hid (And.intro hi0 (And.intro hz0 (And.intro hz1 hz2)))
  have HB := Lib.hid (And.intro hB (And.intro hbb (And.intro hbs (And.intro hlen hbw))))
  have HA := Lib.hid hbga
  have HV := Lib.hid (And.intro hV0 (And.intro hVB (And.intro hv hn)))
  have q1 : (n : Int) ≤ 1000 := by omega
  have q0 : (0 : Int) ≤ (n : Int) := by omega
  clear hbg hbga hi0 hz0 hz1 hz2 hB hbb hbs hlen hbw hV0 hVB hv hn
  go_enter Tryz.func62, Tryz.ntmps62
  go_upto_region 1 with (first
    | (at_builtin; go_must (refine wpList_append_own _ rfl _ _ 40 rfl base 28 i0 (.slice none 0 0) 1 24 Tryz.underlying40 HI.out.1 HI.out.2.1 HI.out.2.2.1 HI.out.2.2.2 rfl (by decide) (.slice none 0 0) 0 [] rfl (World.ownsRow_nil _ _ _ _) ⟨w.heap.size, 0, none⟩ 1 1 [.slice (some ⟨V0, 0, none⟩) n cV] rfl rfl (cell_one_new _ _ _) (by simp; rfl) (by unfold maxLen; omega) (by omega) (by have := HB.out.2.2.2.2; simp; omega) ?_)
       intro v' w7 hown hgrow hnil
       have hne : v'.ownBlock ≠ some Bg := fun e => by have := hown.lt Bg e; have := HB.out.2.2.1; omega
       have hl7 : Lies w7 Bg (bagAV (.slice none 0 0) (.slice none 0 0)) 116 := (hgrow.block Bg HA.out.lt (fun e => by cases e)).trans HA.out
       have hb7 : Below B w w7 := ((Below.refl _ _).alloc (by have := HB.out.2.2.2.2; have := HB.out.2.1; omega) _).grown hgrow (by have := HB.out.2.2.2.2; have := HB.out.2.1; simp; omega) (fun j e => by cases e)
       have hs7 : base ≤ w7.heap.size := by have := hgrow.size; have := HB.out.2.2.2.2; simp at *; omega
       have ho7 : ∀ g, g < w.heap.size → w7.heap[g]? = w.heap[g]? := fun g hg => old_of_alloc hgrow g hg (fun e => by cases e)
       have hsh : ∃ g c, v' = .slice (some ⟨g, 0, none⟩) 1 c := by
         rcases hown.2 with ⟨_, h0⟩ | ⟨g, cap, cur, rfl, _⟩
         · omega
         · exact ⟨g, cap, rfl⟩
       obtain ⟨g, c, rfl⟩ := hsh
       have H7 := Lib.hid (And.intro hown (And.intro hl7 (And.intro hb7 (And.intro hs7 (And.intro hne ho7)))))
       have c8 := hl7.cell 11 (v := .slice none 0 0) rfl
       have f8 := hl7.free 11
       clear hown hgrow hnil hl7 hb7 hs7 hne ho7))
  have hin : InBag w (w7.setCell ⟨Bg, 11, none⟩ (.slice (some ⟨g, 0, none⟩) 1 c)) B base Bg vs 0 (.slice (some ⟨V0, 0, none⟩) n cV) :=
    ⟨⟨_, _, H7.out.2.1.set 11 _, World.ownsRow_nil _ _ _ _, own_keptO H7.out.1 (grownBy_set w7 Bg 11 _) (fun x hx e => H7.out.2.2.2.2.1 (by rw [hx, e]))⟩, H7.out.2.2.1.setCell (p := ⟨Bg, 11, none⟩) HB.out.1 _, by rw [size_set]; exact H7.out.2.2.2.1, fun g hg hn => (Below.heap_setCell _ _ _ _ (by exact hn)).trans (H7.out.2.2.2.2.2 g hg)⟩
  clear c8 f8 c7
  generalize w7.setCell ⟨Bg, 11, none⟩ (.slice (some ⟨g, 0, none⟩) 1 c) = W0 at hin ⊢
  have HIN := Lib.hid hin
  clear hin
  go_wp2_with fail
  go_loopw [4] (fun i W => ∃ k : Nat, k ≤ n ∧ i = .int .i64 k ∧ InBag w W B base Bg vs k (.slice (some ⟨V0, 0, none⟩) n cV)) (fun i _ => n - (intOf i).toNat)
  case atStart => exact ⟨0, by omega, rfl, HIN.out⟩
  case round =>
    obtain ⟨k, hk, rfl, hin⟩ := hrel
    by_cases hlt : k < n
    · have m1 : (k : Int) < (n : Int) := by omega
      have m1n : k < n := hlt
      have m0 : (0 : Int) ≤ (k : Int) := by omega
      obtain ⟨y, hy⟩ : ∃ y, vs[k]? = some y := ⟨vs[k]'(by have := HV.out.2.2.2; omega), List.getElem?_eq_getElem _⟩
      have hrg : wr.rangeAt V0 (k * 2) (vaC y).toList := fun j u hu => (cell_block (hin.old V0 HV.out.1 HV.out.2.1) _).trans (HV.out.2.2.1 k y hy j u hu)
      obtain ⟨a, v, hl, hra, hrv⟩ := hin.bag
      have hsl : (slK vs k).length = k := slK_length vs k (by have := HV.out.2.2.2; omega)
      have hone := oneV_any wr B base Bg (slK vs k) a v y.coin y.pa y.l.length y.c HB.out.1 HB.out.2.1 HB.out.2.2.1 (by have := HB.out.2.2.2.1; omega) hin.size hl (by rw [hsl]; exact hra)
      have HR := Lib.hid (And.intro hone (And.intro hrg (And.intro hlt (And.intro hin (And.intro hrv (And.intro hra (And.intro hsl hy)))))))
      clear hone hrg hlt hin hrv hra hsl hy hk hl
      go_wp2_with (first
        | (refine wpList_load_mid rfl 24 _ rfl V0 (k * 2) rfl (vaC y).toList _ HR.out.2.1 Tryz.underlying24 rfl (by rw [Array.length_toList]; exact info_value) ?_)
        | (go_at_call 90; refine HR.out.1.mono ?_; rintro e w5 ⟨rfl, hpa⟩))
      obtain ⟨a', h1, h2, h3, h4, h5⟩ := hpa
      have hfin : InBag w w5 B base Bg vs (k + 1) (.slice (some ⟨V0, 0, none⟩) n cV) := by
        refine ⟨⟨a', v, h1, ?_, ?_⟩, HR.out.2.2.2.1.below.trans h3, h4, fun g hg hn => ?_⟩
        · rw [slK_succ vs k y HR.out.2.2.2.2.2.2.2, HR.out.2.2.2.2.2.2.1] at *
          exact h2
        · refine own_blockO HR.out.2.2.2.2.1 (fun g hg => h5 g (HR.out.2.2.2.2.1.lt g hg).2 (by have := (HR.out.2.2.2.2.1.lt g hg).1; have := HB.out.2.2.1; omega) ?_)
          exact rows_apart HR.out.2.2.2.2.2.1 HR.out.2.2.2.2.1 (by decide) g hg
        · have hga : some g ≠ a.ownBlock := fun e => by have := (HR.out.2.2.2.2.2.1.lt g e.symm).1; have := HB.out.2.2.2.2; omega
          exact (h5 g (Nat.lt_of_lt_of_le hg HR.out.2.2.2.1.below.size) hn hga).trans (HR.out.2.2.2.1.old g hg hn)
      have HF := Lib.hid hfin
      clear hfin h1 h2 h3 h4 h5
      go_wp2_with fail
      refine ⟨⟨k + 1, by have := HR.out.2.2.1; omega, by go_num, HF.out⟩, ?_⟩
      have := HR.out.2.2.1
      simp [intOf]; omega
    · obtain rfl : k = n := by omega
      have m1 : decide ((k : Int) < (k : Int)) = false := by simp
      have m1n : ¬ k < k := by omega
      have HF := Lib.hid hin
      clear hin hlt hk
      go_wp2_with fail
      go_end0
      exact ⟨rfl, HF.out⟩
end Go.Proofs.YtjngghihciimjaaGreat
namespace Go.Proofs.YtjngghihciimjaaGreat
set_option maxRecDepth 100000
open Go.RowKit Go.Sort Go.Maps

def paOf (vs : List Va) (k : Nat) : Option Addr := match vs[k]? with | some v => v.pa | none => none
def lenOf (vs : List Va) (k : Nat) : Nat := match vs[k]? with | some v => v.l.length | none => 0
def capOf (vs : List Va) (k : Nat) : Nat := match vs[k]? with | some v => v.c | none => 0
def blkOf (vs : List Va) (k : Nat) : Nat := match paOf vs k with | some p => p.block | none => 0
/-- A row of bundles whose rows of assets are all in blocks of their own, from block B on. -/
structure RowO (w : World) (B V0 cV : Nat) (vs : List Va) : Prop where
  blk : Blk 24 2 w V0 cV
  room : vs.length ≤ cV ∧ cV ≤ maxLen ∧ B ≤ V0
  holds : ∀ (i : Nat) (v : Va), vs[i]? = some v → w.rangeAt V0 (i * 2) (vaC v).toList
  own : ∀ (i : Nat) (v : Va), vs[i]? = some v → OwnAs w B (.slice v.pa v.l.length v.c) v.l
  few : ∀ (i : Nat) (v : Va), vs[i]? = some v → v.l.length ≤ 100000
  apart : ∀ (i j : Nat), i < vs.length → j < vs.length → i ≠ j → paOf vs i ≠ none → paOf vs j ≠ none → blkOf vs i ≠ blkOf vs j
theorem own_blk {w : World} {B : Nat} {v : Va} (h : OwnAs w B (.slice v.pa v.l.length v.c) v.l) : (v.pa = none ∧ v.l.length = 0 ∧ v.c = 0) ∨ ∃ g, v.pa = some ⟨g, 0, none⟩ ∧ v.l.length ≤ v.c ∧ v.c ≤ maxLen ∧ B ≤ g ∧ Blk 38 34 w g v.c := by
  rcases h.2 with ⟨h1, h2⟩ | ⟨g, cap, cur, h1, h2, h3, h4, h5, h6, _⟩
  · simp only [Value.slice.injEq] at h1
    exact .inl ⟨h1.1, h1.2.1, h1.2.2⟩
  · simp only [Value.slice.injEq, true_and] at h1
    obtain ⟨e1, e2⟩ := h1
    rw [← e2] at h4 h5 h6
    exact .inr ⟨g, e1, h4, h5, h2, cur, h3, h6⟩
theorem blk_apart {w : World} {e1 e2 : TypeId} {s1 s2 g1 g2 c1 c2 : Nat} (h1 : Blk e1 s1 w g1 c1) (h2 : Blk e2 s2 w g2 c2) (hne : e1 ≠ e2) : g1 ≠ g2 := by
  rintro rfl
  obtain ⟨a, ha, _⟩ := h1
  obtain ⟨b, hb, _⟩ := h2
  unfold Lies at ha hb
  rw [ha] at hb
  simp only [Option.some.injEq, Obj.cells.injEq] at hb
  exact hne hb.2.1
theorem RowO.at {w : World} {B V0 cV : Nat} {vs : List Va} (h : RowO w B V0 cV vs) {k : Nat} (hk : k < vs.length) :
    (paOf vs k = none ∧ lenOf vs k = 0 ∧ capOf vs k = 0) ∨ (paOf vs k = some ⟨blkOf vs k, 0, none⟩ ∧ lenOf vs k ≤ capOf vs k ∧ capOf vs k ≤ maxLen ∧ B ≤ blkOf vs k ∧ Blk 38 34 w (blkOf vs k) (capOf vs k)) := by
  have hv : vs[k]? = some vs[k] := List.getElem?_eq_getElem hk
  unfold blkOf paOf lenOf capOf
  rw [hv]
  rcases own_blk (h.own k _ hv) with h1 | ⟨g, h1, h2, h3, h4, h5⟩
  · exact .inl h1
  · refine .inr ?_
    simp only [h1]
    exact ⟨trivial, h2, h3, h4, h5⟩
theorem slK_get (vs : List Va) (k : Nat) (hk : k < vs.length) : (slK vs vs.length)[k]? = some (.slice (paOf vs k) (lenOf vs k) (capOf vs k)) := by
  have hv : vs[k]? = some vs[k] := List.getElem?_eq_getElem hk
  unfold slK paOf lenOf capOf
  rw [hv, List.take_length, List.getElem?_map, hv]
  rfl
attribute [-go_sem] Instr.build
theorem build_bag (w : World) : (Instr.build 116 #[]).run Tryz.prog w = .ok (.agg (bagAV (.slice none 0 0) (.slice none 0 0))) w := run_build w 116 _ _ (by kernel_rfl)
set_option maxHeartbeats 4000000 in
theorem apartV_any (w : World) (L0 c0 B V0 cV : Nat) (vs : List Va) (hL0 : L0 < w.heap.size) (hc : w.cell? ⟨L0, 0, none⟩ = some (.slice (some ⟨V0, 0, none⟩) vs.length cV)) (h : RowO w B V0 cV vs) (hn : 0 < vs.length) (hfew : vs.length ≤ 1000) (hB : B ≤ w.heap.size) :
    Calls Tryz.prog 21 #[.slice (some ⟨L0, 0, none⟩) 1 c0] w fun e w' => e = .returned (.bool true) ∧ Below B w w' := by
  have hb0 : Below w.heap.size w (w.alloc (.cells (bagAV (.slice none 0 0) (.slice none 0 0)) 116)) := (Below.refl _ _).alloc (Nat.le_refl _) _
  have hbg : Lies (w.alloc (.cells (bagAV (.slice none 0 0) (.slice none 0 0)) 116)) w.heap.size (bagAV (.slice none 0 0) (.slice none 0 0)) 116 := Lies.new _ _ _
  have hsz : (w.alloc (.cells (bagAV (.slice none 0 0) (.slice none 0 0)) 116)).heap.size = w.heap.size + 1 := by simp
  have hbld := build_bag
  have HBG := Lib.hid (And.intro hb0 (And.intro hbg hsz))
  have H := Lib.hid (And.intro hL0 (And.intro hc (And.intro h (And.intro hn (And.intro hfew hB)))))
  clear hb0 hbg hsz hL0 hc h hn hfew hB
  go_enter Tryz.func21, Tryz.ntmps21
  go_upto_region 2 with fail
  clear hbld
  generalize w.alloc (.cells (bagAV (.slice none 0 0) (.slice none 0 0)) 116) = W0 at HBG ⊢
  obtain ⟨n, hnn⟩ : ∃ n, n = vs.length := ⟨_, rfl⟩
  have c1 := (HBG.out.1.cell (p := ⟨L0, 0, none⟩) H.out.1).trans H.out.2.1
  rw [← hnn] at c1
  have hV0 := H.out.2.2.1.blk.lt
  have hput := putV_any W0 B (w.heap.size + 1) w.heap.size V0 cV vs H.out.2.2.2.2.2 (by have := H.out.2.2.2.2.2; omega) (Nat.lt_succ_self _) H.out.2.2.2.2.1 HBG.out.2.2.symm HBG.out.2.1 (by rw [HBG.out.2.2]; omega) (by omega) (fun i v hv j u hu => (cell_block (HBG.out.1.block V0 hV0) _).trans (H.out.2.2.1.holds i v hv j u hu))
  rw [← hnn] at hput
  have HP := Lib.hid (And.intro hput hnn)
  clear hput hnn hV0
  go_wp2_with fail
  refine wp_loop_rounds 2 ?_
  rw [rounds_succ]
  go_wp2_with (go_at_call 62; refine HP.out.1.mono ?_; rintro e w5 ⟨rfl, hin⟩)
  clear c1
  have HI := Lib.hid hin
  clear hin
  go_wp2_with fail
  rw [rounds_succ]
  go_wp2_with fail
  obtain ⟨ua, uv, hl, hra, hrv⟩ := HI.out.bag
  have hbig : HI.out.below.size = HI.out.below.size := rfl
  clear hbig
  have hca := fun g (e : ua.ownBlock = some g) => hra.cells (g := g) e
  have hcv := fun g (e : uv.ownBlock = some g) => hrv.cells (g := g) e
  have hnpos := H.out.2.2.2.1
  have hnv := HP.out.2
  rcases hra.2 with ⟨_, h0⟩ | ⟨LA, cA, curA, rfl, hLA, hLAh, _⟩
  · omega
  rcases hrv.2 with ⟨_, h0⟩ | ⟨LV, cL, curV, rfl, hLV, hLVh, _⟩
  · omega
  have hca := hca LA rfl
  have hcv := hcv LV rfl
  have hold : ∀ g, g < w.heap.size → w5.heap[g]? = w.heap[g]? := fun g hg => (HI.out.old g (by rw [HBG.out.2.2]; omega) (by omega)).trans (HBG.out.1.block g hg)
  have hsz5 : w.heap.size + 1 ≤ w5.heap.size := HI.out.size
  have hro := H.out.2.2.1
  have hBw := H.out.2.2.2.2.2
  have lotA : LotsAV 38 34 w5 LA B n (paOf vs) (blkOf vs) (lenOf vs) (capOf vs) := by
    refine ⟨⟨(Array.getElem?_eq_some_iff.1 hLAh).1, fun k hk => ?_, fun k hk => ?_, fun k hk => ?_, fun i j hi hj hne => hro.apart i j (by omega) (by omega) hne, by omega⟩, by have := H.out.2.2.2.2.1; omega, fun k hk ha => ?_⟩
    · have := hca k _ (by rw [hnv]; exact slK_get vs k (by omega))
      rwa [Addr.add_mid, Nat.zero_add] at this
    · rcases hro.at (k := k) (by omega) with h1 | ⟨h1, h2, h3, h4, h5⟩
      · exact .inl h1
      · have := h5.lt
        exact .inr ⟨h1, h2, h3, h4, by omega, by omega⟩
    · have hv : vs[k]? = some (vs[k]'(by omega)) := List.getElem?_eq_getElem _
      have := hro.few k _ hv
      unfold lenOf
      rw [hv]
      exact this
    · rcases hro.at (k := k) (by omega) with h1 | ⟨_, _, _, _, cs, h5, h6⟩
      · exact absurd h1.1 ha
      · exact ⟨cs, (hold _ h5.lt).trans h5, h6⟩
  have lotV : LotsAV 24 2 w5 LV B 1 (fun _ => some ⟨V0, 0, none⟩) (fun _ => V0) (fun _ => n) (fun _ => cV) := by
    have hv0 := hro.blk.lt
    refine ⟨⟨(Array.getElem?_eq_some_iff.1 hLVh).1, fun k hk => ?_, fun k hk => .inr ⟨rfl, by rw [hnv]; exact hro.room.1, hro.room.2.1, hro.room.2.2, by omega, by omega⟩, fun k hk => by have := H.out.2.2.2.2.1; omega, fun i j hi hj hne => by omega, by omega⟩, by decide, fun k hk _ => ?_⟩
    · obtain rfl : k = 0 := by omega
      have := hcv 0 (.slice (some ⟨V0, 0, none⟩) n cV) rfl
      rwa [Addr.add_mid, Nat.zero_add] at this
    · obtain ⟨cs, h5, h6⟩ := hro.blk
      exact ⟨cs, (hold _ h5.lt).trans h5, h6⟩
  have hon : ∀ k, k < n → paOf vs k ≠ none → blkOf vs k < w.heap.size ∧ V0 ≠ blkOf vs k := fun k hk ha => by
    rcases hro.at (k := k) (by omega) with h1 | ⟨_, _, _, _, h5⟩
    · exact absurd h1.1 ha
    · exact ⟨h5.lt, blk_apart hro.blk h5 (by decide)⟩
  have hap := apartAV_any w5 w.heap.size B LA n cA (paOf vs) (blkOf vs) (lenOf vs) (capOf vs) LV 1 cL (fun _ => some ⟨V0, 0, none⟩) (fun _ => V0) (fun _ => n) (fun _ => cV) (by omega) hl lotA lotV
    (fun k hk ha => by have := (hon k hk ha).1; omega) (fun k hk _ => by have := hro.blk.lt; omega) (fun k hk ha => ⟨by have := (hon k hk ha).1; omega, fun j hj _ => (hon k hk ha).2⟩)
  have HA := Lib.hid hap
  clear hap hon lotA lotV hold hsz5 hro hBw hca hcv hnpos hnv hl hra hrv hLAh hLVh hLA hLV
  go_wp2_with (go_at_call 63; refine HA.out.mono ?_; rintro e w6 ⟨rfl, hb6⟩)
  go_ret
  exact ⟨rfl, (HBG.out.1.mono H.out.2.2.2.2.2).trans (HI.out.below.trans hb6)⟩
end Go.Proofs.YtjngghihciimjaaGreat
namespace Go.Proofs.YtjngghihciimjaaGreat
set_option maxRecDepth 100000
open Go.RowKit Go.Sort Go.Maps

attribute [-go_sem] Instr.build
theorem infoRT : (Tryz.prog.info? 49).map (fun i => (i.zero, i.size, i.bytes)) = some (some (.slice none 0 0), 1, 24) := by kernel_rfl
/-- What a list more leaves: the bag has it, nothing else turns. -/
def PutT (w w' : World) (B base Bg : Nat) (a : Value) (vs : List Value) (x : Value) : Prop :=
  ∃ a', Lies w' Bg (bagTT a') 116 ∧ w'.ownsRow base 49 1 a' (vs.length + 1) (vs ++ [x]) ∧ Below B w w' ∧ base ≤ w'.heap.size ∧ ∀ g, g < w.heap.size → g ≠ Bg → some g ≠ a.ownBlock → w'.heap[g]? = w.heap[g]?
set_option maxHeartbeats 2000000 in
theorem putT_any (w : World) (B base Bg : Nat) (vs : List Value) (ua : Value) (la : Option Addr) (ln lc : Nat) (hB : B ≤ Bg) (hbb : B ≤ base) (hbs : Bg < base) (hlen : vs.length ≤ 1000) (hbw : base ≤ w.heap.size) (hbg : Lies w Bg (bagTT ua) 116) (hr : w.ownsRow base 49 1 ua vs.length vs) :
    Calls Tryz.prog 73 #[.pointer (some ⟨Bg, 0, none⟩), .slice la ln lc] w fun e w' => e = .returned (.tuple #[]) ∧ PutT w w' B base Bg ua vs (.slice la ln lc) := by
  obtain ⟨i0, hi0, hz0, hz1, hz2⟩ := info_partsZ infoRT
  have c7 := hbg.cell 23 (v := ua) rfl
  have hbga := hbg.alloc (.cells #[.slice la ln lc] 49)
  have hra := hr.alloc (.cells #[.slice la ln lc] 49)
  have HI := Lib.hid (And.intro hi0 (And.intro hz0 (And.intro hz1 hz2)))
  have HB := Lib.hid (And.intro hB (And.intro hbb (And.intro hbs (And.intro hlen hbw))))
  have HA := Lib.hid (And.intro hbga hra)
  clear hbg hr hbga hra hi0 hz0 hz1 hz2 hB hbb hbs hlen hbw
  go_enter Tryz.func73, Tryz.ntmps73
  go_wp2_with (first
    | (at_builtin; go_must (refine wpList_append_own _ rfl _ _ 58 rfl base 49 i0 (.slice none 0 0) 1 24 Tryz.underlying58 HI.out.1 HI.out.2.1 HI.out.2.2.1 HI.out.2.2.2 rfl (by decide) ua vs.length vs rfl HA.out.2 ⟨w.heap.size, 0, none⟩ 1 1 [.slice la ln lc] rfl rfl (cell_one_new _ _ _) (by simp; rfl) (by have := HB.out.2.2.2.1; unfold maxLen; omega) (by have := HB.out.2.2.2.1; omega) (by have := HB.out.2.2.2.2; simp; omega) ?_)
       intro v' w7 hown hgrow hnil
       have hne : v'.ownBlock ≠ some Bg := fun e => by have := hown.lt Bg e; have := HB.out.2.2.1; omega
       have hl7 : Lies w7 Bg (bagTT ua) 116 := (hgrow.block Bg HA.out.1.lt (fun e => by have := (HA.out.2.lt Bg e.symm).1; have := HB.out.2.2.1; omega)).trans HA.out.1
       have hb7 : Below B w w7 := ((Below.refl _ _).alloc (Nat.le_trans HB.out.2.1 HB.out.2.2.2.2) _).grown hgrow (by have := HB.out.2.2.2.2; have := HB.out.2.1; simp; omega) (fun j e => by have := (HA.out.2.lt j e).1; have := HB.out.2.1; omega)
       have hs7 : base ≤ w7.heap.size := by have := hgrow.size; have := HB.out.2.2.2.2; simp at *; omega
       have ho7 : ∀ g, g < w.heap.size → some g ≠ ua.ownBlock → w7.heap[g]? = w.heap[g]? := fun g hg hn => old_of_alloc hgrow g hg hn
       have hsh : ∃ g c, v' = .slice (some ⟨g, 0, none⟩) (vs.length + 1) c := by
         rcases hown.2 with ⟨_, h0⟩ | ⟨g, cap, cur, rfl, _⟩
         · omega
         · exact ⟨g, cap, rfl⟩
       obtain ⟨g, c, rfl⟩ := hsh
       have H7 := Lib.hid (And.intro hown (And.intro hl7 (And.intro hb7 (And.intro hs7 (And.intro hne ho7)))))
       have c8 := hl7.cell 23 (v := ua) rfl
       have f8 := hl7.free 23
       clear hown hgrow hnil hl7 hb7 hs7 hne ho7))
  go_end0
  refine ⟨rfl, _, H7.out.2.1.set 23 _, ?_, H7.out.2.2.1.setCell (p := ⟨Bg, 23, none⟩) HB.out.1 _, by rw [size_set]; exact H7.out.2.2.2.1, fun g hg hn hn2 => (Below.heap_setCell _ _ _ _ (by exact hn)).trans (H7.out.2.2.2.2.2 g hg hn2)⟩
  exact own_keptO H7.out.1 (grownBy_set w7 Bg 23 _) (fun x hx e => H7.out.2.2.2.2.1 (by rw [hx, e]))

def paT (ts : List Tr) (k : Nat) : Option Addr := match ts[k]? with | some v => v.pa | none => none
def lenT (ts : List Tr) (k : Nat) : Nat := match ts[k]? with | some v => v.l.length | none => 0
def capT (ts : List Tr) (k : Nat) : Nat := match ts[k]? with | some v => v.c | none => 0
def blkT (ts : List Tr) (k : Nat) : Nat := match paT ts k with | some p => p.block | none => 0
/-- Rows of totals, each in a block of its own, from block B on. -/
structure RowsT (w : World) (B : Nat) (ts : List Tr) : Prop where
  own : ∀ (i : Nat) (v : Tr), ts[i]? = some v → RoomT B w v.pa v.l.length v.c
  few : ∀ (i : Nat) (v : Tr), ts[i]? = some v → v.l.length ≤ 100000
  apart : ∀ (i j : Nat), i < ts.length → j < ts.length → i ≠ j → paT ts i ≠ none → paT ts j ≠ none → blkT ts i ≠ blkT ts j
theorem RowsT.at {w : World} {B : Nat} {ts : List Tr} (h : RowsT w B ts) {k : Nat} (hk : k < ts.length) :
    (paT ts k = none ∧ lenT ts k = 0 ∧ capT ts k = 0) ∨ (paT ts k = some ⟨blkT ts k, 0, none⟩ ∧ lenT ts k ≤ capT ts k ∧ capT ts k ≤ maxLen ∧ B ≤ blkT ts k ∧ Blk 75 35 w (blkT ts k) (capT ts k)) := by
  have hv : ts[k]? = some ts[k] := List.getElem?_eq_getElem hk
  unfold blkT paT lenT capT
  rw [hv]
  rcases h.own k _ hv with h1 | ⟨g, h1, h2, h3, h4, h5⟩
  · exact .inl h1
  · refine .inr ?_
    simp only [h1]
    exact ⟨trivial, h2, h3, h4, h5⟩
/-- The slices of the first k rows. -/
def slT (ts : List Tr) (k : Nat) : List Value := (ts.take k).map fun v => .slice v.pa v.l.length v.c
theorem slT_length (ts : List Tr) (k : Nat) (h : k ≤ ts.length) : (slT ts k).length = k := by simp [slT, h]
theorem slT_succ (ts : List Tr) (k : Nat) (v : Tr) (h : ts[k]? = some v) : slT ts (k + 1) = slT ts k ++ [.slice v.pa v.l.length v.c] := by
  unfold slT
  rw [List.take_add_one, h]
  simp
theorem slT_get (ts : List Tr) (k : Nat) (hk : k < ts.length) : (slT ts ts.length)[k]? = some (.slice (paT ts k) (lenT ts k) (capT ts k)) := by
  have hv : ts[k]? = some ts[k] := List.getElem?_eq_getElem hk
  unfold slT paT lenT capT
  rw [hv, List.take_length, List.getElem?_map, hv]
  rfl
theorem build_bagT (w : World) : (Instr.build 116 #[]).run Tryz.prog w = .ok (.agg (bagTT (.slice none 0 0))) w := run_build w 116 _ _ (by kernel_rfl)
structure InBagT (w W : World) (B base Bg : Nat) (ts : List Tr) (k : Nat) : Prop where
  bag : ∃ u, Lies W Bg (bagTT u) 116 ∧ W.ownsRow base 49 1 u k (slT ts k)
  below : Below B w W
  size : base ≤ W.heap.size
  old : ∀ g, g < w.heap.size → W.heap[g]? = w.heap[g]?
set_option maxHeartbeats 4000000 in
theorem apartT_any (w : World) (L0 c0 B : Nat) (ts : List Tr) (hL0 : L0 < w.heap.size) (hc : ∀ (k : Nat) (v : Tr), ts[k]? = some v → w.cell? ⟨L0, k, none⟩ = some (.slice v.pa v.l.length v.c)) (h : RowsT w B ts) (hn : 0 < ts.length) (hfew : ts.length ≤ 1000) (hB : B ≤ w.heap.size) :
    Calls Tryz.prog 33 #[.slice (some ⟨L0, 0, none⟩) ts.length c0] w fun e w' => e = .returned (.bool true) ∧ Below B w w' ∧ ∀ g, g < w.heap.size → (∀ k, k < ts.length → paT ts k ≠ none → g ≠ blkT ts k) → w'.heap[g]? = w.heap[g]? := by
  obtain ⟨n, hnn⟩ : ∃ n, n = ts.length := ⟨_, rfl⟩
  have hb0 : Below w.heap.size w (w.alloc (.cells (bagTT (.slice none 0 0)) 116)) := (Below.refl _ _).alloc (Nat.le_refl _) _
  have hbg : Lies (w.alloc (.cells (bagTT (.slice none 0 0)) 116)) w.heap.size (bagTT (.slice none 0 0)) 116 := Lies.new _ _ _
  have hsz : (w.alloc (.cells (bagTT (.slice none 0 0)) 116)).heap.size = w.heap.size + 1 := by simp
  have hbld := build_bagT
  have q1 : (n : Int) ≤ 1000 := by omega
  have q0 : (0 : Int) ≤ (n : Int) := by omega
  have HBG := Lib.hid (And.intro hb0 (And.intro hbg hsz))
  have H := Lib.hid (And.intro hL0 (And.intro hc (And.intro h (And.intro hn (And.intro hfew (And.intro hB hnn))))))
  rw [← hnn]
  clear hb0 hbg hsz hL0 hc h hn hfew hB hnn
  go_enter Tryz.func33, Tryz.ntmps33
  go_upto_region 2 with fail
  clear hbld
  generalize w.alloc (.cells (bagTT (.slice none 0 0)) 116) = W0 at HBG ⊢
  have hst : InBagT w W0 B (w.heap.size + 1) w.heap.size ts 0 := ⟨⟨_, HBG.out.2.1, World.ownsRow_nil _ _ _ _⟩, HBG.out.1.mono H.out.2.2.2.2.2.1, by rw [HBG.out.2.2]; exact Nat.le_refl _, fun g hg => HBG.out.1.block g hg⟩
  have HST := Lib.hid hst
  clear hst HBG
  go_wp2_with fail
  go_loopw [4] (fun i W => ∃ k : Nat, k ≤ n ∧ i = .int .i64 k ∧ InBagT w W B (w.heap.size + 1) w.heap.size ts k) (fun i _ => n - (intOf i).toNat)
  case atStart => exact ⟨0, Nat.zero_le _, rfl, HST.out⟩
  case round =>
    clear HST
    obtain ⟨k, hk, rfl, hin⟩ := hrel
    by_cases hlt : k < n
    · as_aux_lemma =>
      have m1 : (k : Int) < (n : Int) := by omega
      have m1n : k < n := hlt
      have m0 : (0 : Int) ≤ (k : Int) := by omega
      obtain ⟨y, hy⟩ : ∃ y, ts[k]? = some y := ⟨ts[k]'(by have := H.out.2.2.2.2.2.2; omega), List.getElem?_eq_getElem _⟩
      have c1 := (cell_block (hin.old L0 H.out.1) k).trans (H.out.2.1 k y hy)
      obtain ⟨u, hl, hr⟩ := hin.bag
      have hsl : (slT ts k).length = k := slT_length ts k (by have := H.out.2.2.2.2.2.2; omega)
      have hput := putT_any wr B (w.heap.size + 1) w.heap.size (slT ts k) u y.pa y.l.length y.c H.out.2.2.2.2.2.1 (by have := H.out.2.2.2.2.2.1; omega) (Nat.lt_succ_self _) (by have := H.out.2.2.2.2.1; have := H.out.2.2.2.2.2.2; omega) hin.size hl (by rw [hsl]; exact hr)
      have HR := Lib.hid (And.intro hput (And.intro hlt (And.intro hin (And.intro hsl (And.intro hy hr)))))
      clear hput hlt hin hsl hy hr hl hk
      go_wp2_with (go_at_call 73; refine HR.out.1.mono ?_; rintro e w5 ⟨rfl, hpa⟩)
      obtain ⟨u', h1, h2, h3, h4, h5⟩ := hpa
      have hfin : InBagT w w5 B (w.heap.size + 1) w.heap.size ts (k + 1) := by
        refine ⟨⟨u', h1, ?_⟩, HR.out.2.2.1.below.trans h3, h4, fun g hg => ?_⟩
        · rw [slT_succ ts k y HR.out.2.2.2.2.1]
          have e := HR.out.2.2.2.1
          rw [e] at h2
          exact h2
        · have hga : some g ≠ u.ownBlock := fun e => by have := (HR.out.2.2.2.2.2.lt g e.symm).1; omega
          exact (h5 g (Nat.lt_of_lt_of_le hg HR.out.2.2.1.below.size) (by omega) hga).trans (HR.out.2.2.1.old g hg)
      have HF := Lib.hid hfin
      clear hfin h1 h2 h3 h4 h5 c1
      go_wp2_with fail
      refine ⟨⟨k + 1, by have := HR.out.2.1; omega, by go_num, HF.out⟩, ?_⟩
      have := HR.out.2.1
      simp [intOf]; omega
    · as_aux_lemma =>
      obtain rfl : k = n := by omega
      have m1 : decide ((k : Int) < (k : Int)) = false := by simp
      have m1n : ¬ k < k := by omega
      obtain ⟨u, hl, hr⟩ := hin.bag
      have hca := fun g (e : u.ownBlock = some g) => hr.cells (g := g) e
      have hnv := H.out.2.2.2.2.2.2
      have hpos := H.out.2.2.2.1
      rcases hr.2 with ⟨_, h0⟩ | ⟨LA, cA, curA, rfl, hLA, hLAh, _⟩
      · omega
      have hca := hca LA rfl
      have hro := H.out.2.2.1
      have hBw := H.out.2.2.2.2.2.1
      have hsz5 : w.heap.size + 1 ≤ wr.heap.size := hin.size
      have lotT : LotsTT 75 35 wr LA B k (paT ts) (blkT ts) (lenT ts) (capT ts) := by
        refine ⟨⟨(Array.getElem?_eq_some_iff.1 hLAh).1, fun i hi => ?_, fun i hi => ?_, fun i hi => ?_, fun i j hi hj hne => hro.apart i j (by omega) (by omega) hne, by omega⟩, by have := H.out.2.2.2.2.1; omega, fun i hi ha => ?_⟩
        · have := hca i _ (by rw [hnv]; exact slT_get ts i (by omega))
          rwa [Addr.add_mid, Nat.zero_add] at this
        · rcases hro.at (k := i) (by omega) with h1 | ⟨h1, h2, h3, h4, h5⟩
          · exact .inl h1
          · have := h5.lt
            exact .inr ⟨h1, h2, h3, h4, by omega, by omega⟩
        · have hv : ts[i]? = some (ts[i]'(by omega)) := List.getElem?_eq_getElem _
          have := hro.few i _ hv
          unfold lenT
          rw [hv]
          exact this
        · rcases hro.at (k := i) (by omega) with h1 | ⟨_, _, _, _, cs, h5, h6⟩
          · exact absurd h1.1 ha
          · exact ⟨cs, (hin.old _ h5.lt).trans h5, h6⟩
      have hap := apartTT_any wr w.heap.size B LA k cA (paT ts) (blkT ts) (lenT ts) (capT ts) (by omega) hl lotT
        (fun i hi ha => by
          rcases hro.at (k := i) (by omega) with h1 | ⟨_, _, _, _, h5⟩
          · exact absurd h1.1 ha
          · have := h5.lt; omega)
      have HA := Lib.hid (And.intro hap (And.intro hin.below hin.old))
      clear hap lotT hro hBw hca hnv hpos hl hr hLAh hLA hsz5 hin hlt hk
      go_wp2_with (go_at_call 63; refine HA.out.1.mono ?_; rintro e w6 ⟨rfl, hb6, hrest⟩)
      go_ret
      exact ⟨rfl, HA.out.2.1.trans hb6, fun g hg hn => (hrest g (Nat.lt_of_lt_of_le hg HA.out.2.1.size) (fun i hi ha => hn i hi ha)).trans (HA.out.2.2 g hg)⟩
end Go.Proofs.YtjngghihciimjaaGreat
namespace Go.Proofs.YtjngghihciimjaaGreat
set_option maxRecDepth 100000
open Go.RowKit Go.Sort Go.Maps

theorem len_sub : ∀ (l m : List Nm), l.Pairwise (fun a b => a ≠ b) → (∀ a, a ∈ l → a ∈ m) → l.length ≤ m.length
  | [], _, _, _ => Nat.zero_le _
  | a :: l, m, hp, hs => by
    obtain ⟨h1, h2⟩ := List.pairwise_cons.1 hp
    have ha : a ∈ m := hs a (by simp)
    have ih := len_sub l (m.erase a) h2 fun b hb => (List.mem_erase_of_ne (Ne.symm (h1 b hb))).2 (hs b (by simp [hb]))
    rw [List.length_erase_of_mem ha] at ih
    have : 0 < m.length := List.length_pos_of_mem ha
    rw [List.length_cons]
    omega
theorem duoT {l : List To} {p q : Option Addr} {c d n B : Nat} {w : World} (h1 : RoomT B w p l.length c) (h2 : RoomT B w q l.length d) (hl : l.length ≤ 100000) (a1 : ∀ a, p = some a → a.block < n) (a2 : ∀ a, q = some a → n ≤ a.block) : RowsT w B [⟨p, l, c⟩, ⟨q, l, d⟩] := by
  have key : paT [⟨p, l, c⟩, ⟨q, l, d⟩] 0 ≠ none → paT [⟨p, l, c⟩, ⟨q, l, d⟩] 1 ≠ none → blkT [⟨p, l, c⟩, ⟨q, l, d⟩] 0 ≠ blkT [⟨p, l, c⟩, ⟨q, l, d⟩] 1 := by
    intro ha hb
    have ha : p ≠ none := ha
    have hb : q ≠ none := hb
    cases p with
    | none => exact absurd rfl ha
    | some x =>
      cases q with
      | none => exact absurd rfl hb
      | some y =>
        have k1 := a1 x rfl
        have k2 := a2 y rfl
        show x.block ≠ y.block
        omega
  refine ⟨fun i v hv => ?_, fun i v hv => ?_, fun i j hi hj hne ha hb => ?_⟩
  · have : v = ⟨p, l, c⟩ ∨ v = ⟨q, l, d⟩ := by simpa using List.mem_of_getElem? hv
    rcases this with rfl | rfl
    · exact h1
    · exact h2
  · have : v = ⟨p, l, c⟩ ∨ v = ⟨q, l, d⟩ := by simpa using List.mem_of_getElem? hv
    rcases this with rfl | rfl
    · exact hl
    · exact hl
  · simp only [List.length_cons, List.length_nil] at hi hj
    have : (i = 0 ∧ j = 1) ∨ (i = 1 ∧ j = 0) := by omega
    rcases this with ⟨rfl, rfl⟩ | ⟨rfl, rfl⟩
    · exact key ha hb
    · exact (key hb ha).symm
/-- The block of a row that is told, where there is one. -/
theorem room_lt {B : Nat} {w : World} {p : Option Addr} {n c : Nat} (h : RoomT B w p n c) : ∀ a, p = some a → B ≤ a.block ∧ a.block < w.heap.size := fun a e => by
  rcases h with h | ⟨g, h1, _, _, h4, cs, h5, _⟩
  · rw [h.1] at e; cases e
  · rw [h1] at e; cases e; exact ⟨h4, h5.lt⟩
/-- Totals are no more than what is summed. -/
theorem tot_len {f : Nm → BitVec 128} {l : List To} {L : List Ct} (h : IsTot f (ctT l)) (e : ∀ n, f n = sumAt L n) : l.length ≤ L.length := by
  have h1 := len_sub ((ctT l).map (·.1)) (L.map (·.1)) (by
    rw [List.pairwise_map]
    exact h.rise.imp fun {p q} hpq e => by rw [e] at hpq; exact cN_irrefl _ hpq) (fun n hn => by
    obtain ⟨p, hp, rfl⟩ := List.mem_map.1 hn
    have h2 := h.says p hp
    obtain ⟨q, hq, e2⟩ := sumAt_mem (by rw [← e, ← h2.1]; exact h2.2)
    exact List.mem_map.2 ⟨q, hq, e2⟩)
  simpa [ctT] using h1
end Go.Proofs.YtjngghihciimjaaGreat
namespace Go.Proofs.YtjngghihciimjaaGreat
set_option maxRecDepth 100000
open Go.RowKit Go.Sort Go.Maps

def marksT (k : Nat) : List To := (List.range k).map fun i => mkTo 1 i
theorem marksT_succ (k : Nat) : marksT (k + 1) = marksT k ++ [mkTo 1 k] := by simp [marksT, List.range_succ]
theorem marksT_len (k : Nat) : (marksT k).length = k := by simp [marksT]
theorem marksT_ok (k : Nat) : ∀ a, a ∈ marksT k → ToOk a := fun a ha => by
  obtain ⟨i, _, rfl⟩ := List.mem_map.1 ha
  exact mkTo_ok _ _
def SrcT (w : World) (bv : Value) (xs : List To) : Prop := (bv = .slice none 0 0 ∧ xs = []) ∨ ∃ ad c, bv = .slice (some ad) xs.length c ∧ ∀ j u, (cellsF toC xs)[j]? = some u → w.cell? (ad.add j) = some u
theorem row_srcT {w : World} {pa : Option Addr} {l : List To} {c : Nat} (h : RowT w pa l) (hc : pa = none → c = 0) : SrcT w (.slice pa l.length c) l := by
  cases pa with
  | none =>
    have hn : l = [] := by
      rcases Nat.eq_zero_or_pos l.length with h0 | h0
      · exact List.eq_nil_of_length_eq_zero h0
      · obtain ⟨g, off, h1, -⟩ := h.2.2 h0
        cases h1
    subst hn
    rw [hc rfl]
    exact .inl ⟨rfl, rfl⟩
  | some ad =>
    refine .inr ⟨ad, c, rfl, fun j u hu => ?_⟩
    have hok : ∀ a, a ∈ l → (toC a).size = 35 := fun a ha => toC_size a (h.2.1 a ha).1
    have h0 : 0 < l.length := by
      have := (List.getElem?_eq_some_iff.1 hu).1
      rw [cellsF_len toC 35 _ hok] at this
      omega
    obtain ⟨g, off, h1, h2, h3⟩ := h.2.2 h0
    cases h1
    exact cellsF_src toC 35 (by decide) hok h3 j u hu
theorem lies_srcT {w : World} {g : Nat} {a : To} {t : TypeId} (h : Lies w g (toC a) t) : SrcT w (.slice (some ⟨g, 0, none⟩) 1 1) [a] := .inr ⟨⟨g, 0, none⟩, 1, rfl, src_one toC h⟩
/-- An append of assets, whatever lies on the right. -/
theorem wpList_append_T {ops : Array Oper} {rest : List Oper} {o : Oper} {a : Act} {w : World} {Q : Exit → Act → World → Prop} (hgd : o.guard = none) (s x : Operand)
    (ho : o.op = .call { callee := .builtin .append, args := #[s, x], argTypes := #[49, 49] })
    (B : Nat) (v bv : Value) (ys xs : List To) (hs : a.eval s = v) (hown : OwnTo w B v ys) (hx : a.eval x = bv) (hsrc : SrcT w bv xs) (hok : ∀ a, a ∈ xs → ToOk a) (hlen : ys.length + xs.length ≤ 1000000) (hB : B ≤ w.heap.size)
    (h : ∀ v' w', OwnTo w' B v' (ys ++ xs) → w.grownBy w' v.ownBlock → wpList Tryz.prog ops Q rest (a.put o.dst v') w') :
    wpList Tryz.prog ops Q (o :: rest) a w := by
  obtain ⟨i0, z0, hi0, hz0, hz1, hz2, hz3⟩ := info_parts info48
  rcases hsrc with ⟨rfl, rfl⟩ | ⟨ad, c, rfl, hsrc⟩
  · refine wpList_append_own_none hgd s x 49 ho B 75 i0 35 Tryz.underlying49 hi0 v ys.length _ hs hown hx ?_
    exact h v w (by rw [List.append_nil]; exact hown) ⟨rfl, rfl, rfl, Nat.le_refl _, fun _ _ _ => rfl⟩
  · refine wpList_append_own_at w hgd s x 49 ho B 75 i0 z0 35 64 Tryz.underlying49 hi0 hz0 hz1 hz2 hz3 (by decide) v ys.length _ hs hown ad xs.length c (cellsF toC xs) hx (cellsF_len toC 35 _ fun a ha => toC_size a (hok a ha).1) hsrc (cellsF_one toC _ fun a _ => toC_one a) (by unfold maxLen; omega) (by omega) hB ?_
    intro v' w' h2 h3 _ _
    exact h v' w' (by unfold OwnTo; rw [List.length_append, cellsF_app]; exact h2) h3
/-- A row of assets copied into memory of one's own: what stands there while it grows. -/
structure CopT (w W : World) (v : Value) (l : List To) : Prop where
  below : Below w.heap.size w W
  own : OwnTo W w.heap.size v l
theorem CopT.more {w W U : World} {v v' : Value} {l xs : List To} (h : CopT w W v l) (ho : OwnTo U w.heap.size v' (l ++ xs)) (hg : W.grownBy U v.ownBlock) : CopT w U v' (l ++ xs) :=
  ⟨h.below.grown hg h.below.size (fun j hj => (h.own.lt j hj).1), ho⟩
theorem CopT.step {w W U : World} {v : Value} {l : List To} (h : CopT w W v l) (hb : Below W.heap.size W U) : CopT w U v l :=
  ⟨h.below.trans (hb.mono h.below.size), ownsRow_below h.own hb⟩
theorem mk_totals (n : Nat) (hn : n ≤ 400000) : ∃ z : Value, ∀ w : World, (Instr.makeSlice 49 (.int .i64 0) (.int .i64 n)).run Tryz.prog w = .ok (.slice (some ⟨w.heap.size, 0, none⟩) 0 n) (w.alloc (.cells (madeCells z.cells (n * 35)) 75)) := by
  obtain ⟨i0, z0, hi0, hz0, hz1, hz2, hz3⟩ := info_parts info48
  refine ⟨z0, fun w => ?_⟩
  have := run_makeSlice (P := Tryz.prog) (w := w) 49 75 i0 z0 Tryz.underlying49 hi0 hz0 .i64 .i64 0 n (by omega) (by omega) (by rw [hz1]; simp; omega) (by rw [hz2]; omega) (by omega)
  rw [hz1] at this
  simp only [Int.toNat_natCast] at this
  exact this
def LentT (w : World) (B : Nat) (l : List To) (v : Value) : Prop := ∃ g c, v = .slice (some ⟨g, 0, none⟩) l.length c ∧ l.length + 12 ≤ c ∧ OwnTo w B (.slice (some ⟨g, 0, none⟩) (l.length + 12) c) (l ++ marksT 12)
attribute [-go_sem] Instr.build
attribute [-go_sem] Instr.buildSlice
set_option maxHeartbeats 4000000 in
theorem lentTo_any (w : World) (pa : Option Addr) (l : List To) (c : Nat) (h : RowT w pa l) (h0 : pa = none → c = 0) (hl : l.length ≤ 100000) :
    Calls Tryz.prog 74 #[.slice pa l.length c] w fun e w' => (∃ v, e = .returned v ∧ LentT w' w.heap.size l v) ∧ Below w.heap.size w w' := by
  have hsrc : ∀ V, Below w.heap.size w V → SrcT V (.slice pa l.length c) l := fun V hV => row_srcT (h.below hV (Nat.le_refl _)) h0
  have hok := h.2.1
  obtain ⟨n, hn⟩ : ∃ n, n = l.length := ⟨_, rfl⟩
  rw [← hn] at hl hsrc ⊢
  obtain ⟨z, hz⟩ := mk_totals (n + 12) (by omega)
  obtain ⟨mc, hmc⟩ : ∃ mc, mc = madeCells z.cells ((n + 12) * 35) := ⟨_, rfl⟩
  rw [← hmc] at hz
  have hms : mc.size = (n + 12) * 35 := by rw [hmc, made_size]
  have hmk : ∀ V, (Instr.makeSlice 49 (.int .i64 0) (.int .i64 ((n : Int) + 12))).run Tryz.prog V = .ok (.slice (some ⟨V.heap.size, 0, none⟩) 0 (n + 12)) (V.alloc (.cells mc 75)) := fun V => by
    have := hz V
    rwa [show (((n + 12 : Nat)) : Int) = (n : Int) + 12 by omega] at this
  have q1 : (n : Int) ≤ 100000 := by omega
  have q2 : (0 : Int) ≤ (n : Int) := by omega
  have hst : CopT w (w.alloc (.cells mc 75)) (.slice (some ⟨w.heap.size, 0, none⟩) 0 (n + 12)) [] :=
    ⟨(Below.refl _ _).alloc (Nat.le_refl _) _, rfl, .inr ⟨w.heap.size, n + 12, mc, rfl, Nat.le_refl _, Lies.new w mc 75, Nat.zero_le _, by unfold maxLen; omega, by rw [hms], rfl⟩⟩
  have hs0 := hsrc _ hst.below
  have H := Lib.hid (And.intro hn (And.intro hok (And.intro hst hs0)))
  clear h h0 hn hsrc hok hst hs0 hz hmc hms
  go_enter Tryz.func74, Tryz.ntmps74
  go_upto_region 4 with (at_builtin; go_must (refine wpList_append_T rfl _ _ rfl w.heap.size _ _ [] l rfl H.out.2.2.1.own rfl H.out.2.2.2 H.out.2.1 (by have := H.out.1; simp; omega) H.out.2.2.1.below.size ?_; intro v2 w2 ho2 hg2; have H2 := Lib.hid (H.out.2.2.1.more ho2 hg2); clear ho2 hg2))
  clear hmk
  go_loopw [3, 4] (fun v i W => ∃ k : Nat, k ≤ 12 ∧ i = .int .i64 k ∧ CopT w W v (l ++ marksT k)) (fun _ i _ => (12 - intOf i).toNat)
  case atStart => exact ⟨0, Nat.zero_le _, rfl, by simpa [marksT] using H2.out⟩
  case round =>
    obtain ⟨k, hk, rfl, hcop⟩ := hrel
    by_cases hlt : k < 12
    · have q3 : (k : Int) < 12 := by omega
      have q4 : (0 : Int) ≤ (k : Int) := by omega
      have hm := mkTc_any wr 1 k (by omega) (by omega)
      obtain ⟨av, hav⟩ : ∃ v, v = mkTc 1 k := ⟨_, rfl⟩
      rw [← hav] at hm
      have has : av.size = 35 := by rw [hav]; exact mkTc_size _ _
      have hsl : ∀ W : World, (Instr.buildSlice 49 1 #[(0, .agg av)]).run Tryz.prog W = .ok (.slice (some ⟨W.heap.size, 0, none⟩) 1 1) (W.alloc (.cells av 75)) := fun W => run_slice1 W 49 75 35 64 av Tryz.underlying49 info48 (by decide) (by decide) has
      have HR := Lib.hid (And.intro hcop (And.intro hm (And.intro trivial (And.intro hav (And.intro hlt has)))))
      clear hcop hm hav hlt has hk
      go_wp2_with fail
      refine HR.out.2.1.mono ?_
      rintro e w4 ⟨rfl, hb4⟩
      have hc5 := (HR.out.1.step hb4).step ((Below.refl _ _).alloc (Nat.le_refl _) (.cells av 75))
      have hs5 : SrcT (w4.alloc (.cells av 75)) (.slice (some ⟨w4.heap.size, 0, none⟩) 1 1) [mkTo 1 k] := lies_srcT (t := 75) (by have e : av = toC (mkTo 1 k) := HR.out.2.2.2.1; rw [← e]; exact Lies.new w4 av 75)
      have HX := Lib.hid (And.intro hc5 hs5)
      clear hc5 hs5 hb4
      go_wp2_with (at_builtin; go_must (refine wpList_append_T rfl _ _ rfl w.heap.size _ _ (l ++ marksT k) [mkTo 1 k] rfl HX.out.1.own rfl HX.out.2 (fun a ha => by rw [List.mem_singleton] at ha; rw [ha]; exact mkTo_ok 1 k) (by have h1 := H.out.1; rw [List.length_append, marksT_len]; simp; omega) HX.out.1.below.size ?_; intro v6 w6 ho6 hg6; have H6 := Lib.hid (HX.out.1.more ho6 hg6); clear ho6 hg6))
      have e1 : (k : Int) + 1 = ((k + 1 : Nat) : Int) := by omega
      rw [e1]
      refine ⟨⟨k + 1, HR.out.2.2.2.2.1, rfl, by rw [marksT_succ, ← List.append_assoc]; exact H6.out⟩, ?_⟩
      have h := HR.out.2.2.2.2.1
      simp [intOf]
      omega
    · have hk12 : k = 12 := by omega
      subst hk12
      have q3 : ¬ ((12 : Nat) : Int) < 12 := by omega
      have hlen : (l ++ marksT 12).length = n + 12 := by rw [List.length_append, marksT_len, ← H.out.1]
      rcases own_at toC 35 (fun a ha => by
        rcases List.mem_append.1 ha with ha | ha
        · exact toC_size a (H.out.2.1 a ha).1
        · exact toC_size a (marksT_ok 12 a ha).1) hcop.own with ⟨_, h2⟩ | ⟨g, cap, h1, h2, h3, h4, _, _⟩
      · rw [h2] at hlen
        simp at hlen
      · rw [hlen] at h1 h4
        subst h1
        have q5 : (n : Int) ≤ (cap : Int) := by omega
        have hroom : n + 12 ≤ cap := h4
        have HF := Lib.hid (And.intro hcop hroom)
        clear hcop hroom h2 h3 h4 hlen hk hlt
        go_wp2_with fail
        go_ret
        exact ⟨⟨_, rfl, g, cap, by rw [H.out.1]; rfl, by rw [← H.out.1]; exact HF.out.2, by rw [← H.out.1]; exact HF.out.1.own⟩, HF.out.1.below⟩
end Go.Proofs.YtjngghihciimjaaGreat
namespace Go.Proofs.YtjngghihciimjaaGreat
set_option maxRecDepth 100000
open Go.RowKit Go.Sort Go.Maps

attribute [-go_sem] Instr.build
attribute [-go_sem] Instr.buildSlice
/-- What of a lent row of totals is looked at. -/
structure LentTn (w : World) (l : List To) (g c : Nat) : Prop where
  room : l.length + 12 ≤ c
  lt : g < w.heap.size
  old : ∀ (k : Nat) (a : To), l[k]? = some a → w.rangeAt g (k * 35) (toC a).toList
  new : ∀ i, i < 12 → w.rangeAt g ((l.length + i) * 35) (toC (mkTo 1 i)).toList
theorem LentT.inn {w : World} {B : Nat} {l : List To} {v : Value} (h : LentT w B l v) (ho : ∀ a, a ∈ l → ToOk a) : ∃ g c, v = .slice (some ⟨g, 0, none⟩) l.length c ∧ LentTn w l g c := by
  obtain ⟨g, c, h1, h2, h3⟩ := h
  have hlen : (l ++ marksT 12).length = l.length + 12 := by rw [List.length_append, marksT_len]
  refine ⟨g, c, h1, ?_⟩
  rcases own_at toC 35 (fun a ha => by
    rcases List.mem_append.1 ha with ha | ha
    · exact toC_size a (ho a ha).1
    · exact toC_size a (marksT_ok 12 a ha).1) h3 with ⟨h4, _⟩ | ⟨g', cap, h4, _, h5, _, h6, _⟩
  · cases h4
  · rw [hlen] at h4
    simp only [Value.slice.injEq, Option.some.injEq, Addr.mk.injEq, true_and, and_true] at h4
    obtain ⟨rfl, rfl⟩ := h4
    refine ⟨h2, h5, fun k a hk => ?_, fun i hi => ?_⟩
    · have := h6 k a (by rw [List.getElem?_append_left (List.getElem?_eq_some_iff.1 hk).1]; exact hk)
      rwa [Nat.zero_add] at this
    · have := h6 (l.length + i) (mkTo 1 i) (by
        rw [List.getElem?_append_right (by omega), Nat.add_sub_cancel_left]
        unfold marksT
        rw [List.getElem?_map, List.getElem?_range hi]
        rfl)
      rwa [Nat.zero_add] at this
theorem LentTn.below {w U : World} {l : List To} {g c B : Nat} (h : LentTn w l g c) (hb : Below B w U) (hB : w.heap.size ≤ B := by exact Nat.le_refl _) : LentTn U l g c :=
  ⟨h.room, Nat.lt_of_lt_of_le h.lt hb.size, fun k a hk j v hv => (hb.cell (p := ⟨g, k * 35 + j, none⟩) (Nat.lt_of_lt_of_le h.lt hB)).trans (h.old k a hk j v hv), fun i hi j v hv => (hb.cell (p := ⟨g, (l.length + i) * 35 + j, none⟩) (Nat.lt_of_lt_of_le h.lt hB)).trans (h.new i hi j v hv)⟩
theorem LentTn.row {w : World} {l : List To} {g c : Nat} (h : LentTn w l g c) (hl : l.length ≤ maxLen) (ho : ∀ a, a ∈ l → ToOk a) : RowT w (some ⟨g, 0, none⟩) l :=
  ⟨hl, ho, fun _ => ⟨g, 0, rfl, h.lt, fun i a hi => by rw [Nat.zero_add]; exact h.old i a hi⟩⟩
set_option maxHeartbeats 8000000 in
theorem keptTo_any (w : World) (vs : List To) (g cg : Nat) (pa : Option Addr) (c : Nat) (hlk : LentTn w vs g cg) (h : RowT w pa vs) (hl : vs.length ≤ 100000) :
    Calls Tryz.prog 83 #[.slice (some ⟨g, 0, none⟩) vs.length cg, .slice pa vs.length c] w fun e w' => e = .returned (.bool true) ∧ Below w.heap.size w w' := by
  obtain ⟨n, hn⟩ : ∃ n, n = vs.length := ⟨_, rfl⟩
  have q5 : (n : Int) + 12 ≤ (cg : Int) := by have := hlk.room; omega
  have q1 : (n : Int) ≤ 100000 := by omega
  have q2 : (0 : Int) ≤ (n : Int) := by omega
  have H := Lib.hid (And.intro hlk (And.intro h (And.intro trivial hn)))
  rw [← hn] at hl ⊢
  clear hlk h hn hl
  go_enter Tryz.func83, Tryz.ntmps83
  go_wp2_with fail
  go_loopw [6] (fun i W => ∃ k : Nat, k ≤ n + 12 ∧ i = .int .i64 k ∧ Below w.heap.size w W) (fun i _ => n + 12 - (intOf i).toNat)
  case atStart => exact ⟨0, Nat.zero_le _, rfl, Below.refl _ _⟩
  case round =>
    obtain ⟨k, hk, rfl, hb⟩ := hrel
    have m0 : (0 : Int) ≤ (k : Int) := by omega
    by_cases hlt : k < n + 12
    · have m1 : (k : Int) < (n : Int) + 12 := by omega
      have hlk := H.out.1.below hb
      by_cases hkn : k < n
      · as_aux_lemma =>
        have r1 : (k : Int) < (n : Int) := by omega
        have r3 : k < n := hkn
        have r4 : ¬ n ≤ k := by omega
        have r5 : ¬ (n : Int) ≤ (k : Int) := by omega
        obtain ⟨g2, off, rfl, hg, hh⟩ := H.out.2.1.2.2 (by have := H.out.2.2.2; omega)
        obtain ⟨v, hkv⟩ : ∃ v, vs[k]? = some v := ⟨vs[k]'(by have := H.out.2.2.2; omega), List.getElem?_eq_getElem _⟩
        have h3 := hlk.old k v hkv
        have oky := H.out.2.1.2.1 v (List.mem_of_getElem? hkv)
        have hvv : wr.rangeAt g2 (off + k * 35) (toC v).toList := fun j u hu => (hb.cell (p := ⟨g2, off + k * 35 + j, none⟩) hg).trans (hh k v hkv j u hu)
        have hg2 : g2 < wr.heap.size := Nat.lt_of_lt_of_le hg hb.size
        obtain ⟨X, hX⟩ : ∃ X, X = toC v := ⟨_, rfl⟩
        have heq : ∀ W, (Op.equalIn 10000 75 (.agg X) (.agg X)).run Tryz.prog W = .ok true W := fun W => by
          have := eq_to W v v oky oky
          rw [decide_eq_true rfl] at this
          rw [hX]; exact this
        have hsz : (Tryz.prog.info? 75).map (·.size) = some X.size := by rw [hX, toC_size v oky.1]; exact info_total
        rw [← hX] at h3 hvv
        have K1 := Lib.hid heq
        have HX := Lib.hid (And.intro h3 (And.intro hlk.lt (And.intro hvv (And.intro hg2 hsz))))
        have HB := Lib.hid (And.intro hb hlt)
        clear heq hsz h3 hlk hvv hg2 hb hlt hkv hh hg hk hkn oky hX
        go_upto_region 7 with fail
        refine wp_region_quiet_below (by kernel_rfl) (by kernel_rfl) ?_
        iterate 8 (first | go_big_quiet_step (fail) | quiet_step (fail))
        refine wpQuiet_loadE (by rfl) 75 _ rfl g (k * 35) rfl X _ HX.out.1 HX.out.2.1 Tryz.underlying75 rfl HX.out.2.2.2.2 ?_
        iterate 3 (first | go_big_quiet_step (fail) | quiet_step (fail))
        refine wpQuiet_loadE (by rfl) 75 _ rfl g2 (off + k * 35) rfl X _ HX.out.2.2.1 HX.out.2.2.2.1 Tryz.underlying75 rfl HX.out.2.2.2.2 ?_
        refine wpQuiet_sameT (by rfl) _ _ rfl X K1.out rfl rfl ?_
        iterate 21 (first | go_big_quiet_step (fail) | quiet_step (fail))
        refine wpQuiet_nil ?_
        rintro w5 ⟨p9, hw5⟩
        have HB5 : Hid (Below w.heap.size w w5) := Lib.hid (by rw [hw5]; exact HB.out.1.trans ((below_regrown wr p9.d p9.os).mono HB.out.1.size))
        clear hw5 K1 HX
        go_wp2_with fail
        refine ⟨⟨k + 1, HB.out.2, by go_num, HB5.out⟩, ?_⟩
        have := HB.out.2
        simp [intOf]; omega
      · as_aux_lemma =>
        have r1 : decide ((k : Int) < (n : Int)) = false := by simp; omega
        have r2 : decide (k < n) = false := by simp; omega
        have r4 : (n : Int) ≤ (k : Int) := by omega
        have r5 : n ≤ k := by omega
        obtain ⟨j, hj⟩ : ∃ j, j = k - n := ⟨_, rfl⟩
        have hjk : k = n + j := by omega
        have hwj : IntKind.i64.wrap ((k : Int) - (n : Int)) = (j : Int) := by rw [IntKind.wrap_i64]; omega
        have h3 := hlk.new j (by omega)
        rw [← H.out.2.2.2, ← hjk] at h3
        have hmk := fun U => mkTc_any U 1 j (by omega) (by omega)
        have hsm := mkTc_eq 1 j
        obtain ⟨X, hX⟩ : ∃ X, X = mkTc 1 j := ⟨_, rfl⟩
        have hXs : (Tryz.prog.info? 75).map (·.size) = some X.size := by rw [hX, mkTc_size]; exact info_total
        rw [show toC (mkTo 1 j) = mkTc 1 j from rfl, ← hX] at h3
        rw [← hX] at hsm
        simp only [← hX] at hmk
        have K1 := Lib.hid hmk
        have K2 := Lib.hid hsm
        have HX := Lib.hid (And.intro h3 (And.intro hlk.lt hXs))
        have HB := Lib.hid (And.intro hb hlt)
        clear hmk hsm h3 hlk hXs hX hb hlt hj hjk hk hkn
        go_upto_region 7 with fail
        refine wp_region_quiet_below (by kernel_rfl) (by kernel_rfl) ?_
        iterate 25 (first | go_big_quiet_step (fail) | quiet_step (fail))
        refine wpQuiet_loadE (by rfl) 75 _ rfl g (k * 35) rfl X _ HX.out.1 HX.out.2.1 Tryz.underlying75 rfl HX.out.2.2 ?_
        iterate 4 (first | go_big_quiet_step (fail) | quiet_step (fail))
        quiet_step ((go_at_call 126; with_reducible exact Calls.regrown_of (K1.out _)))
        refine wpQuiet_sameT (by rfl) _ _ rfl X K2.out rfl rfl ?_
        iterate 3 (first | go_big_quiet_step (fail) | quiet_step (fail))
        refine wpQuiet_nil ?_
        rintro w5 ⟨p9, hw5⟩
        have HB5 : Hid (Below w.heap.size w w5) := Lib.hid (by rw [hw5]; exact HB.out.1.trans ((below_regrown wr p9.d p9.os).mono HB.out.1.size))
        clear hw5 K1 K2 HX
        go_wp2_with fail
        refine ⟨⟨k + 1, HB.out.2, by go_num, HB5.out⟩, ?_⟩
        have := HB.out.2
        simp [intOf]; omega
    · as_aux_lemma =>
      have m1 : decide ((k : Int) < (n : Int) + 12) = false := by simp; omega
      have HE := Lib.hid hb
      clear hb hlt hk
      go_wp2_with fail
      go_ret
      exact ⟨rfl, HE.out⟩
end Go.Proofs.YtjngghihciimjaaGreat
