/-
  Two calls, two blocks, two stores of what was told, in whatever order.
-/
import Derived.Test.YtjngghihciimjaaGreatJBq
import Derived.Test.YtjngghihciimjaaGreatJBt
import Derived.Test.YtjngghihciimjaaGreatJRd
import Derived.Test.YtjngghihciimjaaGreatJVj
import Derived.Test.YtjngghihciimjaaGreatJVe
namespace Go.Proofs.YtjngghihciimjaaGreat
set_option maxRecDepth 100000
open Go.RowKit Go.Sort Go.Maps
attribute [-go_sem] Instr.build
theorem infoRA : (Tryz.prog.info? 22).map (fun i => (i.zero, i.size, i.bytes)) = some (some (.slice none 0 0), 1, 24) := by kernel_rfl
theorem infoRV : (Tryz.prog.info? 28).map (fun i => (i.zero, i.size, i.bytes)) = some (some (.slice none 0 0), 1, 24) := by kernel_rfl
theorem info_partsZ {P : Program} {t : TypeId} {z : Value} {k b : Nat} (h : (P.info? t).map (fun i => (i.zero, i.size, i.bytes)) = some (some z, k, b)) : ∃ i, P.info? t = some i ∧ i.zero = some z ∧ i.size = k ∧ i.bytes = b := by
  cases hi : P.info? t with
  | none => rw [hi] at h; simp at h
  | some i =>
    rw [hi] at h
    simp only [Option.map_some, Option.some.injEq, Prod.mk.injEq] at h
    exact ⟨i, rfl, h.1, h.2.1, h.2.2⟩
theorem own_keptO {w w' : World} {base : Nat} {e : TypeId} {size n : Nat} {u : Value} {xs : List Value} {o : Option Nat} (h : w.ownsRow base e size u n xs) (hg : w.grownBy w' o) (hne : ∀ g, u.ownBlock = some g → o ≠ some g) :
  w'.ownsRow base e size u n xs := by
 refine h.kept hg ?_
 cases hu : u.ownBlock with
 | none => exact .inl rfl
 | some g => exact .inr (fun e => hne g hu e.symm)
theorem old_of_alloc {w u : World} {o : Obj} {r : Option Nat} (h : (w.alloc o).grownBy u r) (g : Nat) (hg : g < w.heap.size) (hn : some g ≠ r) : u.heap[g]? = w.heap[g]? :=
 (h.block g (Nat.lt_of_lt_of_le hg (World.grownBy_alloc w o none).size) hn).trans (Below.heap_alloc w o g hg)
theorem own_blockO {w w' : World} {base : Nat} {e : TypeId} {size n : Nat} {u : Value} {xs : List Value} (h : w.ownsRow base e size u n xs) (hk : ∀ g, u.ownBlock = some g → w'.heap[g]? = w.heap[g]?) : w'.ownsRow base e size u n xs := by
 refine ⟨h.1, ?_⟩
 rcases h.2 with hn | ⟨g, cap, cur, h1, h2, h3, h4⟩
 ·
  exact .inl hn
 ·
  exact .inr ⟨g, cap, cur, h1, h2, (hk g (by rw [h1]; rfl)).trans h3, h4⟩
theorem rows_apart {w : World} {b1 b2 : Nat} {e1 e2 : TypeId} {s1 s2 n1 n2 : Nat} {u1 u2 : Value} {x1 x2 : List Value} (h1 : w.ownsRow b1 e1 s1 u1 n1 x1) (h2 : w.ownsRow b2 e2 s2 u2 n2 x2) (hne : e1 ≠ e2) (g : Nat) (hg : u2.ownBlock = some g) : some g ≠ u1.ownBlock := by
 rcases h2.2 with ⟨h, _⟩ | ⟨g2, cap, cur, h, _, h3, _⟩
 ·
  rw [h] at hg; cases hg
 ·
  rw [h] at hg
  have : g2 = g := Option.some.inj hg
  subst this
  exact ownsRow_far h1 (show Lies w g2 cur e2 from h3) (fun e => hne e.symm)
def PutA (w w' : World) (B base Bg : Nat) (a v : Value) (vs : List Value) (x : Value) : Prop :=
 ∃ a', Lies w' Bg (bagAV a' v) 116 ∧ w'.ownsRow base 22 1 a' (vs.length + 1) (vs ++ [x]) ∧ Below B w w' ∧ base ≤ w'.heap.size ∧ ∀ g, g < w.heap.size → g ≠ Bg → some g ≠ a.ownBlock → w'.heap[g]? = w.heap[g]?
set_option maxHeartbeats 2000000 in
theorem putA_any (w : World) (B base Bg : Nat) (vs : List Value) (ua v : Value) (la : Option Addr) (ln lc : Nat) (hB : B ≤ Bg) (hbb : B ≤ base) (hbs : Bg < base) (hlen : vs.length ≤ 1000) (hbw : base ≤ w.heap.size) (hbg : Lies w Bg (bagAV ua v) 116) (hr : w.ownsRow base 22 1 ua vs.length vs) :
    Calls Tryz.prog 133 #[.pointer (some ⟨Bg, 0, none⟩), .slice la ln lc] w fun e w' => e = .returned (.tuple #[]) ∧ PutA w w' B base Bg ua v vs (.slice la ln lc) := by
  obtain ⟨i0, hi0, hz0, hz1, hz2⟩ := info_partsZ infoRA
  have c7 := hbg.cell 10 (v := ua) rfl
  have hbga := hbg.alloc (.cells #[.slice la ln lc] 22)
  have hra := hr.alloc (.cells #[.slice la ln lc] 22)
  have HI := Lib.hid (And.intro hi0 (And.intro hz0 (And.intro hz1 hz2)))
  have HB := Lib.hid (And.intro hB (And.intro hbb (And.intro hbs (And.intro hlen hbw))))
  have HA := Lib.hid (And.intro hbga hra)
  clear hbg hr hbga hra hi0 hz0 hz1 hz2 hB hbb hbs hlen hbw
  go_enter Tryz.func133, Tryz.ntmps133
  go_wp2_with (first
    | (at_builtin; go_must (refine wpList_append_own _ rfl _ _ 98 rfl base 22 i0 (.slice none 0 0) 1 24 Tryz.underlying98 HI.out.1 HI.out.2.1 HI.out.2.2.1 HI.out.2.2.2 rfl (by decide) ua vs.length vs rfl HA.out.2 ⟨w.heap.size, 0, none⟩ 1 1 [.slice la ln lc] rfl rfl (cell_one_new _ _ _) (by simp; rfl) (by have := HB.out.2.2.2.1; unfold maxLen; omega) (by have := HB.out.2.2.2.1; omega) (by have := HB.out.2.2.2.2; simp; omega) ?_)
       intro v' w7 hown hgrow hnil
       have hne : v'.ownBlock ≠ some Bg := fun e => by have := hown.lt Bg e; have := HB.out.2.2.1; omega
       have hl7 : Lies w7 Bg (bagAV ua v) 116 := (hgrow.block Bg HA.out.1.lt (fun e => by have := (HA.out.2.lt Bg e.symm).1; have := HB.out.2.2.1; omega)).trans HA.out.1
       have hb7 : Below B w w7 := ((Below.refl _ _).alloc (Nat.le_trans HB.out.2.1 HB.out.2.2.2.2) _).grown hgrow (by have := HB.out.2.2.2.2; have := HB.out.2.1; simp; omega) (fun j e => by have := (HA.out.2.lt j e).1; have := HB.out.2.1; omega)
       have hs7 : base ≤ w7.heap.size := by have := hgrow.size; have := HB.out.2.2.2.2; simp at *; omega
       have ho7 : ∀ g, g < w.heap.size → some g ≠ ua.ownBlock → w7.heap[g]? = w.heap[g]? := fun g hg hn => old_of_alloc hgrow g hg hn
       have hsh : ∃ g c, v' = .slice (some ⟨g, 0, none⟩) (vs.length + 1) c := by
         rcases hown.2 with ⟨_, h0⟩ | ⟨g, cap, cur, rfl, _⟩
         · omega
         · exact ⟨g, cap, rfl⟩
       obtain ⟨g, c, rfl⟩ := hsh
       have H7 := Lib.hid (And.intro hown (And.intro hl7 (And.intro hb7 (And.intro hs7 (And.intro hne ho7)))))
       have c8 := hl7.cell 10 (v := ua) rfl
       have f8 := hl7.free 10
       clear hown hgrow hnil hl7 hb7 hs7 hne ho7))
  go_end0
  refine ⟨rfl, _, H7.out.2.1.set 10 _, ?_, H7.out.2.2.1.setCell (p := ⟨Bg, 10, none⟩) HB.out.1 _, by rw [size_set]; exact H7.out.2.2.2.1, fun g hg hn hn2 => (Below.heap_setCell _ _ _ _ (by exact hn)).trans (H7.out.2.2.2.2.2 g hg hn2)⟩
  exact own_keptO H7.out.1 (grownBy_set w7 Bg 10 _) (fun x hx e => H7.out.2.2.2.2.1 (by rw [hx, e]))
set_option maxHeartbeats 2000000 in
theorem oneV_any (w : World) (B base Bg : Nat) (vs : List Value) (a v : Value) (x : Int) (la : Option Addr) (ln lc : Nat) (hB : B ≤ Bg) (hbb : B ≤ base) (hbs : Bg < base) (hlen : vs.length ≤ 1000) (hbw : base ≤ w.heap.size) (hbg : Lies w Bg (bagAV a v) 116) (hr : w.ownsRow base 22 1 a vs.length vs) :
  Calls Tryz.prog 90 #[.pointer (some ⟨Bg, 0, none⟩), .agg #[.int .i64 x, .slice la ln lc]] w fun e w' => e = .returned (.tuple #[]) ∧ PutA w w' B base Bg a v vs (.slice la ln lc) := by
 have hL : Lies (w.alloc (.cells #[.int .i64 x, .slice la ln lc] 24)) w.heap.size #[.int .i64 x, .slice la ln lc] 24 := Lies.new _ _ _
 have hb0 : Below w.heap.size w (w.alloc (.cells #[.int .i64 x, .slice la ln lc] 24)) := (Below.refl _ _).alloc (Nat.le_refl _) _
 have hp := putA_any (w.alloc (.cells #[.int .i64 x, .slice la ln lc] 24)) B base Bg vs a v la ln lc hB hbb hbs hlen (Nat.le_trans hbw hb0.size) (hbg.below hb0 hbg.lt) (hr.alloc _)
 have c1 := hL.cell 1 (v := .slice la ln lc) rfl
 have H := Lib.hid (And.intro hp (And.intro hb0 (show B ≤ w.heap.size by omega)))
 clear hL hb0 hp hB hbb hbs hlen hbw hbg hr
 go_enter Tryz.func90, Tryz.ntmps90
 go_wp2_with (go_at_call 133; refine H.out.1.mono ?_; rintro e w5 ⟨rfl, hpa⟩)
 go_end0
 obtain ⟨a', h1, h2, h3, h4, h5⟩ := hpa
 exact ⟨rfl, a', h1, h2, (H.out.2.1.mono H.out.2.2).trans h3, h4, fun g hg hn hn2 => (h5 g (Nat.lt_of_lt_of_le hg H.out.2.1.size) hn hn2).trans (H.out.2.1.block g hg)⟩
def slK (vs : List Va) (k : Nat) : List Value := (vs.take k).map fun v => .slice v.pa v.l.length v.c
theorem slK_length (vs : List Va) (k : Nat) (h : k ≤ vs.length) : (slK vs k).length = k := by simp [slK, h]
theorem slK_succ (vs : List Va) (k : Nat) (v : Va) (h : vs[k]? = some v) : slK vs (k + 1) = slK vs k ++ [.slice v.pa v.l.length v.c] := by
 unfold slK
 rw [List.take_add_one, h]
 simp
structure InBag (w W : World) (B base Bg : Nat) (vs : List Va) (k : Nat) (x : Value) : Prop where
 bag : ∃ a v, Lies W Bg (bagAV a v) 116 ∧ W.ownsRow base 22 1 a k (slK vs k) ∧ W.ownsRow base 28 1 v 1 [x]
 below : Below B w W
 size : base ≤ W.heap.size
 old : ∀ g, g < w.heap.size → g ≠ Bg → W.heap[g]? = w.heap[g]?
set_option maxHeartbeats 4000000 in
theorem putV_any (w : World) (B base Bg V0 cV : Nat) (vs : List Va) (hB : B ≤ Bg) (hbb : B ≤ base) (hbs : Bg < base) (hlen : vs.length ≤ 1000) (hbw : base = w.heap.size) (hbg : Lies w Bg (bagAV (.slice none 0 0) (.slice none 0 0)) 116) (hV0 : V0 < w.heap.size) (hVB : V0 ≠ Bg) (hv : ∀ (i : Nat) (v : Va), vs[i]? = some v → w.rangeAt V0 (i * 2) (vaC v).toList) :
    Calls Tryz.prog 62 #[.pointer (some ⟨Bg, 0, none⟩), .slice (some ⟨V0, 0, none⟩) vs.length cV] w fun e w' => e = .returned (.tuple #[]) ∧ InBag w w' B base Bg vs vs.length (.slice (some ⟨V0, 0, none⟩) vs.length cV) := by
  obtain ⟨n, hn⟩ : ∃ n, n = vs.length := ⟨_, rfl⟩
  rw [← hn] at hlen ⊢
  obtain ⟨i0, hi0, hz0, hz1, hz2⟩ := info_partsZ infoRV
  have c7 := hbg.cell 11 (v := .slice none 0 0) rfl
  have hbga := hbg.alloc (.cells #[.slice (some ⟨V0, 0, none⟩) n cV] 28)
  have HI := Lib.hid (And.intro hi0 (And.intro hz0 (And.intro hz1 hz2)))
  have HB := Lib.hid (And.intro hB (And.intro hbb (And.intro hbs (And.intro hlen hbw))))
  have HA := Lib.hid hbga
  have HV := Lib.hid (And.intro hV0 (And.intro hVB (And.intro hv hn)))
  have q1 : (n : Int) ≤ 1000 := by omega
  have q0 : (0 : Int) ≤ (n : Int) := by omega
  clear hbg hbga hi0 hz0 hz1 hz2 hB hbb hbs hlen hbw hV0 hVB hv hn
  go_enter Tryz.func62, Tryz.ntmps62
  go_upto_region 1 with (first
    | (at_builtin; go_must (refine wpList_append_own _ rfl _ _ 40 rfl base 28 i0 (.slice none 0 0) 1 24 Tryz.underlying40 HI.out.1 HI.out.2.1 HI.out.2.2.1 HI.out.2.2.2 rfl (by decide) (.slice none 0 0) 0 [] rfl (World.ownsRow_nil _ _ _ _) ⟨w.heap.size, 0, none⟩ 1 1 [.slice (some ⟨V0, 0, none⟩) n cV] rfl rfl (cell_one_new _ _ _) (by simp; rfl) (by unfold maxLen; omega) (by omega) (by have := HB.out.2.2.2.2; simp; omega) ?_)
       intro v' w7 hown hgrow hnil
       have hne : v'.ownBlock ≠ some Bg := fun e => by have := hown.lt Bg e; have := HB.out.2.2.1; omega
       have hl7 : Lies w7 Bg (bagAV (.slice none 0 0) (.slice none 0 0)) 116 := (hgrow.block Bg HA.out.lt (fun e => by cases e)).trans HA.out
       have hb7 : Below B w w7 := ((Below.refl _ _).alloc (by have := HB.out.2.2.2.2; have := HB.out.2.1; omega) _).grown hgrow (by have := HB.out.2.2.2.2; have := HB.out.2.1; simp; omega) (fun j e => by cases e)
       have hs7 : base ≤ w7.heap.size := by have := hgrow.size; have := HB.out.2.2.2.2; simp at *; omega
       have ho7 : ∀ g, g < w.heap.size → w7.heap[g]? = w.heap[g]? := fun g hg => old_of_alloc hgrow g hg (fun e => by cases e)
       have hsh : ∃ g c, v' = .slice (some ⟨g, 0, none⟩) 1 c := by
         rcases hown.2 with ⟨_, h0⟩ | ⟨g, cap, cur, rfl, _⟩
         · omega
         · exact ⟨g, cap, rfl⟩
       obtain ⟨g, c, rfl⟩ := hsh
       have H7 := Lib.hid (And.intro hown (And.intro hl7 (And.intro hb7 (And.intro hs7 (And.intro hne ho7)))))
       have c8 := hl7.cell 11 (v := .slice none 0 0) rfl
       have f8 := hl7.free 11
       clear hown hgrow hnil hl7 hb7 hs7 hne ho7))
  have hin : InBag w (w7.setCell ⟨Bg, 11, none⟩ (.slice (some ⟨g, 0, none⟩) 1 c)) B base Bg vs 0 (.slice (some ⟨V0, 0, none⟩) n cV) :=
    ⟨⟨_, _, H7.out.2.1.set 11 _, World.ownsRow_nil _ _ _ _, own_keptO H7.out.1 (grownBy_set w7 Bg 11 _) (fun x hx e => H7.out.2.2.2.2.1 (by rw [hx, e]))⟩, H7.out.2.2.1.setCell (p := ⟨Bg, 11, none⟩) HB.out.1 _, by rw [size_set]; exact H7.out.2.2.2.1, fun g hg hn => (Below.heap_setCell _ _ _ _ (by exact hn)).trans (H7.out.2.2.2.2.2 g hg)⟩
  clear c8 f8 c7
  generalize w7.setCell ⟨Bg, 11, none⟩ (.slice (some ⟨g, 0, none⟩) 1 c) = W0 at hin ⊢
  have HIN := Lib.hid hin
  clear hin
  go_wp2_with fail
  go_loopw [4] (fun i W => ∃ k : Nat, k ≤ n ∧ i = .int .i64 k ∧ InBag w W B base Bg vs k (.slice (some ⟨V0, 0, none⟩) n cV)) (fun i _ => n - (intOf i).toNat)
  case atStart => exact ⟨0, by omega, rfl, HIN.out⟩
  case round =>
    obtain ⟨k, hk, rfl, hin⟩ := hrel
    by_cases hlt : k < n
    · have m1 : (k : Int) < (n : Int) := by omega
      have m1n : k < n := hlt
      have m0 : (0 : Int) ≤ (k : Int) := by omega
      obtain ⟨y, hy⟩ : ∃ y, vs[k]? = some y := ⟨vs[k]'(by have := HV.out.2.2.2; omega), List.getElem?_eq_getElem _⟩
      have hrg : wr.rangeAt V0 (k * 2) (vaC y).toList := fun j u hu => (cell_block (hin.old V0 HV.out.1 HV.out.2.1) _).trans (HV.out.2.2.1 k y hy j u hu)
      obtain ⟨a, v, hl, hra, hrv⟩ := hin.bag
      have hsl : (slK vs k).length = k := slK_length vs k (by have := HV.out.2.2.2; omega)
      have hone := oneV_any wr B base Bg (slK vs k) a v y.coin y.pa y.l.length y.c HB.out.1 HB.out.2.1 HB.out.2.2.1 (by have := HB.out.2.2.2.1; omega) hin.size hl (by rw [hsl]; exact hra)
      have HR := Lib.hid (And.intro hone (And.intro hrg (And.intro hlt (And.intro hin (And.intro hrv (And.intro hra (And.intro hsl hy)))))))
      clear hone hrg hlt hin hrv hra hsl hy hk hl
      go_wp2_with (first
        | (refine wpList_load_mid rfl 24 _ rfl V0 (k * 2) rfl (vaC y).toList _ HR.out.2.1 Tryz.underlying24 rfl (by rw [Array.length_toList]; exact info_value) ?_)
        | (go_at_call 90; refine HR.out.1.mono ?_; rintro e w5 ⟨rfl, hpa⟩))
      obtain ⟨a', h1, h2, h3, h4, h5⟩ := hpa
      have hfin : InBag w w5 B base Bg vs (k + 1) (.slice (some ⟨V0, 0, none⟩) n cV) := by
        refine ⟨⟨a', v, h1, ?_, ?_⟩, HR.out.2.2.2.1.below.trans h3, h4, fun g hg hn => ?_⟩
        · rw [slK_succ vs k y HR.out.2.2.2.2.2.2.2, HR.out.2.2.2.2.2.2.1] at *
          exact h2
        · refine own_blockO HR.out.2.2.2.2.1 (fun g hg => h5 g (HR.out.2.2.2.2.1.lt g hg).2 (by have := (HR.out.2.2.2.2.1.lt g hg).1; have := HB.out.2.2.1; omega) ?_)
          exact rows_apart HR.out.2.2.2.2.2.1 HR.out.2.2.2.2.1 (by decide) g hg
        · have hga : some g ≠ a.ownBlock := fun e => by have := (HR.out.2.2.2.2.2.1.lt g e.symm).1; have := HB.out.2.2.2.2; omega
          exact (h5 g (Nat.lt_of_lt_of_le hg HR.out.2.2.2.1.below.size) hn hga).trans (HR.out.2.2.2.1.old g hg hn)
      have HF := Lib.hid hfin
      clear hfin h1 h2 h3 h4 h5
      go_wp2_with fail
      refine ⟨⟨k + 1, by have := HR.out.2.2.1; omega, by go_num, HF.out⟩, ?_⟩
      have := HR.out.2.2.1
      simp [intOf]; omega
    · obtain rfl : k = n := by omega
      have m1 : decide ((k : Int) < (k : Int)) = false := by simp
      have m1n : ¬ k < k := by omega
      have HF := Lib.hid hin
      clear hin hlt hk
      go_wp2_with fail
      go_end0
      exact ⟨rfl, HF.out⟩
end Go.Proofs.YtjngghihciimjaaGreat
namespace Go.Proofs.YtjngghihciimjaaGreat
set_option maxRecDepth 100000
open Go.RowKit Go.Sort Go.Maps
def paOf (vs : List Va) (k : Nat) : Option Addr := match vs[k]? with | some v => v.pa | none => none
def lenOf (vs : List Va) (k : Nat) : Nat := match vs[k]? with | some v => v.l.length | none => 0
def capOf (vs : List Va) (k : Nat) : Nat := match vs[k]? with | some v => v.c | none => 0
def blkOf (vs : List Va) (k : Nat) : Nat := match paOf vs k with | some p => p.block | none => 0
structure RowO (w : World) (B V0 cV : Nat) (vs : List Va) : Prop where
 blk : Blk 24 2 w V0 cV
 room : vs.length ≤ cV ∧ cV ≤ maxLen ∧ B ≤ V0
 holds : ∀ (i : Nat) (v : Va), vs[i]? = some v → w.rangeAt V0 (i * 2) (vaC v).toList
 own : ∀ (i : Nat) (v : Va), vs[i]? = some v → OwnAs w B (.slice v.pa v.l.length v.c) v.l
 few : ∀ (i : Nat) (v : Va), vs[i]? = some v → v.l.length ≤ 100000
 apart : ∀ (i j : Nat), i < vs.length → j < vs.length → i ≠ j → paOf vs i ≠ none → paOf vs j ≠ none → blkOf vs i ≠ blkOf vs j
theorem own_blk {w : World} {B : Nat} {v : Va} (h : OwnAs w B (.slice v.pa v.l.length v.c) v.l) : (v.pa = none ∧ v.l.length = 0 ∧ v.c = 0) ∨ ∃ g, v.pa = some ⟨g, 0, none⟩ ∧ v.l.length ≤ v.c ∧ v.c ≤ maxLen ∧ B ≤ g ∧ Blk 38 34 w g v.c := by
 rcases h.2 with ⟨h1, h2⟩ | ⟨g, cap, cur, h1, h2, h3, h4, h5, h6, _⟩
 ·
  simp only [Value.slice.injEq] at h1
  exact .inl ⟨h1.1, h1.2.1, h1.2.2⟩
 ·
  simp only [Value.slice.injEq, true_and] at h1
  obtain ⟨e1, e2⟩ := h1
  rw [← e2] at h4 h5 h6
  exact .inr ⟨g, e1, h4, h5, h2, cur, h3, h6⟩
theorem blk_apart {w : World} {e1 e2 : TypeId} {s1 s2 g1 g2 c1 c2 : Nat} (h1 : Blk e1 s1 w g1 c1) (h2 : Blk e2 s2 w g2 c2) (hne : e1 ≠ e2) : g1 ≠ g2 := by
 rintro rfl
 obtain ⟨a, ha, _⟩ := h1
 obtain ⟨b, hb, _⟩ := h2
 unfold Lies at ha hb
 rw [ha] at hb
 simp only [Option.some.injEq, Obj.cells.injEq] at hb
 exact hne hb.2.1
theorem RowO.at {w : World} {B V0 cV : Nat} {vs : List Va} (h : RowO w B V0 cV vs) {k : Nat} (hk : k < vs.length) :
  (paOf vs k = none ∧ lenOf vs k = 0 ∧ capOf vs k = 0) ∨ (paOf vs k = some ⟨blkOf vs k, 0, none⟩ ∧ lenOf vs k ≤ capOf vs k ∧ capOf vs k ≤ maxLen ∧ B ≤ blkOf vs k ∧ Blk 38 34 w (blkOf vs k) (capOf vs k)) := by
 have hv : vs[k]? = some vs[k] := List.getElem?_eq_getElem hk
 unfold blkOf paOf lenOf capOf
 rw [hv]
 rcases own_blk (h.own k _ hv) with h1 | ⟨g, h1, h2, h3, h4, h5⟩
 ·
  exact .inl h1
 ·
  refine .inr ?_
  simp only [h1]
  exact ⟨trivial, h2, h3, h4, h5⟩
theorem slK_get (vs : List Va) (k : Nat) (hk : k < vs.length) : (slK vs vs.length)[k]? = some (.slice (paOf vs k) (lenOf vs k) (capOf vs k)) := by
 have hv : vs[k]? = some vs[k] := List.getElem?_eq_getElem hk
 unfold slK paOf lenOf capOf
 rw [hv, List.take_length, List.getElem?_map, hv]
 rfl
attribute [-go_sem] Instr.build
theorem build_bag (w : World) : (Instr.build 116 #[]).run Tryz.prog w = .ok (.agg (bagAV (.slice none 0 0) (.slice none 0 0))) w := run_build w 116 _ _ (by kernel_rfl)
set_option maxHeartbeats 4000000 in
theorem apartV_any (w : World) (L0 c0 B V0 cV : Nat) (vs : List Va) (hL0 : L0 < w.heap.size) (hc : w.cell? ⟨L0, 0, none⟩ = some (.slice (some ⟨V0, 0, none⟩) vs.length cV)) (h : RowO w B V0 cV vs) (hn : 0 < vs.length) (hfew : vs.length ≤ 1000) (hB : B ≤ w.heap.size) :
  Calls Tryz.prog 21 #[.slice (some ⟨L0, 0, none⟩) 1 c0] w fun e w' => e = .returned (.bool true) ∧ Below B w w' := by
 have hb0 : Below w.heap.size w (w.alloc (.cells (bagAV (.slice none 0 0) (.slice none 0 0)) 116)) := (Below.refl _ _).alloc (Nat.le_refl _) _
 have hbg : Lies (w.alloc (.cells (bagAV (.slice none 0 0) (.slice none 0 0)) 116)) w.heap.size (bagAV (.slice none 0 0) (.slice none 0 0)) 116 := Lies.new _ _ _
 have hsz : (w.alloc (.cells (bagAV (.slice none 0 0) (.slice none 0 0)) 116)).heap.size = w.heap.size + 1 := by simp
 have hbld := build_bag
 have HBG := Lib.hid (And.intro hb0 (And.intro hbg hsz))
 have H := Lib.hid (And.intro hL0 (And.intro hc (And.intro h (And.intro hn (And.intro hfew hB)))))
 clear hb0 hbg hsz hL0 hc h hn hfew hB
 go_enter Tryz.func21, Tryz.ntmps21
 go_upto_region 2 with fail
 clear hbld
 generalize w.alloc (.cells (bagAV (.slice none 0 0) (.slice none 0 0)) 116) = W0 at HBG ⊢
 obtain ⟨n, hnn⟩ : ∃ n, n = vs.length := ⟨_, rfl⟩
 have c1 := (HBG.out.1.cell (p := ⟨L0, 0, none⟩) H.out.1).trans H.out.2.1
 rw [← hnn] at c1
 have hV0 := H.out.2.2.1.blk.lt
 have hput := putV_any W0 B (w.heap.size + 1) w.heap.size V0 cV vs H.out.2.2.2.2.2 (by have := H.out.2.2.2.2.2; omega) (Nat.lt_succ_self _) H.out.2.2.2.2.1 HBG.out.2.2.symm HBG.out.2.1 (by rw [HBG.out.2.2]; omega) (by omega) (fun i v hv j u hu => (cell_block (HBG.out.1.block V0 hV0) _).trans (H.out.2.2.1.holds i v hv j u hu))
 rw [← hnn] at hput
 have HP := Lib.hid (And.intro hput hnn)
 clear hput hnn hV0
 go_wp2_with fail
 refine wp_loop_rounds 2 ?_
 rw [rounds_succ]
 go_wp2_with (go_at_call 62; refine HP.out.1.mono ?_; rintro e w5 ⟨rfl, hin⟩)
 clear c1
 have HI := Lib.hid hin
 clear hin
 go_wp2_with fail
 rw [rounds_succ]
 go_wp2_with fail
 obtain ⟨ua, uv, hl, hra, hrv⟩ := HI.out.bag
 have hbig : HI.out.below.size = HI.out.below.size := rfl
 clear hbig
 have hca := fun g (e : ua.ownBlock = some g) => hra.cells (g := g) e
 have hcv := fun g (e : uv.ownBlock = some g) => hrv.cells (g := g) e
 have hnpos := H.out.2.2.2.1
 have hnv := HP.out.2
 rcases hra.2 with ⟨_, h0⟩ | ⟨LA, cA, curA, rfl, hLA, hLAh, _⟩
 ·
  omega
 rcases hrv.2 with ⟨_, h0⟩ | ⟨LV, cL, curV, rfl, hLV, hLVh, _⟩
 ·
  omega
 have hca := hca LA rfl
 have hcv := hcv LV rfl
 have hold : ∀ g, g < w.heap.size → w5.heap[g]? = w.heap[g]? := fun g hg => (HI.out.old g (by rw [HBG.out.2.2]; omega) (by omega)).trans (HBG.out.1.block g hg)
 have hsz5 : w.heap.size + 1 ≤ w5.heap.size := HI.out.size
 have hro := H.out.2.2.1
 have hBw := H.out.2.2.2.2.2
 have lotA : LotsAV 38 34 w5 LA B n (paOf vs) (blkOf vs) (lenOf vs) (capOf vs) := by
  refine ⟨⟨(Array.getElem?_eq_some_iff.1 hLAh).1, fun k hk => ?_, fun k hk => ?_, fun k hk => ?_, fun i j hi hj hne => hro.apart i j (by omega) (by omega) hne, by omega⟩, by have := H.out.2.2.2.2.1; omega, fun k hk ha => ?_⟩
  ·
   have := hca k _ (by rw [hnv]; exact slK_get vs k (by omega))
   rwa [Addr.add_mid, Nat.zero_add] at this
  ·
   rcases hro.at (k := k) (by omega) with h1 | ⟨h1, h2, h3, h4, h5⟩
   ·
    exact .inl h1
   ·
    have := h5.lt
    exact .inr ⟨h1, h2, h3, h4, by omega, by omega⟩
  ·
   have hv : vs[k]? = some (vs[k]'(by omega)) := List.getElem?_eq_getElem _
   have := hro.few k _ hv
   unfold lenOf
   rw [hv]
   exact this
  ·
   rcases hro.at (k := k) (by omega) with h1 | ⟨_, _, _, _, cs, h5, h6⟩
   ·
    exact absurd h1.1 ha
   ·
    exact ⟨cs, (hold _ h5.lt).trans h5, h6⟩
 have lotV : LotsAV 24 2 w5 LV B 1 (fun _ => some ⟨V0, 0, none⟩) (fun _ => V0) (fun _ => n) (fun _ => cV) := by
  have hv0 := hro.blk.lt
  refine ⟨⟨(Array.getElem?_eq_some_iff.1 hLVh).1, fun k hk => ?_, fun k hk => .inr ⟨rfl, by rw [hnv]; exact hro.room.1, hro.room.2.1, hro.room.2.2, by omega, by omega⟩, fun k hk => by have := H.out.2.2.2.2.1; omega, fun i j hi hj hne => by omega, by omega⟩, by decide, fun k hk _ => ?_⟩
  ·
   obtain rfl : k = 0 := by omega
   have := hcv 0 (.slice (some ⟨V0, 0, none⟩) n cV) rfl
   rwa [Addr.add_mid, Nat.zero_add] at this
  ·
   obtain ⟨cs, h5, h6⟩ := hro.blk
   exact ⟨cs, (hold _ h5.lt).trans h5, h6⟩
 have hon : ∀ k, k < n → paOf vs k ≠ none → blkOf vs k < w.heap.size ∧ V0 ≠ blkOf vs k := fun k hk ha => by
  rcases hro.at (k := k) (by omega) with h1 | ⟨_, _, _, _, h5⟩
  ·
   exact absurd h1.1 ha
  ·
   exact ⟨h5.lt, blk_apart hro.blk h5 (by decide)⟩
 have hap := apartAV_any w5 w.heap.size B LA n cA (paOf vs) (blkOf vs) (lenOf vs) (capOf vs) LV 1 cL (fun _ => some ⟨V0, 0, none⟩) (fun _ => V0) (fun _ => n) (fun _ => cV) (by omega) hl lotA lotV
  (fun k hk ha => by have := (hon k hk ha).1; omega) (fun k hk _ => by have := hro.blk.lt; omega) (fun k hk ha => ⟨by have := (hon k hk ha).1; omega, fun j hj _ => (hon k hk ha).2⟩)
 have HA := Lib.hid hap
 clear hap hon lotA lotV hold hsz5 hro hBw hca hcv hnpos hnv hl hra hrv hLAh hLVh hLA hLV
 go_wp2_with (go_at_call 63; refine HA.out.mono ?_; rintro e w6 ⟨rfl, hb6⟩)
 go_ret
 exact ⟨rfl, (HBG.out.1.mono H.out.2.2.2.2.2).trans (HI.out.below.trans hb6)⟩
end Go.Proofs.YtjngghihciimjaaGreat
namespace Go.Proofs.YtjngghihciimjaaGreat
set_option maxRecDepth 100000
open Go.RowKit Go.Sort Go.Maps
attribute [-go_sem] Instr.build
theorem infoRT : (Tryz.prog.info? 49).map (fun i => (i.zero, i.size, i.bytes)) = some (some (.slice none 0 0), 1, 24) := by kernel_rfl
def PutT (w w' : World) (B base Bg : Nat) (a : Value) (vs : List Value) (x : Value) : Prop :=
 ∃ a', Lies w' Bg (bagTT a') 116 ∧ w'.ownsRow base 49 1 a' (vs.length + 1) (vs ++ [x]) ∧ Below B w w' ∧ base ≤ w'.heap.size ∧ ∀ g, g < w.heap.size → g ≠ Bg → some g ≠ a.ownBlock → w'.heap[g]? = w.heap[g]?
set_option maxHeartbeats 2000000 in
theorem putT_any (w : World) (B base Bg : Nat) (vs : List Value) (ua : Value) (la : Option Addr) (ln lc : Nat) (hB : B ≤ Bg) (hbb : B ≤ base) (hbs : Bg < base) (hlen : vs.length ≤ 1000) (hbw : base ≤ w.heap.size) (hbg : Lies w Bg (bagTT ua) 116) (hr : w.ownsRow base 49 1 ua vs.length vs) :
    Calls Tryz.prog 73 #[.pointer (some ⟨Bg, 0, none⟩), .slice la ln lc] w fun e w' => e = .returned (.tuple #[]) ∧ PutT w w' B base Bg ua vs (.slice la ln lc) := by
  obtain ⟨i0, hi0, hz0, hz1, hz2⟩ := info_partsZ infoRT
  have c7 := hbg.cell 23 (v := ua) rfl
  have hbga := hbg.alloc (.cells #[.slice la ln lc] 49)
  have hra := hr.alloc (.cells #[.slice la ln lc] 49)
  have HI := Lib.hid (And.intro hi0 (And.intro hz0 (And.intro hz1 hz2)))
  have HB := Lib.hid (And.intro hB (And.intro hbb (And.intro hbs (And.intro hlen hbw))))
  have HA := Lib.hid (And.intro hbga hra)
  clear hbg hr hbga hra hi0 hz0 hz1 hz2 hB hbb hbs hlen hbw
  go_enter Tryz.func73, Tryz.ntmps73
  go_wp2_with (first
    | (at_builtin; go_must (refine wpList_append_own _ rfl _ _ 58 rfl base 49 i0 (.slice none 0 0) 1 24 Tryz.underlying58 HI.out.1 HI.out.2.1 HI.out.2.2.1 HI.out.2.2.2 rfl (by decide) ua vs.length vs rfl HA.out.2 ⟨w.heap.size, 0, none⟩ 1 1 [.slice la ln lc] rfl rfl (cell_one_new _ _ _) (by simp; rfl) (by have := HB.out.2.2.2.1; unfold maxLen; omega) (by have := HB.out.2.2.2.1; omega) (by have := HB.out.2.2.2.2; simp; omega) ?_)
       intro v' w7 hown hgrow hnil
       have hne : v'.ownBlock ≠ some Bg := fun e => by have := hown.lt Bg e; have := HB.out.2.2.1; omega
       have hl7 : Lies w7 Bg (bagTT ua) 116 := (hgrow.block Bg HA.out.1.lt (fun e => by have := (HA.out.2.lt Bg e.symm).1; have := HB.out.2.2.1; omega)).trans HA.out.1
       have hb7 : Below B w w7 := ((Below.refl _ _).alloc (Nat.le_trans HB.out.2.1 HB.out.2.2.2.2) _).grown hgrow (by have := HB.out.2.2.2.2; have := HB.out.2.1; simp; omega) (fun j e => by have := (HA.out.2.lt j e).1; have := HB.out.2.1; omega)
       have hs7 : base ≤ w7.heap.size := by have := hgrow.size; have := HB.out.2.2.2.2; simp at *; omega
       have ho7 : ∀ g, g < w.heap.size → some g ≠ ua.ownBlock → w7.heap[g]? = w.heap[g]? := fun g hg hn => old_of_alloc hgrow g hg hn
       have hsh : ∃ g c, v' = .slice (some ⟨g, 0, none⟩) (vs.length + 1) c := by
         rcases hown.2 with ⟨_, h0⟩ | ⟨g, cap, cur, rfl, _⟩
         · omega
         · exact ⟨g, cap, rfl⟩
       obtain ⟨g, c, rfl⟩ := hsh
       have H7 := Lib.hid (And.intro hown (And.intro hl7 (And.intro hb7 (And.intro hs7 (And.intro hne ho7)))))
       have c8 := hl7.cell 23 (v := ua) rfl
       have f8 := hl7.free 23
       clear hown hgrow hnil hl7 hb7 hs7 hne ho7))
  go_end0
  refine ⟨rfl, _, H7.out.2.1.set 23 _, ?_, H7.out.2.2.1.setCell (p := ⟨Bg, 23, none⟩) HB.out.1 _, by rw [size_set]; exact H7.out.2.2.2.1, fun g hg hn hn2 => (Below.heap_setCell _ _ _ _ (by exact hn)).trans (H7.out.2.2.2.2.2 g hg hn2)⟩
  exact own_keptO H7.out.1 (grownBy_set w7 Bg 23 _) (fun x hx e => H7.out.2.2.2.2.1 (by rw [hx, e]))
def paT (ts : List Tr) (k : Nat) : Option Addr := match ts[k]? with | some v => v.pa | none => none
def lenT (ts : List Tr) (k : Nat) : Nat := match ts[k]? with | some v => v.l.length | none => 0
def capT (ts : List Tr) (k : Nat) : Nat := match ts[k]? with | some v => v.c | none => 0
def blkT (ts : List Tr) (k : Nat) : Nat := match paT ts k with | some p => p.block | none => 0
structure RowsT (w : World) (B : Nat) (ts : List Tr) : Prop where
 own : ∀ (i : Nat) (v : Tr), ts[i]? = some v → RoomT B w v.pa v.l.length v.c
 few : ∀ (i : Nat) (v : Tr), ts[i]? = some v → v.l.length ≤ 100000
 apart : ∀ (i j : Nat), i < ts.length → j < ts.length → i ≠ j → paT ts i ≠ none → paT ts j ≠ none → blkT ts i ≠ blkT ts j
theorem RowsT.at {w : World} {B : Nat} {ts : List Tr} (h : RowsT w B ts) {k : Nat} (hk : k < ts.length) :
  (paT ts k = none ∧ lenT ts k = 0 ∧ capT ts k = 0) ∨ (paT ts k = some ⟨blkT ts k, 0, none⟩ ∧ lenT ts k ≤ capT ts k ∧ capT ts k ≤ maxLen ∧ B ≤ blkT ts k ∧ Blk 75 35 w (blkT ts k) (capT ts k)) := by
 have hv : ts[k]? = some ts[k] := List.getElem?_eq_getElem hk
 unfold blkT paT lenT capT
 rw [hv]
 rcases h.own k _ hv with h1 | ⟨g, h1, h2, h3, h4, h5⟩
 ·
  exact .inl h1
 ·
  refine .inr ?_
  simp only [h1]
  exact ⟨trivial, h2, h3, h4, h5⟩
def slT (ts : List Tr) (k : Nat) : List Value := (ts.take k).map fun v => .slice v.pa v.l.length v.c
theorem slT_length (ts : List Tr) (k : Nat) (h : k ≤ ts.length) : (slT ts k).length = k := by simp [slT, h]
theorem slT_succ (ts : List Tr) (k : Nat) (v : Tr) (h : ts[k]? = some v) : slT ts (k + 1) = slT ts k ++ [.slice v.pa v.l.length v.c] := by
 unfold slT
 rw [List.take_add_one, h]
 simp
theorem slT_get (ts : List Tr) (k : Nat) (hk : k < ts.length) : (slT ts ts.length)[k]? = some (.slice (paT ts k) (lenT ts k) (capT ts k)) := by
 have hv : ts[k]? = some ts[k] := List.getElem?_eq_getElem hk
 unfold slT paT lenT capT
 rw [hv, List.take_length, List.getElem?_map, hv]
 rfl
theorem build_bagT (w : World) : (Instr.build 116 #[]).run Tryz.prog w = .ok (.agg (bagTT (.slice none 0 0))) w := run_build w 116 _ _ (by kernel_rfl)
structure InBagT (w W : World) (B base Bg : Nat) (ts : List Tr) (k : Nat) : Prop where
 bag : ∃ u, Lies W Bg (bagTT u) 116 ∧ W.ownsRow base 49 1 u k (slT ts k)
 below : Below B w W
 size : base ≤ W.heap.size
 old : ∀ g, g < w.heap.size → W.heap[g]? = w.heap[g]?
set_option maxHeartbeats 4000000 in
theorem apartT_any (w : World) (L0 c0 B : Nat) (ts : List Tr) (hL0 : L0 < w.heap.size) (hc : ∀ (k : Nat) (v : Tr), ts[k]? = some v → w.cell? ⟨L0, k, none⟩ = some (.slice v.pa v.l.length v.c)) (h : RowsT w B ts) (hn : 0 < ts.length) (hfew : ts.length ≤ 1000) (hB : B ≤ w.heap.size) :
  Calls Tryz.prog 33 #[.slice (some ⟨L0, 0, none⟩) ts.length c0] w fun e w' => e = .returned (.bool true) ∧ Below B w w' ∧ ∀ g, g < w.heap.size → (∀ k, k < ts.length → paT ts k ≠ none → g ≠ blkT ts k) → w'.heap[g]? = w.heap[g]? := by
 obtain ⟨n, hnn⟩ : ∃ n, n = ts.length := ⟨_, rfl⟩
 have hb0 : Below w.heap.size w (w.alloc (.cells (bagTT (.slice none 0 0)) 116)) := (Below.refl _ _).alloc (Nat.le_refl _) _
 have hbg : Lies (w.alloc (.cells (bagTT (.slice none 0 0)) 116)) w.heap.size (bagTT (.slice none 0 0)) 116 := Lies.new _ _ _
 have hsz : (w.alloc (.cells (bagTT (.slice none 0 0)) 116)).heap.size = w.heap.size + 1 := by simp
 have hbld := build_bagT
 have q1 : (n : Int) ≤ 1000 := by omega
 have q0 : (0 : Int) ≤ (n : Int) := by omega
 have HBG := Lib.hid (And.intro hb0 (And.intro hbg hsz))
 have H := Lib.hid (And.intro hL0 (And.intro hc (And.intro h (And.intro hn (And.intro hfew (And.intro hB hnn))))))
 rw [← hnn]
 clear hb0 hbg hsz hL0 hc h hn hfew hB hnn
 go_enter Tryz.func33, Tryz.ntmps33
 go_upto_region 2 with fail
 clear hbld
 generalize w.alloc (.cells (bagTT (.slice none 0 0)) 116) = W0 at HBG ⊢
 have hst : InBagT w W0 B (w.heap.size + 1) w.heap.size ts 0 := ⟨⟨_, HBG.out.2.1, World.ownsRow_nil _ _ _ _⟩, HBG.out.1.mono H.out.2.2.2.2.2.1, by rw [HBG.out.2.2]; exact Nat.le_refl _, fun g hg => HBG.out.1.block g hg⟩
 have HST := Lib.hid hst
 clear hst HBG
 go_wp2_with fail
 go_loopw [4] (fun i W => ∃ k : Nat, k ≤ n ∧ i = .int .i64 k ∧ InBagT w W B (w.heap.size + 1) w.heap.size ts k) (fun i _ => n - (intOf i).toNat)
 case atStart => exact ⟨0, Nat.zero_le _, rfl, HST.out⟩
 case round =>
  clear HST
  obtain ⟨k, hk, rfl, hin⟩ := hrel
  by_cases hlt : k < n
  ·
   as_aux_lemma =>
   have m1 : (k : Int) < (n : Int) := by omega
   have m1n : k < n := hlt
   have m0 : (0 : Int) ≤ (k : Int) := by omega
   obtain ⟨y, hy⟩ : ∃ y, ts[k]? = some y := ⟨ts[k]'(by have := H.out.2.2.2.2.2.2; omega), List.getElem?_eq_getElem _⟩
   have c1 := (cell_block (hin.old L0 H.out.1) k).trans (H.out.2.1 k y hy)
   obtain ⟨u, hl, hr⟩ := hin.bag
   have hsl : (slT ts k).length = k := slT_length ts k (by have := H.out.2.2.2.2.2.2; omega)
   have hput := putT_any wr B (w.heap.size + 1) w.heap.size (slT ts k) u y.pa y.l.length y.c H.out.2.2.2.2.2.1 (by have := H.out.2.2.2.2.2.1; omega) (Nat.lt_succ_self _) (by have := H.out.2.2.2.2.1; have := H.out.2.2.2.2.2.2; omega) hin.size hl (by rw [hsl]; exact hr)
   have HR := Lib.hid (And.intro hput (And.intro hlt (And.intro hin (And.intro hsl (And.intro hy hr)))))
   clear hput hlt hin hsl hy hr hl hk
   go_wp2_with (go_at_call 73; refine HR.out.1.mono ?_; rintro e w5 ⟨rfl, hpa⟩)
   obtain ⟨u', h1, h2, h3, h4, h5⟩ := hpa
   have hfin : InBagT w w5 B (w.heap.size + 1) w.heap.size ts (k + 1) := by
    refine ⟨⟨u', h1, ?_⟩, HR.out.2.2.1.below.trans h3, h4, fun g hg => ?_⟩
    ·
     rw [slT_succ ts k y HR.out.2.2.2.2.1]
     have e := HR.out.2.2.2.1
     rw [e] at h2
     exact h2
    ·
     have hga : some g ≠ u.ownBlock := fun e => by have := (HR.out.2.2.2.2.2.lt g e.symm).1; omega
     exact (h5 g (Nat.lt_of_lt_of_le hg HR.out.2.2.1.below.size) (by omega) hga).trans (HR.out.2.2.1.old g hg)
   have HF := Lib.hid hfin
   clear hfin h1 h2 h3 h4 h5 c1
   go_wp2_with fail
   refine ⟨⟨k + 1, by have := HR.out.2.1; omega, by go_num, HF.out⟩, ?_⟩
   have := HR.out.2.1
   simp [intOf]; omega
  ·
   as_aux_lemma =>
   obtain rfl : k = n := by omega
   have m1 : decide ((k : Int) < (k : Int)) = false := by simp
   have m1n : ¬ k < k := by omega
   obtain ⟨u, hl, hr⟩ := hin.bag
   have hca := fun g (e : u.ownBlock = some g) => hr.cells (g := g) e
   have hnv := H.out.2.2.2.2.2.2
   have hpos := H.out.2.2.2.1
   rcases hr.2 with ⟨_, h0⟩ | ⟨LA, cA, curA, rfl, hLA, hLAh, _⟩
   ·
    omega
   have hca := hca LA rfl
   have hro := H.out.2.2.1
   have hBw := H.out.2.2.2.2.2.1
   have hsz5 : w.heap.size + 1 ≤ wr.heap.size := hin.size
   have lotT : LotsTT 75 35 wr LA B k (paT ts) (blkT ts) (lenT ts) (capT ts) := by
    refine ⟨⟨(Array.getElem?_eq_some_iff.1 hLAh).1, fun i hi => ?_, fun i hi => ?_, fun i hi => ?_, fun i j hi hj hne => hro.apart i j (by omega) (by omega) hne, by omega⟩, by have := H.out.2.2.2.2.1; omega, fun i hi ha => ?_⟩
    ·
     have := hca i _ (by rw [hnv]; exact slT_get ts i (by omega))
     rwa [Addr.add_mid, Nat.zero_add] at this
    ·
     rcases hro.at (k := i) (by omega) with h1 | ⟨h1, h2, h3, h4, h5⟩
     ·
      exact .inl h1
     ·
      have := h5.lt
      exact .inr ⟨h1, h2, h3, h4, by omega, by omega⟩
    ·
     have hv : ts[i]? = some (ts[i]'(by omega)) := List.getElem?_eq_getElem _
     have := hro.few i _ hv
     unfold lenT
     rw [hv]
     exact this
    ·
     rcases hro.at (k := i) (by omega) with h1 | ⟨_, _, _, _, cs, h5, h6⟩
     ·
      exact absurd h1.1 ha
     ·
      exact ⟨cs, (hin.old _ h5.lt).trans h5, h6⟩
   have hap := apartTT_any wr w.heap.size B LA k cA (paT ts) (blkT ts) (lenT ts) (capT ts) (by omega) hl lotT
    (fun i hi ha => by
     rcases hro.at (k := i) (by omega) with h1 | ⟨_, _, _, _, h5⟩
     ·
      exact absurd h1.1 ha
     ·
      have := h5.lt; omega)
   have HA := Lib.hid (And.intro hap (And.intro hin.below hin.old))
   clear hap lotT hro hBw hca hnv hpos hl hr hLAh hLA hsz5 hin hlt hk
   go_wp2_with (go_at_call 63; refine HA.out.1.mono ?_; rintro e w6 ⟨rfl, hb6, hrest⟩)
   go_ret
   exact ⟨rfl, HA.out.2.1.trans hb6, fun g hg hn => (hrest g (Nat.lt_of_lt_of_le hg HA.out.2.1.size) (fun i hi ha => hn i hi ha)).trans (HA.out.2.2 g hg)⟩
end Go.Proofs.YtjngghihciimjaaGreat
namespace Go.Proofs.YtjngghihciimjaaGreat
set_option maxRecDepth 100000
open Go.RowKit Go.Sort Go.Maps
theorem len_sub : ∀ (l m : List Nm), l.Pairwise (fun a b => a ≠ b) → (∀ a, a ∈ l → a ∈ m) → l.length ≤ m.length
  | [], _, _, _ => Nat.zero_le _
  | a :: l, m, hp, hs => by
    obtain ⟨h1, h2⟩ := List.pairwise_cons.1 hp
    have ha : a ∈ m := hs a (by simp)
    have ih := len_sub l (m.erase a) h2 fun b hb => (List.mem_erase_of_ne (Ne.symm (h1 b hb))).2 (hs b (by simp [hb]))
    rw [List.length_erase_of_mem ha] at ih
    have : 0 < m.length := List.length_pos_of_mem ha
    rw [List.length_cons]
    omega
theorem duoT {l : List To} {p q : Option Addr} {c d n B : Nat} {w : World} (h1 : RoomT B w p l.length c) (h2 : RoomT B w q l.length d) (hl : l.length ≤ 100000) (a1 : ∀ a, p = some a → a.block < n) (a2 : ∀ a, q = some a → n ≤ a.block) : RowsT w B [⟨p, l, c⟩, ⟨q, l, d⟩] := by
  have key : paT [⟨p, l, c⟩, ⟨q, l, d⟩] 0 ≠ none → paT [⟨p, l, c⟩, ⟨q, l, d⟩] 1 ≠ none → blkT [⟨p, l, c⟩, ⟨q, l, d⟩] 0 ≠ blkT [⟨p, l, c⟩, ⟨q, l, d⟩] 1 := by
    intro ha hb
    have ha : p ≠ none := ha
    have hb : q ≠ none := hb
    cases p with
    | none => exact absurd rfl ha
    | some x =>
      cases q with
      | none => exact absurd rfl hb
      | some y =>
        have k1 := a1 x rfl
        have k2 := a2 y rfl
        show x.block ≠ y.block
        omega
  refine ⟨fun i v hv => ?_, fun i v hv => ?_, fun i j hi hj hne ha hb => ?_⟩
  · have : v = ⟨p, l, c⟩ ∨ v = ⟨q, l, d⟩ := by simpa using List.mem_of_getElem? hv
    rcases this with rfl | rfl
    · exact h1
    · exact h2
  · have : v = ⟨p, l, c⟩ ∨ v = ⟨q, l, d⟩ := by simpa using List.mem_of_getElem? hv
    rcases this with rfl | rfl
    · exact hl
    · exact hl
  · simp only [List.length_cons, List.length_nil] at hi hj
    have : (i = 0 ∧ j = 1) ∨ (i = 1 ∧ j = 0) := by omega
    rcases this with ⟨rfl, rfl⟩ | ⟨rfl, rfl⟩
    · exact key ha hb
    · exact (key hb ha).symm
theorem room_lt {B : Nat} {w : World} {p : Option Addr} {n c : Nat} (h : RoomT B w p n c) : ∀ a, p = some a → B ≤ a.block ∧ a.block < w.heap.size := fun a e => by
 rcases h with h | ⟨g, h1, _, _, h4, cs, h5, _⟩
 ·
  rw [h.1] at e; cases e
 ·
  rw [h1] at e; cases e; exact ⟨h4, h5.lt⟩
theorem tot_len {f : Nm → BitVec 128} {l : List To} {L : List Ct} (h : IsTot f (ctT l)) (e : ∀ n, f n = sumAt L n) : l.length ≤ L.length := by
 have h1 := len_sub ((ctT l).map (·.1)) (L.map (·.1)) (by
  rw [List.pairwise_map]
  exact h.rise.imp fun {p q} hpq e => by rw [e] at hpq; exact cN_irrefl _ hpq) (fun n hn => by
  obtain ⟨p, hp, rfl⟩ := List.mem_map.1 hn
  have h2 := h.says p hp
  obtain ⟨q, hq, e2⟩ := sumAt_mem (by rw [← e, ← h2.1]; exact h2.2)
  exact List.mem_map.2 ⟨q, hq, e2⟩)
 simpa [ctT] using h1
end Go.Proofs.YtjngghihciimjaaGreat
namespace Go.Proofs.YtjngghihciimjaaGreat
set_option maxRecDepth 100000
open Go.RowKit
theorem count_true (l : Array Bool) (i : Nat) (h : l.getD i true = false) : (l.setIfInBounds i true).toList.count false + 1 = l.toList.count false := by
 have hi : i < l.size := by
  apply Decidable.byContradiction
  intro hn
  rw [Array.getD_eq_getD_getElem?, Array.getElem?_eq_none (by omega)] at h
  cases h
 have hv : l.toList[i]'(by simpa using hi) = false := by
  rw [Array.getD_eq_getD_getElem?, Array.getElem?_eq_getElem hi] at h
  simpa using h
 rw [Array.toList_setIfInBounds, List.count_set (by simpa using hi), hv]
 have hm : false ∈ l.toList := by rw [← hv]; exact List.getElem_mem _
 have hp : 0 < l.toList.count false := List.count_pos_iff.2 hm
 generalize l.toList.count false = c at hp ⊢
 have e : (if (true == false) = true then 1 else 0 : Nat) = 0 := rfl
 have e2 : (if (false == false) = true then 1 else 0 : Nat) = 1 := rfl
 rw [e, e2]
 omega
theorem put_twice (a : Act) (s : Tmp) (u v : Value) : (a.put (some s) u).put (some s) v = a.put (some s) v := by simp [Act.put]
theorem put_turn (a : Act) (s t : Tmp) (u v : Value) (h : s ≠ t) : (a.put (some s) u).put (some t) v = (a.put (some t) v).put (some s) u := by
 simp only [Act.put]; rw [Array.setIfInBounds_comm _ _ h]
theorem all_two {p : Bool → Bool} (h : [false, true].all p = true) (b : Bool) : p b = true := by
 simp at h
 cases b
 ·
  exact h.1
 ·
  exact h.2
theorem put_self (a : Act) (s : Tmp) : a.put (some s) (a.tmps.getD s undef) = a := by
  cases a with
  | mk tmps defers =>
    simp only [Act.put]
    congr 1
    apply Array.ext
    · simp
    · intro i h1 h2
      rw [Array.getElem_setIfInBounds (by simpa using h2)]
      split
      · rename_i h; subst h; simp [Array.getD_eq_getD_getElem?, h2]
      · rfl
theorem eval_put_same (a : Act) (s : Tmp) (v : Value) (h : s < a.tmps.size) : (a.put (some s) v).eval (.tmp s) = v := by
 simp [Act.put, Act.eval, Array.getD_eq_getD_getElem?, h]
theorem eval_put_other (a : Act) (s t : Tmp) (v : Value) (h : s ≠ t) : (a.put (some s) v).eval (.tmp t) = a.eval (.tmp t) :=
 Act.eval_put (fun d hd => by intro e; injection e with e; injection hd with hd; exact h (hd.trans e.symm))
theorem put_size (a : Act) (s : Tmp) (v : Value) : (a.put (some s) v).tmps.size = a.tmps.size := by simp [Act.put]
def putF (a : Act) : List Tmp → (Tmp → Value) → Act
 | [], _ => a
 | s :: l, f => (putF a l f).put (some s) (f s)
theorem putF_size (a : Act) (f : Tmp → Value) : ∀ l : List Tmp, (putF a l f).tmps.size = a.tmps.size
 | [] => rfl
 | s :: l => by rw [putF, put_size, putF_size a f l]
theorem putF_eval (a : Act) (f : Tmp → Value) (s : Tmp) (h : s < a.tmps.size) : ∀ l : List Tmp, s ∈ l → (putF a l f).eval (.tmp s) = f s
  | [], hs => by cases hs
  | t :: l, hs => by
    by_cases e : t = s
    · subst e
      exact eval_put_same _ _ _ (by rw [putF_size]; exact h)
    · rw [putF, eval_put_other _ _ _ _ e]
      exact putF_eval a f s h l (by rcases List.mem_cons.1 hs with h1 | h1; exact absurd h1.symm e; exact h1)
theorem putF_none (a : Act) (f : Tmp → Value) (s : Tmp) (v : Value) : ∀ l : List Tmp, s ∉ l → putF a l (fun t => if t = s then v else f t) = putF a l f
  | [], _ => rfl
  | t :: l, h => by
    have h1 : ¬ t = s := fun e => h (by rw [e]; simp)
    rw [putF, putF, if_neg h1, putF_none a f s v l (fun h2 => h (List.mem_cons_of_mem _ h2))]
theorem putF_put (a : Act) (f : Tmp → Value) (s : Tmp) (v : Value) : ∀ l : List Tmp, l.Nodup → s ∈ l → (putF a l f).put (some s) v = putF a l (fun t => if t = s then v else f t)
  | [], _, h => by cases h
  | t :: l, hn, h => by
    have hn2 := List.nodup_cons.1 hn
    by_cases e : t = s
    · subst e
      rw [putF, put_twice, putF, if_pos rfl, putF_none a f t v l hn2.1]
    · rw [putF, put_turn _ _ _ _ _ e, putF_put a f s v l hn2.2 (by rcases List.mem_cons.1 h with h1 | h1; exact absurd h1.symm e; exact h1), putF, if_neg e]
theorem put_none (a : Act) (v : Value) : a.put none v = a := rfl
theorem putF_self (a : Act) : ∀ l : List Tmp, putF a l (fun t => a.tmps.getD t undef) = a
 | [] => rfl
 | s :: l => by rw [putF, putF_self a l, put_self]
section
variable {P : Program} {ops : Array Oper} {Q : Exit → Act → World → Prop} {md : Region.Mode} {S : World → Prop}
theorem wpAnyH_inv (I : Array Bool → Act → World → Prop) (hdone : ∀ l a w, I l a w → Region.ready md ops l = [] → Q .normal a w)
    (hstep : ∀ l a w i, I l a w → i ∈ Region.ready md ops l → wpOp P ops Q i (fun a' w' => S w' ∧ I (l.setIfInBounds i true) a' w') a w) :
    ∀ fuel l a w, l.toList.count false ≤ fuel → I l a w → wpAnyH P md ops Q S fuel l a w := by
  intro fuel
  induction fuel with
  | zero =>
    intro l a w hc hI
    have hr : Region.ready md ops l = [] := by
      rw [List.eq_nil_iff_forall_not_mem]
      intro i hi
      have := count_true l i (mem_ready.1 hi).1
      omega
    exact ⟨hr, hdone _ _ _ hI hr⟩
  | succ fuel ih =>
    intro l a w hc hI
    refine ⟨fun h => hdone _ _ _ hI h, fun i hi => wpOp_mono (fun a' w' h' => ⟨h'.1, ih _ a' w' ?_ h'.2⟩) (hstep l a w i hI hi)⟩
    have := count_true l i (mem_ready.1 hi).1
    omega
end
structure LIdx where
 c1 : Nat
 c2 : Nat
 a1 : Nat
 a2 : Nat
 d1 : Nat
 d2 : Nat
def lRow (x : LIdx) (r : List Nat) (c1 c2 a1 a2 d1 d2 : Bool) : Bool :=
 r.all (fun i => (i == x.c1 && !c1) || (i == x.c2 && !c2 && c1) || (i == x.a1 && !a1) || (i == x.a2 && !a2) || (i == x.d1 && !d1 && c1 && c2 && a1 && a2) || (i == x.d2 && !d2 && d1 && c1 && c2 && a1 && a2)) &&
  (!r.isEmpty || (c1 && c2 && a1 && a2 && d1 && d2))
abbrev LL := Bool → Bool → Bool → Bool → Bool → Bool → Array Bool
def lReadyB (x : LIdx) (L : LL) (ops : Array Oper) : Bool :=
 [false, true].all fun c1 => [false, true].all fun c2 => [false, true].all fun a1 => [false, true].all fun a2 => [false, true].all fun d1 => [false, true].all fun d2 => lRow x (Region.ready .any ops (L c1 c2 a1 a2 d1 d2)) c1 c2 a1 a2 d1 d2
theorem l_ready {x : LIdx} {L : LL} {ops : Array Oper} (h : lReadyB x L ops = true) (c1 c2 a1 a2 d1 d2 : Bool) :
  (∀ i ∈ Region.ready .any ops (L c1 c2 a1 a2 d1 d2), i = x.c1 ∧ c1 = false ∨ i = x.c2 ∧ c2 = false ∧ c1 = true ∨ i = x.a1 ∧ a1 = false ∨ i = x.a2 ∧ a2 = false ∨
   i = x.d1 ∧ d1 = false ∧ c1 = true ∧ c2 = true ∧ a1 = true ∧ a2 = true ∨ i = x.d2 ∧ d2 = false ∧ d1 = true ∧ c1 = true ∧ c2 = true ∧ a1 = true ∧ a2 = true) ∧
  (Region.ready .any ops (L c1 c2 a1 a2 d1 d2) = [] → c1 = true ∧ c2 = true ∧ a1 = true ∧ a2 = true ∧ d1 = true ∧ d2 = true) := by
 have h2 := all_two (all_two (all_two (all_two (all_two (all_two h c1) c2) a1) a2) d1) d2
 generalize Region.ready .any ops (L c1 c2 a1 a2 d1 d2) = r at h2 ⊢
 unfold lRow at h2
 rw [Bool.and_eq_true, List.all_eq_true] at h2
 refine ⟨fun i hi => ?_, fun e => ?_⟩
 ·
  have := h2.1 i hi
  simp only [Bool.or_eq_true, Bool.and_eq_true, beq_iff_eq, Bool.not_eq_true'] at this
  rcases this with ((((h | h) | h) | h) | h) | h
  ·
   exact .inl h
  ·
   exact .inr (.inl ⟨h.1.1, h.1.2, h.2⟩)
  ·
   exact .inr (.inr (.inl h))
  ·
   exact .inr (.inr (.inr (.inl h)))
  ·
   exact .inr (.inr (.inr (.inr (.inl ⟨h.1.1.1.1.1, h.1.1.1.1.2, h.1.1.1.2, h.1.1.2, h.1.2, h.2⟩))))
  ·
   exact .inr (.inr (.inr (.inr (.inr ⟨h.1.1.1.1.1.1, h.1.1.1.1.1.2, h.1.1.1.1.2, h.1.1.1.2, h.1.1.2, h.1.2, h.2⟩))))
 ·
  have := h2.2
  subst e
  simp only [List.isEmpty_nil, Bool.not_true, Bool.false_or, Bool.and_eq_true] at this
  exact ⟨this.1.1.1.1.1, this.1.1.1.1.2, this.1.1.1.2, this.1.1.2, this.1.2, this.2⟩
theorem wp_allocT {P : Program} {T : TypeId} {z : Array Value} {Q : Exit → Act → World → Prop} {o : Oper} {a : Act} {w : World} {K : Act → World → Prop} (halloc : ∀ w, (Instr.alloc T true (.tuple #[])).run P w = .ok (.pointer (some ⟨w.heap.size, 0, none⟩)) (w.alloc (.cells z T))) (ho : o.op = .alloc T) (h : K (a.put o.dst (.pointer (some ⟨w.heap.size, 0, none⟩))) (w.alloc (.cells z T))) : o.wp P a w K Q := by
 unfold Oper.wp
 simp [execOp, ho, halloc, Result.andThen]
 exact h
def LI (T : TypeId) (z : Array Value) (R1 R2 : World → Array Value → Prop) (w0 : World) (L : LL) (a0 : Act) (r1 r2 p1 p2 : Tmp) (l : Array Bool) (a : Act) (w : World) : Prop :=
  ∃ c1 c2 a1 a2 d1 d2 : Bool, l = L c1 c2 a1 a2 d1 d2 ∧ ∃ (f : Tmp → Value) (g1 g2 : Nat) (v1 v2 : Array Value), a = putF a0 [r1, r2, p1, p2] f ∧
    (c1 = true → f r1 = .agg v1 ∧ R1 w v1) ∧
    (c2 = true → c1 = true ∧ f r2 = .agg v2 ∧ R2 w v2) ∧
    (a1 = true → f p1 = .pointer (some ⟨g1, 0, none⟩) ∧ w0.heap.size ≤ g1 ∧ Lies w g1 (if d1 then v1 else z) T) ∧
    (a2 = true → f p2 = .pointer (some ⟨g2, 0, none⟩) ∧ w0.heap.size ≤ g2 ∧ Lies w g2 (if d2 then v2 else z) T) ∧
    (a1 = true → a2 = true → g1 ≠ g2) ∧ (d1 = true → c1 = true ∧ c2 = true ∧ a1 = true ∧ a2 = true) ∧ (d2 = true → d1 = true) ∧ Below w0.heap.size w0 w
set_option maxHeartbeats 8000000 in
theorem pair_any {P : Program} {ops : Array Oper} {Q : Exit → Act → World → Prop} (T : TypeId) (z : Array Value) (n : Nat) (F1 F2 : FuncId) (R1 R2 : World → Array Value → Prop) (w0 : World) (x : LIdx) (L : LL) (a0 : Act) (r1 r2 p1 p2 : Tmp)
  (hnd : [r1, r2, p1, p2].Nodup) (hsz : ∀ s ∈ [r1, r2, p1, p2], s < a0.tmps.size) (nv1 nv2 : Array Value) (halloc : ∀ w, (Instr.alloc T true (.tuple #[])).run P w = .ok (.pointer (some ⟨w.heap.size, 0, none⟩)) (w.alloc (.cells z T))) (hz : z.size = n) (hinf : (P.info? T).map (·.size) = some n)
  (sz1 : ∀ w cs, R1 w cs → cs.size = n ∧ cs.all (·.oneCell') = true) (sz2 : ∀ w cs, R2 w cs → cs.size = n ∧ cs.all (·.oneCell') = true) (kp1 : ∀ w w' cs, R1 w cs → Below w.heap.size w w' → R1 w' cs) (kp2 : ∀ w w' cs, R2 w cs → Below w.heap.size w w' → R2 w' cs)
  (st1 : ∀ w g cs0 cs cs', R1 w cs → Lies w g cs0 T → R1 (w.setRow g cs') cs) (st2 : ∀ w g cs0 cs cs', R2 w cs → Lies w g cs0 T → R2 (w.setRow g cs') cs) (oc1 oc2 oa1 oa2 od1 od2 : Oper)
  (ic1 : ops[x.c1]? = some oc1) (gc1 : oc1.guard = none) (dc1 : oc1.dst = some r1) (rc1 : ∀ f w, (execOp (putF a0 [r1, r2, p1, p2] f).eval oc1).run P w = .ok (.enter F1 nv1) w)
  (ic2 : ops[x.c2]? = some oc2) (gc2 : oc2.guard = none) (dc2 : oc2.dst = some r2) (rc2 : ∀ f w, (execOp (putF a0 [r1, r2, p1, p2] f).eval oc2).run P w = .ok (.enter F2 nv2) w)
  (ia1 : ops[x.a1]? = some oa1) (ga1 : oa1.guard = none) (da1 : oa1.dst = some p1) (op1 : oa1.op = .alloc T)
  (ia2 : ops[x.a2]? = some oa2) (ga2 : oa2.guard = none) (da2 : oa2.dst = some p2) (op2 : oa2.op = .alloc T)
  (id1 : ops[x.d1]? = some od1) (gd1 : od1.guard = none) (dd1 : od1.dst = none) (od1' : od1.op = .store T (.tmp p1) (.tmp r1))
  (id2 : ops[x.d2]? = some od2) (gd2 : od2.guard = none) (dd2 : od2.dst = none) (od2' : od2.op = .store T (.tmp p2) (.tmp r2))
  (hr : lReadyB x L ops = true)
  (l2 : ∀ c2 a1 a2 d1 d2, (L false c2 a1 a2 d1 d2).setIfInBounds x.c1 true = L true c2 a1 a2 d1 d2)
  (l4 : ∀ c1 a1 a2 d1 d2, (L c1 false a1 a2 d1 d2).setIfInBounds x.c2 true = L c1 true a1 a2 d1 d2)
  (l5 : ∀ c1 c2 a2 d1 d2, (L c1 c2 false a2 d1 d2).setIfInBounds x.a1 true = L c1 c2 true a2 d1 d2)
  (l6 : ∀ c1 c2 a1 d1 d2, (L c1 c2 a1 false d1 d2).setIfInBounds x.a2 true = L c1 c2 a1 true d1 d2)
  (l7 : ∀ c1 c2 a1 a2 d2, (L c1 c2 a1 a2 false d2).setIfInBounds x.d1 true = L c1 c2 a1 a2 true d2)
  (l8 : ∀ c1 c2 a1 a2 d1, (L c1 c2 a1 a2 d1 false).setIfInBounds x.d2 true = L c1 c2 a1 a2 d1 true)
  (hc1 : ∀ W, Below w0.heap.size w0 W → Calls P F1 nv1 W fun e w' => ∃ v, e = .returned (.agg v) ∧ R1 w' v ∧ Below W.heap.size W w')
  (hc2 : ∀ W, Below w0.heap.size w0 W → Calls P F2 nv2 W fun e w' => ∃ v, e = .returned (.agg v) ∧ R2 w' v ∧ Below W.heap.size W w')
  (hQ : ∀ f g1 g2 v1 v2 w', w0.heap.size ≤ g1 → w0.heap.size ≤ g2 → Lies w' g1 v1 T → Lies w' g2 v2 T → R1 w' v1 → R2 w' v2 → Below w0.heap.size w0 w' → f p1 = .pointer (some ⟨g1, 0, none⟩) → f p2 = .pointer (some ⟨g2, 0, none⟩) →
   Q .normal (putF a0 [r1, r2, p1, p2] f) w')
  (w : World) (hb : Below w0.heap.size w0 w) (fuel : Nat) (hfu : (L false false false false false false).toList.count false ≤ fuel) : wpAnyH P .any ops Q (Below w0.heap.size w0) fuel (L false false false false false false) a0 w := by
 have n24 : r1 ≠ r2 := fun e => by subst e; simp at hnd
 have n25 : r1 ≠ p1 := fun e => by subst e; simp at hnd
 have n26 : r1 ≠ p2 := fun e => by subst e; simp at hnd
 have n45 : r2 ≠ p1 := fun e => by subst e; simp at hnd
 have n46 : r2 ≠ p2 := fun e => by subst e; simp at hnd
 have n56 : p1 ≠ p2 := fun e => by subst e; simp at hnd
 refine wpAnyH_inv (LI T z R1 R2 w0 L a0 r1 r2 p1 p2) ?_ ?_ fuel _ _ _ hfu ?_
 ·
  rintro l a w1 ⟨c1, c2, a1, a2, d1, d2, rfl, f, g1, g2, v1, v2, rfl, k3, k4, k5, k6, -, -, -, k9⟩ hnil
  obtain ⟨rfl, rfl, rfl, rfl, rfl, rfl⟩ := (l_ready hr c1 c2 a1 a2 d1 d2).2 hnil
  exact hQ f g1 g2 v1 v2 w1 (k5 rfl).2.1 (k6 rfl).2.1 (k5 rfl).2.2 (k6 rfl).2.2 (k3 rfl).2 (k4 rfl).2.2 k9 (k5 rfl).1 (k6 rfl).1
 ·
  rintro l a w1 i ⟨c1, c2, a1, a2, d1, d2, rfl, f, g1, g2, v1, v2, rfl, k3, k4, k5, k6, k7, kd1, kd2, k9⟩ hi
  have hs9 := k9.size
  rcases (l_ready hr c1 c2 a1 a2 d1 d2).1 i hi with ⟨rfl, e⟩ | ⟨rfl, e, e2⟩ | ⟨rfl, e⟩ | ⟨rfl, e⟩ | ⟨rfl, e, e1, e2, e3, e4⟩ | ⟨rfl, e, e1, e2, e3, e4, e5⟩
  ·
   subst e
   have hc2f : c2 = false := by
    cases c2
    ·
     rfl
    ·
     have := (k4 rfl).1; cases this
   subst hc2f
   have hd1f : d1 = false := by
    cases d1
    ·
     rfl
    ·
     have := (kd1 rfl).1; cases this
   subst hd1f
   refine wpOp_callTo ic1 gc1 r1 dc1 F1 _ (rc1 f w1) (fun v w' => ∃ u, v = .agg u ∧ R1 w' u ∧ Below w1.heap.size w1 w') ((hc1 w1 k9).mono fun e w' ⟨u, h1, h2, h3⟩ => ⟨_, h1, u, rfl, h2, h3⟩) ?_
   rintro v w' ⟨u, rfl, hu2, hbw⟩
   have hb2 := k9.trans (hbw.mono hs9)
   refine ⟨hb2, ?_⟩
   rw [putF_put _ _ _ _ _ hnd (by simp), l2]
   refine ⟨true, false, a1, a2, false, d2, rfl, _, g1, g2, u, v2, rfl, fun _ => ⟨by rw [if_pos rfl], hu2⟩, (fun h => by cases h), fun h => ?_, fun h => ?_, k7, (fun h => by cases h), kd2, hb2⟩
   ·
    rw [if_neg (Ne.symm n25)]; exact ⟨(k5 h).1, (k5 h).2.1, (k5 h).2.2.below hbw (k5 h).2.2.lt⟩
   ·
    rw [if_neg (Ne.symm n26)]; exact ⟨(k6 h).1, (k6 h).2.1, (k6 h).2.2.below hbw (k6 h).2.2.lt⟩
  ·
   subst e e2
   have hd1f : d1 = false := by
    cases d1
    ·
     rfl
    ·
     have := (kd1 rfl).2.1; cases this
   subst hd1f
   have hd2f : d2 = false := by
    cases d2
    ·
     rfl
    ·
     have := kd2 rfl; cases this
   subst hd2f
   refine wpOp_callTo ic2 gc2 r2 dc2 F2 _ (rc2 f w1) (fun v w' => ∃ u, v = .agg u ∧ R2 w' u ∧ Below w1.heap.size w1 w') ((hc2 w1 k9).mono fun e w' ⟨u, h1, h2, h3⟩ => ⟨_, h1, u, rfl, h2, h3⟩) ?_
   rintro v w' ⟨u, rfl, hu2, hbw⟩
   have hb2 := k9.trans (hbw.mono hs9)
   refine ⟨hb2, ?_⟩
   rw [putF_put _ _ _ _ _ hnd (by simp), l4]
   refine ⟨true, true, a1, a2, false, false, rfl, _, g1, g2, v1, u, rfl, fun h => ?_, fun _ => ⟨rfl, by rw [if_pos rfl], hu2⟩, fun h => ?_, fun h => ?_, k7, (fun h => by cases h), (fun h => by cases h), hb2⟩
   ·
    rw [if_neg n24]; exact ⟨(k3 h).1, kp1 _ _ _ (k3 h).2 hbw⟩
   ·
    rw [if_neg (Ne.symm n45)]; exact ⟨(k5 h).1, (k5 h).2.1, (k5 h).2.2.below hbw (k5 h).2.2.lt⟩
   ·
    rw [if_neg (Ne.symm n46)]; exact ⟨(k6 h).1, (k6 h).2.1, (k6 h).2.2.below hbw (k6 h).2.2.lt⟩
  ·
   subst e
   have hd1f : d1 = false := by
    cases d1
    ·
     rfl
    ·
     have := (kd1 rfl).2.2.1; cases this
   subst hd1f
   have hb2 := k9.alloc hs9 (.cells z T)
   refine wpOp_wp ia1 ga1 (wp_allocT halloc op1 ⟨hb2, ?_⟩)
   rw [da1, putF_put _ _ _ _ _ hnd (by simp), l5]
   refine ⟨c1, c2, true, a2, false, d2, rfl, _, w1.heap.size, g2, v1, v2, rfl, fun h => ?_, fun h => ?_, fun _ => ⟨by rw [if_pos rfl], hs9, Lies.new _ _ _⟩, fun h => ?_, fun _ h => ?_, (fun h => by cases h), kd2, hb2⟩
   ·
    rw [if_neg n25]; exact ⟨(k3 h).1, kp1 _ _ _ (k3 h).2 ((Below.refl _ _).alloc (Nat.le_refl _) _)⟩
   ·
    rw [if_neg n45]; exact ⟨(k4 h).1, (k4 h).2.1, kp2 _ _ _ (k4 h).2.2 ((Below.refl _ _).alloc (Nat.le_refl _) _)⟩
   ·
    rw [if_neg (Ne.symm n56)]; exact ⟨(k6 h).1, (k6 h).2.1, (k6 h).2.2.alloc _⟩
   ·
    have := (k6 h).2.2.lt; omega
  ·
   subst e
   have hd1f : d1 = false := by
    cases d1
    ·
     rfl
    ·
     have := (kd1 rfl).2.2.2; cases this
   subst hd1f
   have hd2f : d2 = false := by
    cases d2
    ·
     rfl
    ·
     have := kd2 rfl; cases this
   subst hd2f
   have hb2 := k9.alloc hs9 (.cells z T)
   refine wpOp_wp ia2 ga2 (wp_allocT halloc op2 ⟨hb2, ?_⟩)
   rw [da2, putF_put _ _ _ _ _ hnd (by simp), l6]
   refine ⟨c1, c2, a1, true, false, false, rfl, _, g1, w1.heap.size, v1, v2, rfl, fun h => ?_, fun h => ?_, fun h => ?_, fun _ => ⟨by rw [if_pos rfl], hs9, Lies.new _ _ _⟩, fun h _ => ?_, (fun h => by cases h), (fun h => by cases h), hb2⟩
   ·
    rw [if_neg n26]; exact ⟨(k3 h).1, kp1 _ _ _ (k3 h).2 ((Below.refl _ _).alloc (Nat.le_refl _) _)⟩
   ·
    rw [if_neg n46]; exact ⟨(k4 h).1, (k4 h).2.1, kp2 _ _ _ (k4 h).2.2 ((Below.refl _ _).alloc (Nat.le_refl _) _)⟩
   ·
    rw [if_neg n56]; exact ⟨(k5 h).1, (k5 h).2.1, (k5 h).2.2.alloc _⟩
   ·
    have := (k5 h).2.2.lt; omega
  ·
   subst e e1 e2 e3 e4
   have hd2f : d2 = false := by
    cases d2
    ·
     rfl
    ·
     have := kd2 rfl; cases this
   subst hd2f
   obtain ⟨hr1, ho1⟩ := k3 rfl
   obtain ⟨-, hr2, ho2⟩ := k4 rfl
   obtain ⟨hp1, hg1, y1⟩ := k5 rfl
   obtain ⟨hp2, hg2, y2⟩ := k6 rfl
   have hv1 := sz1 _ _ ho1
   have hb2 := below_setRow k9 g1 v1 hg1
   refine wpOp_wp id1 gd1 (wp_store_row T (.tmp p1) (.tmp r1) od1' g1 v1 ((putF_eval a0 f p1 (hsz p1 (by simp)) _ (by simp)).trans hp1) ((putF_eval a0 f r1 (hsz r1 (by simp)) _ (by simp)).trans hr1) T _ y1 (by rw [hv1.1]; exact hinf) (by rw [hv1.1]; simpa using hz) hv1.2 ⟨hb2, ?_⟩)
   rw [dd1, put_none, l7]
   exact ⟨true, true, true, true, true, false, rfl, f, g1, g2, v1, v2, rfl, fun _ => ⟨hr1, st1 _ _ _ _ _ ho1 y1⟩, fun _ => ⟨rfl, hr2, st2 _ _ _ _ _ ho2 y1⟩, fun _ => ⟨hp1, hg1, y1.setRow _⟩, fun _ => ⟨hp2, hg2, y2.setRowOther _ _ (Ne.symm (k7 rfl rfl))⟩, k7, fun _ => ⟨rfl, rfl, rfl, rfl⟩, (fun h => by cases h), hb2⟩
  ·
   subst e e1 e2 e3 e4 e5
   obtain ⟨hr1, ho1⟩ := k3 rfl
   obtain ⟨-, hr2, ho2⟩ := k4 rfl
   obtain ⟨hp1, hg1, y1⟩ := k5 rfl
   obtain ⟨hp2, hg2, y2⟩ := k6 rfl
   have hv2 := sz2 _ _ ho2
   have hb2 := below_setRow k9 g2 v2 hg2
   refine wpOp_wp id2 gd2 (wp_store_row T (.tmp p2) (.tmp r2) od2' g2 v2 ((putF_eval a0 f p2 (hsz p2 (by simp)) _ (by simp)).trans hp2) ((putF_eval a0 f r2 (hsz r2 (by simp)) _ (by simp)).trans hr2) T _ y2 (by rw [hv2.1]; exact hinf) (by rw [hv2.1]; simpa using hz) hv2.2 ⟨hb2, ?_⟩)
   rw [dd2, put_none, l8]
   exact ⟨true, true, true, true, true, true, rfl, f, g1, g2, v1, v2, rfl, fun _ => ⟨hr1, st1 _ _ _ _ _ ho1 y2⟩, fun _ => ⟨rfl, hr2, st2 _ _ _ _ _ ho2 y2⟩, fun _ => ⟨hp1, hg1, y1.setRowOther _ _ (k7 rfl rfl)⟩, fun _ => ⟨hp2, hg2, y2.setRow _⟩, k7, fun _ => ⟨rfl, rfl, rfl, rfl⟩, fun _ => rfl, hb2⟩
 ·
  exact ⟨false, false, false, false, false, false, rfl, fun t => a0.tmps.getD t undef, 0, 0, #[], #[], (putF_self a0 _).symm, (fun h => by cases h), (fun h => by cases h), (fun h => by cases h), (fun h => by cases h), (fun h => by cases h), (fun h => by cases h), (fun h => by cases h), hb⟩
end Go.Proofs.YtjngghihciimjaaGreat
