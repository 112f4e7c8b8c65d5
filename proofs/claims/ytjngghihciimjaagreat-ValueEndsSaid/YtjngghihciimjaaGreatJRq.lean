/-
  A bundle that is lent (9).
-/
import Derived.Test.YtjngghihciimjaaGreatJAt
namespace Go.Proofs.YtjngghihciimjaaGreat
set_option maxRecDepth 100000
open Go.RowKit Go.Sort Go.Maps
theorem own_mono {w : World} {B B' k n : Nat} {e : TypeId} {v : Value} {xs : List Value} (h : w.ownsRow B e k v n xs) (hb : B' ≤ B) : w.ownsRow B' e k v n xs :=
 ⟨h.1, by
  rcases h.2 with h1 | ⟨g, cap, cur, h1, h2, h3⟩
  ·
   exact .inl h1
  ·
   exact .inr ⟨g, cap, cur, h1, Nat.le_trans hb h2, h3⟩⟩
theorem LentA.below {w U : World} {B : Nat} {l : List As} {v : Value} (h : LentA w B l v) (hb : Below w.heap.size w U) : LentA U B l v := by
 obtain ⟨g, c, h1, h2, h3⟩ := h
 exact ⟨g, c, h1, h2, ownsRow_below h3 hb⟩
theorem LentA.mono {w : World} {B B' : Nat} {l : List As} {v : Value} (h : LentA w B l v) (hb : B' ≤ B) : LentA w B' l v := by
 obtain ⟨g, c, h1, h2, h3⟩ := h
 exact ⟨g, c, h1, h2, own_mono h3 hb⟩
theorem LentA.cell {w : World} {B : Nat} {l : List As} {v : Value} (h : LentA w B l v) {b : Nat} (hb : b < B) (j : Nat) (u : Value) : LentA (w.setCell ⟨b, j, none⟩ u) B l v := by
 obtain ⟨g, c, h1, h2, h3⟩ := h
 exact ⟨g, c, h1, h2, h3.kept (grown_setCell _ _ _) (.inr (fun e => own_not h3 hb e.symm))⟩
theorem LentA.row {w : World} {B : Nat} {l : List As} {v : Value} (h : LentA w B l v) {b : Nat} (hb : b < B) (cs : Array Value) : LentA (w.setRow b cs) B l v := by
 obtain ⟨g, c, h1, h2, h3⟩ := h
 exact ⟨g, c, h1, h2, h3.kept (grown_setRow _ _ _) (.inr (fun e => own_not h3 hb e.symm))⟩
def LentVRes (w : World) (x : Int) (l : List As) (e : Ending) (w' : World) : Prop := ∃ s, e = .returned (.agg #[.int .i64 x, s]) ∧ LentA w' w.heap.size l s
attribute [-go_sem] Instr.build
attribute [-go_sem] Instr.buildSlice
set_option maxHeartbeats 2000000 in
theorem lentV_any (w : World) (x : Int) (pa : Option Addr) (l : List As) (c : Nat) (h : Row w pa l) (h0 : pa = none → c = 0) (hl : l.length ≤ 100000) :
  Calls Tryz.prog 9 #[.agg #[.int .i64 x, .slice pa l.length c]] w fun e w' => LentVRes w x l e w' ∧ Below w.heap.size w w' := by
 have hL1 : Lies ((w.alloc (.cells #[.int .i64 x, .slice pa l.length c] 24)).alloc (.cells #[.int .i64 0, .slice none 0 0] 24)) w.heap.size #[.int .i64 x, .slice pa l.length c] 24 := (Lies.new _ _ _).alloc _
 have hL2 : Lies ((w.alloc (.cells #[.int .i64 x, .slice pa l.length c] 24)).alloc (.cells #[.int .i64 0, .slice none 0 0] 24)) (w.heap.size + 1) #[.int .i64 0, .slice none 0 0] 24 := by
  have := Lies.new (w.alloc (.cells #[.int .i64 x, .slice pa l.length c] 24)) #[.int .i64 0, .slice none 0 0] 24
  simpa using this
 have hb0 : Below w.heap.size w ((w.alloc (.cells #[.int .i64 x, .slice pa l.length c] 24)).alloc (.cells #[.int .i64 0, .slice none 0 0] 24)) := ((Below.refl _ _).alloc (Nat.le_refl _) _).alloc (by simp) _
 have hsz : ((w.alloc (.cells #[.int .i64 x, .slice pa l.length c] 24)).alloc (.cells #[.int .i64 0, .slice none 0 0] 24)).heap.size = w.heap.size + 2 := by simp
 have hc := lentA_any _ pa l c (h.below hb0 (Nat.le_refl _)) h0 hl
 have H := Lib.hid (And.intro hL1 (And.intro hL2 (And.intro hb0 (And.intro hsz hc))))
 clear hL1 hL2 hb0 hsz hc h h0 hl
 go_enter Tryz.func9, Tryz.ntmps9
 go_upto_region 1 with fail
 generalize (w.alloc (.cells #[.int .i64 x, .slice pa l.length c] 24)).alloc (.cells #[.int .i64 0, .slice none 0 0] 24) = W0 at H ⊢
 have c1 := H.out.1.cell 1 (v := .slice pa l.length c) rfl
 go_wp2_with fail
 refine H.out.2.2.2.2.mono ?_
 rintro e w2 ⟨⟨s, rfl, hlent⟩, hb2⟩
 obtain ⟨sa, sn, sc, hs⟩ : ∃ a n c, s = .slice a n c := by
  obtain ⟨g, c2, h1, _⟩ := hlent
  exact ⟨_, _, _, h1⟩
 subst hs
 have hL1 := H.out.1.below hb2 H.out.1.lt
 have hL2 := H.out.2.1.below hb2 H.out.2.1.lt
 have hbw := H.out.2.2.1.trans (hb2.mono H.out.2.2.1.size)
 rw [H.out.2.2.2.1] at hlent
 have k1 : Lies (w2.setCell ⟨w.heap.size, 1, none⟩ (.slice sa sn sc)) w.heap.size #[.int .i64 x, .slice sa sn sc] 24 := hL1.set 1 _
 have k2 : Lies (w2.setCell ⟨w.heap.size, 1, none⟩ (.slice sa sn sc)) (w.heap.size + 1) #[.int .i64 0, .slice none 0 0] 24 := hL2.other _ _ (by simp)
 have k3 : Below w.heap.size w (w2.setCell ⟨w.heap.size, 1, none⟩ (.slice sa sn sc)) := below_setCell hbw _ _ (Nat.le_refl _)
 have k4 := hlent.cell (b := w.heap.size) (by omega) 1 (.slice sa sn sc)
 have d1 := hL1.cell 1 (v := .slice pa l.length c) rfl
 have f1 := hL1.free 1
 clear hb2 hlent hL1 hL2 hbw c1
 go_upto_region 2 with fail
 generalize w2.setCell ⟨w.heap.size, 1, none⟩ (.slice sa sn sc) = W3 at k1 k2 k3 k4 ⊢
 have p0 := k1.cell 0 (v := .int .i64 x) rfl
 have p1 := k1.cell 1 (v := .slice sa sn sc) rfl
 have HX := Lib.hid (And.intro k2 (And.intro k3 k4))
 clear d1 f1 k1 k2 k3 k4
 go_wp2_with (refine wpList_store_row rfl 24 _ _ rfl (w.heap.size + 1) #[.int .i64 x, .slice sa sn sc] rfl rfl 24 #[.int .i64 0, .slice none 0 0] HX.out.1 info_value rfl (by simp [Value.oneCell']) ?_)
 exact bodyPost_ret (v := .agg #[.int .i64 x, .slice sa sn sc]) (results_cell_row (p := 2) (ty := 24) (by kernel_rfl) _ _ (w.heap.size + 1) 24 #[.int .i64 x, .slice sa sn sc] (0, 0) _ rfl (HX.out.1.setRow _) Tryz.underlying24 rfl info_value) rfl ⟨⟨_, rfl, (HX.out.2.2.row (by omega) _).mono (by omega)⟩, below_setRow HX.out.2.1 _ _ (Nat.le_succ _)⟩
end Go.Proofs.YtjngghihciimjaaGreat
