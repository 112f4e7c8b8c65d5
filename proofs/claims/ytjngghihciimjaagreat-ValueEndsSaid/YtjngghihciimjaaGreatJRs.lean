/-
  What was lent and is as it was: a bundle (20).
-/
import Derived.Test.YtjngghihciimjaaGreatJRr
import Derived.Test.YtjngghihciimjaaGreatJAt
namespace Go.Proofs.YtjngghihciimjaaGreat
set_option maxRecDepth 100000
open Go.RowKit Go.Sort Go.Maps
theorem LentIn.rows {w : World} {l : List As} {g c : Nat} (h : LentIn w l g c) (ho : ∀ a, a ∈ l → AsOk a) (hl : l.length ≤ 100000) : Row w (some ⟨g, 0, none⟩) l :=
 ⟨by unfold maxLen; omega, ho, fun _ => ⟨g, 0, rfl, h.lt, fun i a hi => by rw [Nat.zero_add]; exact h.old i a hi⟩⟩
set_option maxHeartbeats 2000000 in
theorem keptV_any (w : World) (x : Int) (l : List As) (g cg : Nat) (pa : Option Addr) (c : Nat) (hin : LentIn w l g cg) (h : Row w pa l) (hl : l.length ≤ 100000) :
  Calls Tryz.prog 20 #[.agg #[.int .i64 x, .slice (some ⟨g, 0, none⟩) l.length cg], .agg #[.int .i64 x, .slice pa l.length c]] w fun e w' => e = .returned (.bool true) ∧ Below w.heap.size w w' := by
 have hb1 : Below w.heap.size w ((w.alloc (.cells #[.int .i64 x, .slice (some ⟨g, 0, none⟩) l.length cg] 24)).alloc (.cells #[.int .i64 x, .slice pa l.length c] 24)) := ((Below.refl _ _).alloc (Nat.le_refl _) _).alloc (by simp) _
 have hL1 : Lies ((w.alloc (.cells #[.int .i64 x, .slice (some ⟨g, 0, none⟩) l.length cg] 24)).alloc (.cells #[.int .i64 x, .slice pa l.length c] 24)) w.heap.size #[.int .i64 x, .slice (some ⟨g, 0, none⟩) l.length cg] 24 := (Lies.new _ _ _).alloc _
 have hL2 : Lies ((w.alloc (.cells #[.int .i64 x, .slice (some ⟨g, 0, none⟩) l.length cg] 24)).alloc (.cells #[.int .i64 x, .slice pa l.length c] 24)) (w.heap.size + 1) #[.int .i64 x, .slice pa l.length c] 24 := by
  have := Lies.new (w.alloc (.cells #[.int .i64 x, .slice (some ⟨g, 0, none⟩) l.length cg] 24)) #[.int .i64 x, .slice pa l.length c] 24
  simpa using this
 have H := Lib.hid (And.intro hin (And.intro h (And.intro hl (hin.rows h.2.1 hl))))
 have H1 := Lib.hid (And.intro hb1 (And.intro hL1 hL2))
 clear hin h hl hb1 hL1 hL2
 go_enter Tryz.func20, Tryz.ntmps20
 go_upto_region 1 with fail
 generalize (w.alloc (.cells #[.int .i64 x, .slice (some ⟨g, 0, none⟩) l.length cg] 24)).alloc (.cells #[.int .i64 x, .slice pa l.length c] 24) = W1 at H1 ⊢
 have c0 := H1.out.2.1.cell 0 (v := .int .i64 x) rfl
 have c1 := H1.out.2.1.cell 1 (v := .slice (some ⟨g, 0, none⟩) l.length cg) rfl
 have d0 := H1.out.2.2.cell 0 (v := .int .i64 x) rfl
 have d1 := H1.out.2.2.cell 1 (v := .slice pa l.length c) rfl
 have hs := sameV_any W1 x x (some ⟨g, 0, none⟩) pa l l cg c (H.out.2.2.2.below H1.out.1 (Nat.le_refl _)) (H.out.2.1.below H1.out.1 (Nat.le_refl _))
 rw [show sameB x x l l = true from sameB_yes x l] at hs
 have HS := Lib.hid hs
 clear hs
 go_wp2_with fail
 refine HS.out.mono ?_
 rintro e w2 ⟨rfl, hb2⟩
 have hbw := H1.out.1.trans (hb2.mono H1.out.1.size)
 have e1 := (H1.out.2.1.below hb2 H1.out.2.1.lt).cell 1 (v := .slice (some ⟨g, 0, none⟩) l.length cg) rfl
 have e2 := (H1.out.2.2.below hb2 H1.out.2.2.lt).cell 1 (v := .slice pa l.length c) rfl
 have hk := keptA_any w2 l g cg pa c (H.out.1.below hbw) (H.out.2.1.below hbw (Nat.le_refl _)) H.out.2.2.1
 have HK := Lib.hid (And.intro hk hbw)
 clear c0 c1 d0 d1 hb2 hbw hk
 go_wp2_with fail
 refine HK.out.1.mono ?_
 rintro e w3 ⟨rfl, hb3⟩
 have HZ := Lib.hid (HK.out.2.trans (hb3.mono HK.out.2.size))
 clear hb3 e1 e2
 go_wp2_with fail
 go_ret
 exact ⟨rfl, HZ.out⟩
end Go.Proofs.YtjngghihciimjaaGreat
