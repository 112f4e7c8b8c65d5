/-
  All lists that were found lie apart (Totals).
-/
import Derived.Test.YtjngghihciimjaaGreatJAwt
import Derived.Test.YtjngghihciimjaaGreatJApn
import Derived.Test.YtjngghihciimjaaGreatJBq
namespace Go.Proofs.YtjngghihciimjaaGreat
set_option maxRecDepth 100000
open Go.RowKit Go.Sort Go.Maps
def bagTT (uT : Value) : Array Value := #[.slice none 0 0, .slice none 0 0, .slice none 0 0, .slice none 0 0, .slice none 0 0, .slice none 0 0, .slice none 0 0, .slice none 0 0, .slice none 0 0, .slice none 0 0, .slice none 0 0, .slice none 0 0, .slice none 0 0, .slice none 0 0, .slice none 0 0, .slice none 0 0, .slice none 0 0, .slice none 0 0, .slice none 0 0, .slice none 0 0, .slice none 0 0, .slice none 0 0, .slice none 0 0, uT, .slice none 0 0, .slice none 0 0, .slice none 0 0, .slice none 0 0, .slice none 0 0]
structure LotsTT (e : TypeId) (sz : Nat) (w : World) (L B K : Nat) (A : Nat → Option Addr) (G N C : Nat → Nat) : Prop where
 s : Stt w L B K A G N C
 few : K ≤ 1000
 blk : ∀ k, k < K → A k ≠ none → Blk e sz w (G k) (C k)
theorem LotsTT.below {e : TypeId} {sz : Nat} {w V : World} {L B K : Nat} {A : Nat → Option Addr} {G N C : Nat → Nat} (h : LotsTT e sz w L B K A G N C) (hb : Below w.heap.size w V) : LotsTT e sz V L B K A G N C :=
 ⟨⟨Nat.lt_of_lt_of_le h.s.lt hb.size, fun k hk => (hb.cell (p := ⟨L, k, none⟩) h.s.lt).trans (h.s.cell k hk), fun k hk => by
   rcases h.s.ok k hk with h1 | h1
   ·
    exact .inl h1
   ·
    exact .inr ⟨h1.1, h1.2.1, h1.2.2.1, h1.2.2.2.1, Nat.lt_of_lt_of_le h1.2.2.2.2.1 hb.size, h1.2.2.2.2.2⟩, h.s.few, h.s.ne, Nat.le_trans h.s.bb hb.size⟩, h.few, fun k hk ha => (h.blk k hk ha).below hb (h.blk k hk ha).lt⟩
theorem LotsTT.rest {e : TypeId} {sz : Nat} {w V : World} {L B K : Nat} {A : Nat → Option Addr} {G N C : Nat → Nat} (h : LotsTT e sz w L B K A G N C) (hsz : w.heap.size ≤ V.heap.size) (hL : V.heap[L]? = w.heap[L]?) (hG : ∀ k, k < K → A k ≠ none → V.heap[G k]? = w.heap[G k]?) : LotsTT e sz V L B K A G N C :=
 ⟨⟨Nat.lt_of_lt_of_le h.s.lt hsz, fun k hk => (cell_block hL k).trans (h.s.cell k hk), fun k hk => by
   rcases h.s.ok k hk with h1 | h1
   ·
    exact .inl h1
   ·
    exact .inr ⟨h1.1, h1.2.1, h1.2.2.1, h1.2.2.2.1, Nat.lt_of_lt_of_le h1.2.2.2.2.1 hsz, h1.2.2.2.2.2⟩, h.s.few, h.s.ne, Nat.le_trans h.s.bb hsz⟩, h.few, fun k hk ha => by
   obtain ⟨cs, h1, h2⟩ := h.blk k hk ha
   exact ⟨cs, (hG k hk ha).trans h1, h2⟩⟩
set_option maxHeartbeats 8000000 in
theorem apartTT_any (w : World) (Bg B : Nat) (LT KT cT : Nat) (AT : Nat → Option Addr) (GT NT CT : Nat → Nat) (hB : B ≤ w.heap.size) (hbg : Lies w Bg (bagTT (.slice (some ⟨LT, 0, none⟩) KT cT)) 116) (hT : LotsTT 75 35 w LT B KT AT GT NT CT) (nT : ∀ k, k < KT → AT k ≠ none → Bg ≠ GT k)  :
    Calls Tryz.prog 63 #[.pointer (some ⟨Bg, 0, none⟩)] w fun e w' => e = .returned (.bool true) ∧ Below B w w' ∧ (∀ g, g < w.heap.size → (∀ k, k < KT → AT k ≠ none → g ≠ GT k) → w'.heap[g]? = w.heap[g]?) := by
  have hb0 : Below B w w := Below.refl _ _
  have HB := Lib.hid hB
  have HN := Lib.hid (nT)
  have c0 := hbg.cell 0 (v := .slice none 0 0) rfl
  have HS0 := Lib.hid (And.intro hbg (And.intro hb0 (And.intro hT (show (∀ g, g < w.heap.size → (∀ k, k < KT → AT k ≠ none → g ≠ GT k) → w.heap[g]? = w.heap[g]?) from fun _ _ _ => rfl))))
  clear hbg hb0 hT nT  hB
  go_enter Tryz.func63, Tryz.ntmps63
  go_wp2_with (first
    | (go_at_call 91; refine (flat91 _).mono ?_; rintro e w1 ⟨rfl, hb⟩
       have h := And.intro (HS0.out.1.below hb HS0.out.1.lt) (And.intro (HS0.out.2.1.trans (hb.mono (Nat.le_trans HB.out HS0.out.2.1.size))) (And.intro (HS0.out.2.2.1.below hb) (show (∀ g, g < w.heap.size → (∀ k, k < KT → AT k ≠ none → g ≠ GT k) → w1.heap[g]? = w.heap[g]?) from fun g hg hn => (hb.block g (Nat.lt_of_lt_of_le hg HS0.out.2.1.size)).trans (HS0.out.2.2.2 g hg hn))))
       have HS1 := Lib.hid h
       have c1 := HS1.out.1.cell 1 (v := .slice none 0 0) rfl
       clear hb h c0)
    | (go_at_call 92; refine (flat92 _).mono ?_; rintro e w2 ⟨rfl, hb⟩
       have h := And.intro (HS1.out.1.below hb HS1.out.1.lt) (And.intro (HS1.out.2.1.trans (hb.mono (Nat.le_trans HB.out HS1.out.2.1.size))) (And.intro (HS1.out.2.2.1.below hb) (show (∀ g, g < w.heap.size → (∀ k, k < KT → AT k ≠ none → g ≠ GT k) → w2.heap[g]? = w.heap[g]?) from fun g hg hn => (hb.block g (Nat.lt_of_lt_of_le hg HS1.out.2.1.size)).trans (HS1.out.2.2.2 g hg hn))))
       have HS2 := Lib.hid h
       have c2 := HS2.out.1.cell 2 (v := .slice none 0 0) rfl
       clear hb h c1)
    | (go_at_call 93; refine (flat93 _).mono ?_; rintro e w3 ⟨rfl, hb⟩
       have h := And.intro (HS2.out.1.below hb HS2.out.1.lt) (And.intro (HS2.out.2.1.trans (hb.mono (Nat.le_trans HB.out HS2.out.2.1.size))) (And.intro (HS2.out.2.2.1.below hb) (show (∀ g, g < w.heap.size → (∀ k, k < KT → AT k ≠ none → g ≠ GT k) → w3.heap[g]? = w.heap[g]?) from fun g hg hn => (hb.block g (Nat.lt_of_lt_of_le hg HS2.out.2.1.size)).trans (HS2.out.2.2.2 g hg hn))))
       have HS3 := Lib.hid h
       have c3 := HS3.out.1.cell 3 (v := .slice none 0 0) rfl
       clear hb h c2)
    | (go_at_call 94; refine (flat94 _).mono ?_; rintro e w4 ⟨rfl, hb⟩
       have h := And.intro (HS3.out.1.below hb HS3.out.1.lt) (And.intro (HS3.out.2.1.trans (hb.mono (Nat.le_trans HB.out HS3.out.2.1.size))) (And.intro (HS3.out.2.2.1.below hb) (show (∀ g, g < w.heap.size → (∀ k, k < KT → AT k ≠ none → g ≠ GT k) → w4.heap[g]? = w.heap[g]?) from fun g hg hn => (hb.block g (Nat.lt_of_lt_of_le hg HS3.out.2.1.size)).trans (HS3.out.2.2.2 g hg hn))))
       have HS4 := Lib.hid h
       have c4 := HS4.out.1.cell 4 (v := .slice none 0 0) rfl
       clear hb h c3)
    | (go_at_call 95; refine (flat95 _).mono ?_; rintro e w5 ⟨rfl, hb⟩
       have h := And.intro (HS4.out.1.below hb HS4.out.1.lt) (And.intro (HS4.out.2.1.trans (hb.mono (Nat.le_trans HB.out HS4.out.2.1.size))) (And.intro (HS4.out.2.2.1.below hb) (show (∀ g, g < w.heap.size → (∀ k, k < KT → AT k ≠ none → g ≠ GT k) → w5.heap[g]? = w.heap[g]?) from fun g hg hn => (hb.block g (Nat.lt_of_lt_of_le hg HS4.out.2.1.size)).trans (HS4.out.2.2.2 g hg hn))))
       have HS5 := Lib.hid h
       have c5 := HS5.out.1.cell 5 (v := .slice none 0 0) rfl
       clear hb h c4)
    | (go_at_call 96; refine (flat96 _).mono ?_; rintro e w6 ⟨rfl, hb⟩
       have h := And.intro (HS5.out.1.below hb HS5.out.1.lt) (And.intro (HS5.out.2.1.trans (hb.mono (Nat.le_trans HB.out HS5.out.2.1.size))) (And.intro (HS5.out.2.2.1.below hb) (show (∀ g, g < w.heap.size → (∀ k, k < KT → AT k ≠ none → g ≠ GT k) → w6.heap[g]? = w.heap[g]?) from fun g hg hn => (hb.block g (Nat.lt_of_lt_of_le hg HS5.out.2.1.size)).trans (HS5.out.2.2.2 g hg hn))))
       have HS6 := Lib.hid h
       have c6 := HS6.out.1.cell 6 (v := .slice none 0 0) rfl
       clear hb h c5)
    | (go_at_call 97; refine (flat97 _).mono ?_; rintro e w7 ⟨rfl, hb⟩
       have h := And.intro (HS6.out.1.below hb HS6.out.1.lt) (And.intro (HS6.out.2.1.trans (hb.mono (Nat.le_trans HB.out HS6.out.2.1.size))) (And.intro (HS6.out.2.2.1.below hb) (show (∀ g, g < w.heap.size → (∀ k, k < KT → AT k ≠ none → g ≠ GT k) → w7.heap[g]? = w.heap[g]?) from fun g hg hn => (hb.block g (Nat.lt_of_lt_of_le hg HS6.out.2.1.size)).trans (HS6.out.2.2.2 g hg hn))))
       have HS7 := Lib.hid h
       have c7 := HS7.out.1.cell 7 (v := .slice none 0 0) rfl
       clear hb h c6)
    | (go_at_call 98; refine (flat98 _).mono ?_; rintro e w8 ⟨rfl, hb⟩
       have h := And.intro (HS7.out.1.below hb HS7.out.1.lt) (And.intro (HS7.out.2.1.trans (hb.mono (Nat.le_trans HB.out HS7.out.2.1.size))) (And.intro (HS7.out.2.2.1.below hb) (show (∀ g, g < w.heap.size → (∀ k, k < KT → AT k ≠ none → g ≠ GT k) → w8.heap[g]? = w.heap[g]?) from fun g hg hn => (hb.block g (Nat.lt_of_lt_of_le hg HS7.out.2.1.size)).trans (HS7.out.2.2.2 g hg hn))))
       have HS8 := Lib.hid h
       have c8 := HS8.out.1.cell 8 (v := .slice none 0 0) rfl
       clear hb h c7)
    | (go_at_call 99; refine (flat99 _).mono ?_; rintro e w9 ⟨rfl, hb⟩
       have h := And.intro (HS8.out.1.below hb HS8.out.1.lt) (And.intro (HS8.out.2.1.trans (hb.mono (Nat.le_trans HB.out HS8.out.2.1.size))) (And.intro (HS8.out.2.2.1.below hb) (show (∀ g, g < w.heap.size → (∀ k, k < KT → AT k ≠ none → g ≠ GT k) → w9.heap[g]? = w.heap[g]?) from fun g hg hn => (hb.block g (Nat.lt_of_lt_of_le hg HS8.out.2.1.size)).trans (HS8.out.2.2.2 g hg hn))))
       have HS9 := Lib.hid h
       have c9 := HS9.out.1.cell 9 (v := .slice none 0 0) rfl
       clear hb h c8)
    | (go_at_call 100; refine (flat100 _).mono ?_; rintro e w10 ⟨rfl, hb⟩
       have h := And.intro (HS9.out.1.below hb HS9.out.1.lt) (And.intro (HS9.out.2.1.trans (hb.mono (Nat.le_trans HB.out HS9.out.2.1.size))) (And.intro (HS9.out.2.2.1.below hb) (show (∀ g, g < w.heap.size → (∀ k, k < KT → AT k ≠ none → g ≠ GT k) → w10.heap[g]? = w.heap[g]?) from fun g hg hn => (hb.block g (Nat.lt_of_lt_of_le hg HS9.out.2.1.size)).trans (HS9.out.2.2.2 g hg hn))))
       have HS10 := Lib.hid h
       have c10 := HS10.out.1.cell 10 (v := .slice none 0 0) rfl
       clear hb h c9)
    | (go_at_call 101; refine (flat101 _).mono ?_; rintro e w11 ⟨rfl, hb⟩
       have h := And.intro (HS10.out.1.below hb HS10.out.1.lt) (And.intro (HS10.out.2.1.trans (hb.mono (Nat.le_trans HB.out HS10.out.2.1.size))) (And.intro (HS10.out.2.2.1.below hb) (show (∀ g, g < w.heap.size → (∀ k, k < KT → AT k ≠ none → g ≠ GT k) → w11.heap[g]? = w.heap[g]?) from fun g hg hn => (hb.block g (Nat.lt_of_lt_of_le hg HS10.out.2.1.size)).trans (HS10.out.2.2.2 g hg hn))))
       have HS11 := Lib.hid h
       have c11 := HS11.out.1.cell 11 (v := .slice none 0 0) rfl
       clear hb h c10)
    | (go_at_call 102; refine (flat102 _).mono ?_; rintro e w12 ⟨rfl, hb⟩
       have h := And.intro (HS11.out.1.below hb HS11.out.1.lt) (And.intro (HS11.out.2.1.trans (hb.mono (Nat.le_trans HB.out HS11.out.2.1.size))) (And.intro (HS11.out.2.2.1.below hb) (show (∀ g, g < w.heap.size → (∀ k, k < KT → AT k ≠ none → g ≠ GT k) → w12.heap[g]? = w.heap[g]?) from fun g hg hn => (hb.block g (Nat.lt_of_lt_of_le hg HS11.out.2.1.size)).trans (HS11.out.2.2.2 g hg hn))))
       have HS12 := Lib.hid h
       have c12 := HS12.out.1.cell 12 (v := .slice none 0 0) rfl
       clear hb h c11)
    | (go_at_call 103; refine (flat103 _).mono ?_; rintro e w13 ⟨rfl, hb⟩
       have h := And.intro (HS12.out.1.below hb HS12.out.1.lt) (And.intro (HS12.out.2.1.trans (hb.mono (Nat.le_trans HB.out HS12.out.2.1.size))) (And.intro (HS12.out.2.2.1.below hb) (show (∀ g, g < w.heap.size → (∀ k, k < KT → AT k ≠ none → g ≠ GT k) → w13.heap[g]? = w.heap[g]?) from fun g hg hn => (hb.block g (Nat.lt_of_lt_of_le hg HS12.out.2.1.size)).trans (HS12.out.2.2.2 g hg hn))))
       have HS13 := Lib.hid h
       have c13 := HS13.out.1.cell 13 (v := .slice none 0 0) rfl
       clear hb h c12)
    | (go_at_call 104; refine (flat104 _).mono ?_; rintro e w14 ⟨rfl, hb⟩
       have h := And.intro (HS13.out.1.below hb HS13.out.1.lt) (And.intro (HS13.out.2.1.trans (hb.mono (Nat.le_trans HB.out HS13.out.2.1.size))) (And.intro (HS13.out.2.2.1.below hb) (show (∀ g, g < w.heap.size → (∀ k, k < KT → AT k ≠ none → g ≠ GT k) → w14.heap[g]? = w.heap[g]?) from fun g hg hn => (hb.block g (Nat.lt_of_lt_of_le hg HS13.out.2.1.size)).trans (HS13.out.2.2.2 g hg hn))))
       have HS14 := Lib.hid h
       have c14 := HS14.out.1.cell 14 (v := .slice none 0 0) rfl
       clear hb h c13)
    | (go_at_call 105; refine (flat105 _).mono ?_; rintro e w15 ⟨rfl, hb⟩
       have h := And.intro (HS14.out.1.below hb HS14.out.1.lt) (And.intro (HS14.out.2.1.trans (hb.mono (Nat.le_trans HB.out HS14.out.2.1.size))) (And.intro (HS14.out.2.2.1.below hb) (show (∀ g, g < w.heap.size → (∀ k, k < KT → AT k ≠ none → g ≠ GT k) → w15.heap[g]? = w.heap[g]?) from fun g hg hn => (hb.block g (Nat.lt_of_lt_of_le hg HS14.out.2.1.size)).trans (HS14.out.2.2.2 g hg hn))))
       have HS15 := Lib.hid h
       have c15 := HS15.out.1.cell 15 (v := .slice none 0 0) rfl
       clear hb h c14)
    | (go_at_call 106; refine (flat106 _).mono ?_; rintro e w16 ⟨rfl, hb⟩
       have h := And.intro (HS15.out.1.below hb HS15.out.1.lt) (And.intro (HS15.out.2.1.trans (hb.mono (Nat.le_trans HB.out HS15.out.2.1.size))) (And.intro (HS15.out.2.2.1.below hb) (show (∀ g, g < w.heap.size → (∀ k, k < KT → AT k ≠ none → g ≠ GT k) → w16.heap[g]? = w.heap[g]?) from fun g hg hn => (hb.block g (Nat.lt_of_lt_of_le hg HS15.out.2.1.size)).trans (HS15.out.2.2.2 g hg hn))))
       have HS16 := Lib.hid h
       have c16 := HS16.out.1.cell 16 (v := .slice none 0 0) rfl
       clear hb h c15)
    | (go_at_call 107; refine (flat107 _).mono ?_; rintro e w17 ⟨rfl, hb⟩
       have h := And.intro (HS16.out.1.below hb HS16.out.1.lt) (And.intro (HS16.out.2.1.trans (hb.mono (Nat.le_trans HB.out HS16.out.2.1.size))) (And.intro (HS16.out.2.2.1.below hb) (show (∀ g, g < w.heap.size → (∀ k, k < KT → AT k ≠ none → g ≠ GT k) → w17.heap[g]? = w.heap[g]?) from fun g hg hn => (hb.block g (Nat.lt_of_lt_of_le hg HS16.out.2.1.size)).trans (HS16.out.2.2.2 g hg hn))))
       have HS17 := Lib.hid h
       have c17 := HS17.out.1.cell 17 (v := .slice none 0 0) rfl
       clear hb h c16)
    | (go_at_call 108; refine (flat108 _).mono ?_; rintro e w18 ⟨rfl, hb⟩
       have h := And.intro (HS17.out.1.below hb HS17.out.1.lt) (And.intro (HS17.out.2.1.trans (hb.mono (Nat.le_trans HB.out HS17.out.2.1.size))) (And.intro (HS17.out.2.2.1.below hb) (show (∀ g, g < w.heap.size → (∀ k, k < KT → AT k ≠ none → g ≠ GT k) → w18.heap[g]? = w.heap[g]?) from fun g hg hn => (hb.block g (Nat.lt_of_lt_of_le hg HS17.out.2.1.size)).trans (HS17.out.2.2.2 g hg hn))))
       have HS18 := Lib.hid h
       have c18 := HS18.out.1.cell 18 (v := .slice none 0 0) rfl
       clear hb h c17)
    | (go_at_call 109; refine (flat109 _).mono ?_; rintro e w19 ⟨rfl, hb⟩
       have h := And.intro (HS18.out.1.below hb HS18.out.1.lt) (And.intro (HS18.out.2.1.trans (hb.mono (Nat.le_trans HB.out HS18.out.2.1.size))) (And.intro (HS18.out.2.2.1.below hb) (show (∀ g, g < w.heap.size → (∀ k, k < KT → AT k ≠ none → g ≠ GT k) → w19.heap[g]? = w.heap[g]?) from fun g hg hn => (hb.block g (Nat.lt_of_lt_of_le hg HS18.out.2.1.size)).trans (HS18.out.2.2.2 g hg hn))))
       have HS19 := Lib.hid h
       have c19 := HS19.out.1.cell 19 (v := .slice none 0 0) rfl
       clear hb h c18)
    | (go_at_call 110; refine (flat110 _).mono ?_; rintro e w20 ⟨rfl, hb⟩
       have h := And.intro (HS19.out.1.below hb HS19.out.1.lt) (And.intro (HS19.out.2.1.trans (hb.mono (Nat.le_trans HB.out HS19.out.2.1.size))) (And.intro (HS19.out.2.2.1.below hb) (show (∀ g, g < w.heap.size → (∀ k, k < KT → AT k ≠ none → g ≠ GT k) → w20.heap[g]? = w.heap[g]?) from fun g hg hn => (hb.block g (Nat.lt_of_lt_of_le hg HS19.out.2.1.size)).trans (HS19.out.2.2.2 g hg hn))))
       have HS20 := Lib.hid h
       have c20 := HS20.out.1.cell 20 (v := .slice none 0 0) rfl
       clear hb h c19)
    | (go_at_call 111; refine (flat111 _).mono ?_; rintro e w21 ⟨rfl, hb⟩
       have h := And.intro (HS20.out.1.below hb HS20.out.1.lt) (And.intro (HS20.out.2.1.trans (hb.mono (Nat.le_trans HB.out HS20.out.2.1.size))) (And.intro (HS20.out.2.2.1.below hb) (show (∀ g, g < w.heap.size → (∀ k, k < KT → AT k ≠ none → g ≠ GT k) → w21.heap[g]? = w.heap[g]?) from fun g hg hn => (hb.block g (Nat.lt_of_lt_of_le hg HS20.out.2.1.size)).trans (HS20.out.2.2.2 g hg hn))))
       have HS21 := Lib.hid h
       have c21 := HS21.out.1.cell 21 (v := .slice none 0 0) rfl
       clear hb h c20)
    | (go_at_call 112; refine (flat112 _).mono ?_; rintro e w22 ⟨rfl, hb⟩
       have h := And.intro (HS21.out.1.below hb HS21.out.1.lt) (And.intro (HS21.out.2.1.trans (hb.mono (Nat.le_trans HB.out HS21.out.2.1.size))) (And.intro (HS21.out.2.2.1.below hb) (show (∀ g, g < w.heap.size → (∀ k, k < KT → AT k ≠ none → g ≠ GT k) → w22.heap[g]? = w.heap[g]?) from fun g hg hn => (hb.block g (Nat.lt_of_lt_of_le hg HS21.out.2.1.size)).trans (HS21.out.2.2.2 g hg hn))))
       have HS22 := Lib.hid h
       have c22 := HS22.out.1.cell 22 (v := .slice none 0 0) rfl
       clear hb h c21)
    | (go_at_call 113; refine (flat113 _).mono ?_; rintro e w23 ⟨rfl, hb⟩
       have h := And.intro (HS22.out.1.below hb HS22.out.1.lt) (And.intro (HS22.out.2.1.trans (hb.mono (Nat.le_trans HB.out HS22.out.2.1.size))) (And.intro (HS22.out.2.2.1.below hb) (show (∀ g, g < w.heap.size → (∀ k, k < KT → AT k ≠ none → g ≠ GT k) → w23.heap[g]? = w.heap[g]?) from fun g hg hn => (hb.block g (Nat.lt_of_lt_of_le hg HS22.out.2.1.size)).trans (HS22.out.2.2.2 g hg hn))))
       have HS23 := Lib.hid h
       have c23 := HS23.out.1.cell 23 (v := .slice (some ⟨LT, 0, none⟩) KT cT) rfl
       clear hb h c22)
    | (go_at_call 114; refine (flatT_any _ LT cT B KT AT GT NT CT HS23.out.2.2.1.s HS23.out.2.2.1.few HS23.out.2.2.1.blk).mono ?_; rintro e w24 ⟨rfl, hbs⟩
       have h := And.intro (show Lies w24 Bg (bagTT (.slice (some ⟨LT, 0, none⟩) KT cT)) 116 from (hbs.rest Bg HS23.out.1.lt HN.out).trans HS23.out.1) (And.intro (HS23.out.2.1.trans hbs.below) (show (∀ g, g < w.heap.size → (∀ k, k < KT → AT k ≠ none → g ≠ GT k) → w24.heap[g]? = w.heap[g]?) from fun g hg hn => (hbs.rest g (Nat.lt_of_lt_of_le hg HS23.out.2.1.size) hn).trans (HS23.out.2.2.2 g hg hn)))
       have HS24 : Hid (Lies w24 Bg (bagTT (.slice (some ⟨LT, 0, none⟩) KT cT)) 116 ∧ Below B w w24 ∧ (∀ g, g < w.heap.size → (∀ k, k < KT → AT k ≠ none → g ≠ GT k) → w24.heap[g]? = w.heap[g]?)) := Lib.hid h
       have c24 := HS24.out.1.cell 24 (v := .slice none 0 0) rfl
       clear hbs h c23)
    | (go_at_call 115; refine (flat115 _).mono ?_; rintro e w25 ⟨rfl, hb⟩
       have h := And.intro (HS24.out.1.below hb HS24.out.1.lt) (And.intro (HS24.out.2.1.trans (hb.mono (Nat.le_trans HB.out HS24.out.2.1.size))) (show (∀ g, g < w.heap.size → (∀ k, k < KT → AT k ≠ none → g ≠ GT k) → w25.heap[g]? = w.heap[g]?) from fun g hg hn => (hb.block g (Nat.lt_of_lt_of_le hg HS24.out.2.1.size)).trans (HS24.out.2.2 g hg hn)))
       have HS25 : Hid (Lies w25 Bg (bagTT (.slice (some ⟨LT, 0, none⟩) KT cT)) 116 ∧ Below B w w25 ∧ (∀ g, g < w.heap.size → (∀ k, k < KT → AT k ≠ none → g ≠ GT k) → w25.heap[g]? = w.heap[g]?)) := Lib.hid h
       have c25 := HS25.out.1.cell 25 (v := .slice none 0 0) rfl
       clear hb h c24)
    | (go_at_call 116; refine (flat116 _).mono ?_; rintro e w26 ⟨rfl, hb⟩
       have h := And.intro (HS25.out.1.below hb HS25.out.1.lt) (And.intro (HS25.out.2.1.trans (hb.mono (Nat.le_trans HB.out HS25.out.2.1.size))) (show (∀ g, g < w.heap.size → (∀ k, k < KT → AT k ≠ none → g ≠ GT k) → w26.heap[g]? = w.heap[g]?) from fun g hg hn => (hb.block g (Nat.lt_of_lt_of_le hg HS25.out.2.1.size)).trans (HS25.out.2.2 g hg hn)))
       have HS26 : Hid (Lies w26 Bg (bagTT (.slice (some ⟨LT, 0, none⟩) KT cT)) 116 ∧ Below B w w26 ∧ (∀ g, g < w.heap.size → (∀ k, k < KT → AT k ≠ none → g ≠ GT k) → w26.heap[g]? = w.heap[g]?)) := Lib.hid h
       have c26 := HS26.out.1.cell 26 (v := .slice none 0 0) rfl
       clear hb h c25)
    | (go_at_call 117; refine (flat117 _).mono ?_; rintro e w27 ⟨rfl, hb⟩
       have h := And.intro (HS26.out.1.below hb HS26.out.1.lt) (And.intro (HS26.out.2.1.trans (hb.mono (Nat.le_trans HB.out HS26.out.2.1.size))) (show (∀ g, g < w.heap.size → (∀ k, k < KT → AT k ≠ none → g ≠ GT k) → w27.heap[g]? = w.heap[g]?) from fun g hg hn => (hb.block g (Nat.lt_of_lt_of_le hg HS26.out.2.1.size)).trans (HS26.out.2.2 g hg hn)))
       have HS27 : Hid (Lies w27 Bg (bagTT (.slice (some ⟨LT, 0, none⟩) KT cT)) 116 ∧ Below B w w27 ∧ (∀ g, g < w.heap.size → (∀ k, k < KT → AT k ≠ none → g ≠ GT k) → w27.heap[g]? = w.heap[g]?)) := Lib.hid h
       have c27 := HS27.out.1.cell 27 (v := .slice none 0 0) rfl
       clear hb h c26)
    | (go_at_call 118; refine (flat118 _).mono ?_; rintro e w28 ⟨rfl, hb⟩
       have h := And.intro (HS27.out.1.below hb HS27.out.1.lt) (And.intro (HS27.out.2.1.trans (hb.mono (Nat.le_trans HB.out HS27.out.2.1.size))) (show (∀ g, g < w.heap.size → (∀ k, k < KT → AT k ≠ none → g ≠ GT k) → w28.heap[g]? = w.heap[g]?) from fun g hg hn => (hb.block g (Nat.lt_of_lt_of_le hg HS27.out.2.1.size)).trans (HS27.out.2.2 g hg hn)))
       have HS28 : Hid (Lies w28 Bg (bagTT (.slice (some ⟨LT, 0, none⟩) KT cT)) 116 ∧ Below B w w28 ∧ (∀ g, g < w.heap.size → (∀ k, k < KT → AT k ≠ none → g ≠ GT k) → w28.heap[g]? = w.heap[g]?)) := Lib.hid h
       have c28 := HS28.out.1.cell 28 (v := .slice none 0 0) rfl
       clear hb h c27)
    | (go_at_call 119; refine (flat119 _).mono ?_; rintro e w29 ⟨rfl, hb⟩
       have h := And.intro (HS28.out.1.below hb HS28.out.1.lt) (And.intro (HS28.out.2.1.trans (hb.mono (Nat.le_trans HB.out HS28.out.2.1.size))) (show (∀ g, g < w.heap.size → (∀ k, k < KT → AT k ≠ none → g ≠ GT k) → w29.heap[g]? = w.heap[g]?) from fun g hg hn => (hb.block g (Nat.lt_of_lt_of_le hg HS28.out.2.1.size)).trans (HS28.out.2.2 g hg hn)))
       have HS29 : Hid (Lies w29 Bg (bagTT (.slice (some ⟨LT, 0, none⟩) KT cT)) 116 ∧ Below B w w29 ∧ (∀ g, g < w.heap.size → (∀ k, k < KT → AT k ≠ none → g ≠ GT k) → w29.heap[g]? = w.heap[g]?)) := Lib.hid h
       clear hb h c28))
  go_ret
  exact ⟨rfl, HS29.out.2.1, HS29.out.2.2⟩
end Go.Proofs.YtjngghihciimjaaGreat
