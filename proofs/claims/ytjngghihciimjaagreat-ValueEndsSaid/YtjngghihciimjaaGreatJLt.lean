/-
  Whether any bundle is right, may be minted, how much it has of an asset, whether and how another one is taken from it: the law's walk.
-/
import Derived.Test.YtjngghihciimjaaGreatJPd
import Derived.Test.YtjngghihciimjaaGreatJRs
import Derived.Test.YtjngghihciimjaaGreatJRk
import Derived.Test.YtjngghihciimjaaGreatJRn
import Derived.Test.YtjngghihciimjaaGreatJVdx
namespace Go.Proofs.YtjngghihciimjaaGreat
set_option maxRecDepth 100000
open Go.RowKit Go.Sort Go.Maps
theorem own_lt {B : Nat} {w : World} {pa : Option Addr} {l : List As} {c : Nat} (h : Mine B w pa l c) : ∀ p, pa = some p → B ≤ p.block ∧ p.block < w.heap.size := fun p e => by
 have := h.2.lt p.block (by rw [e]; rfl)
 exact this
theorem subM_uniq {a b c d : Va} {ok is : Bool} {x y : Int} {l m : List As} (h : SubM a b ok x l) (k : SubM c d is y m) (e : ∀ u v, SubZ a b u v ↔ SubZ c d u v) : is = ok ∧ y = x ∧ m = l := by
 rcases h with ⟨rfl, h2⟩ | ⟨rfl, rfl, rfl, h4⟩
 ·
  exact k.yes ((e _ _).1 h2)
 ·
  rcases k with ⟨rfl, k2⟩ | ⟨rfl, rfl, rfl, _⟩
  ·
   exact absurd ((e _ _).2 k2) (h4 _ _)
  ·
   exact ⟨rfl, rfl, rfl⟩
theorem cov_is {a b : Va} {ok : Bool} {x : Int} {l : List As} {e : Ending} (h : SubM a b ok x l) (k : CovRes a b e) : e = .returned (.bool ok) := by
 rcases h with ⟨rfl, h2⟩ | ⟨rfl, _, _, h4⟩
 ·
  rcases k with ⟨_, _, _, k2⟩ | ⟨k1, _⟩
  ·
   exact k2
  ·
   exact absurd h2 (k1 _ _)
 ·
  rcases k with ⟨_, _, k1, _⟩ | ⟨_, k2⟩
  ·
   exact absurd k1 (h4 _ _)
  ·
   exact k2
theorem subM_few {a b : Va} {ok : Bool} {x : Int} {l : List As} (h : SubM a b ok x l) : l.length ≤ 30 := by
 rcases h with ⟨_, _, _, _, tl, _, h1, _, rfl⟩ | ⟨_, _, rfl, _⟩
 ·
  unfold asT; rw [List.length_map]; exact h1
 ·
  exact Nat.zero_le _
theorem duo_holds {w : World} {g : Nat} {a b : Va} {t : TypeId} (h : Lies w g #[.int .i64 a.coin, .slice a.pa a.l.length a.c, .int .i64 b.coin, .slice b.pa b.l.length b.c] t) : ∀ (i : Nat) (v : Va), [a, b][i]? = some v → w.rangeAt g (i * 2) (vaC v).toList := by
 intro i v hv j u hu
 have hi : i = 0 ∨ i = 1 := by
  have := (List.getElem?_eq_some_iff.1 hv).1
  simp only [List.length_cons, List.length_nil] at this
  omega
 have hj : j = 0 ∨ j = 1 := by
  have := (List.getElem?_eq_some_iff.1 hu).1
  rw [Array.length_toList, vaC_size] at this
  omega
 rcases hi with rfl | rfl
 ·
  obtain rfl : a = v := by simpa using hv
  rcases hj with rfl | rfl
  ·
   exact h.cell 0 (by simpa [vaC, vC] using hu)
  ·
   exact h.cell 1 (by simpa [vaC, vC] using hu)
 ·
  obtain rfl : b = v := by simpa using hv
  rcases hj with rfl | rfl
  ·
   exact h.cell 2 (by simpa [vaC, vC] using hu)
  ·
   exact h.cell 3 (by simpa [vaC, vC] using hu)
theorem duo_apart {C E : Va} {n : Nat} (h1 : ∀ p, C.pa = some p → p.block < n) (h2 : ∀ p, E.pa = some p → n ≤ p.block) :
    ∀ (i j : Nat), i < [C, E].length → j < [C, E].length → i ≠ j → paOf [C, E] i ≠ none → paOf [C, E] j ≠ none → blkOf [C, E] i ≠ blkOf [C, E] j := by
  have key : paOf [C, E] 0 ≠ none → paOf [C, E] 1 ≠ none → blkOf [C, E] 0 ≠ blkOf [C, E] 1 := by
    intro ha hb
    unfold blkOf
    show (match C.pa with | some p => p.block | none => 0) ≠ (match E.pa with | some p => p.block | none => 0)
    have ha : C.pa ≠ none := ha
    have hb : E.pa ≠ none := hb
    cases hc : C.pa with
    | none => exact absurd hc ha
    | some p =>
      cases he : E.pa with
      | none => exact absurd he hb
      | some q =>
        have k1 := h1 p hc
        have k2 := h2 q he
        show p.block ≠ q.block
        omega
  intro i j hi hj hne ha hb
  simp only [List.length_cons, List.length_nil] at hi hj
  have : (i = 0 ∧ j = 1) ∨ (i = 1 ∧ j = 0) := by omega
  rcases this with ⟨rfl, rfl⟩ | ⟨rfl, rfl⟩
  · exact key ha hb
  · exact (key hb ha).symm
theorem duo_rowO {w u : World} {B g n : Nat} {C E : Va} (hL : Lies u g #[.int .i64 C.coin, .slice C.pa C.l.length C.c, .int .i64 E.coin, .slice E.pa E.l.length E.c] 24) (hb : Below w.heap.size w u) (hC : Mine B w C.pa C.l C.c) (hE : Mine B w E.pa E.l E.c) (hg : B ≤ g) (lC : C.l.length ≤ 100000) (lE : E.l.length ≤ 100000) (h1 : ∀ p, C.pa = some p → p.block < n) (h2 : ∀ p, E.pa = some p → n ≤ p.block) : RowO u B g 2 [C, E] :=
 ⟨⟨_, hL, rfl⟩, ⟨show 2 ≤ 2 by decide, by decide, hg⟩, duo_holds hL, fun i v hv => by
   have : v = C ∨ v = E := by simpa using List.mem_of_getElem? hv
   rcases this with rfl | rfl
   ·
    exact (hC.below hb).2
   ·
    exact (hE.below hb).2, fun i v hv => by
   have : v = C ∨ v = E := by simpa using List.mem_of_getElem? hv
   rcases this with rfl | rfl
   ·
    exact lC
   ·
    exact lE, duo_apart h1 h2⟩
theorem subZ_of (a b : Va) (p q : Option Addr) (c d : Nat) (u : Int) (v : List As) : SubZ ⟨a.coin, p, a.l, c⟩ ⟨b.coin, q, b.l, d⟩ u v ↔ SubZ a b u v := Iff.rfl
theorem lent_row {w : World} {l : List As} {g c : Nat} (h : LentIn w l g c) (hl : l.length ≤ maxLen) (ho : ∀ a, a ∈ l → AsOk a) : Row w (some ⟨g, 0, none⟩) l :=
 ⟨hl, ho, fun _ => ⟨g, 0, rfl, h.lt, fun i a hi => by rw [Nat.zero_add]; exact h.old i a hi⟩⟩
theorem LentA.setRowV {w : World} {B : Nat} {l : List As} {v : Value} (h : LentA w B l v) {b : Nat} {cs0 : Array Value} (hb : Lies w b cs0 24) (cs : Array Value) : LentA (w.setRow b cs) B l v := by
 obtain ⟨g, c, h1, h2, h3⟩ := h
 exact ⟨g, c, h1, h2, h3.kept (grown_setRow _ _ _) (.inr (ownsRow_far h3 hb (by decide)).symm)⟩
def LentC (B : Nat) (x : Int) (l : List As) (w : World) (cs : Array Value) : Prop := ∃ v, cs = #[.int .i64 x, v] ∧ LentA w B l v
theorem alloc_value (w : World) : (Instr.alloc 24 true (.tuple #[])).run Tryz.prog w = .ok (.pointer (some ⟨w.heap.size, 0, none⟩)) (w.alloc (.cells #[.int .i64 0, .slice none 0 0] 24)) := by kernel_rfl
set_option maxHeartbeats 40000000 in
theorem tells_any (w : World) (a b : Va) (p t : List UInt8) (ha : VaOk w a) (hb : VaOk w b) (ra : Room a) (rb : Room b) (hp : p.length = 32) (ht : t.length ≤ maxLen) :
    Calls Tryz.prog 3 #[.agg #[.int .i64 a.coin, .slice a.pa a.l.length a.c], .agg #[.int .i64 b.coin, .slice b.pa b.l.length b.c], .agg (B8 p), .string (txt t)] w fun e w' => e = .returned (.bool true) ∧ Below w.heap.size w w' := by
  obtain ⟨pv, hpv⟩ : ∃ v, v = B8 p := ⟨_, rfl⟩
  obtain ⟨tv, htv⟩ : ∃ v, v = txt t := ⟨_, rfl⟩
  have hps : (Tryz.prog.info? 26).map (·.size) = some pv.size := by rw [hpv, B8_size, hp]; exact info_hash
  have hts : tv.size = t.length := by rw [htv]; exact txt_size t
  have hti : (tv.size : Int) ≤ 9223372036854775807 := by rw [hts]; unfold maxLen at ht; omega
  have hofs0 : ∀ W x (v : Va), Row W v.pa v.l → Calls Tryz.prog 18 #[.agg #[.int .i64 x, .slice v.pa v.l.length v.c], .agg pv, .string tv] W fun e w' => e = .returned (.int .i64 (amtOf v.l (p, t))) ∧ Below W.heap.size W w' := fun W x v hv => by
    rw [hpv, htv]; exact of_any W x v.pa v.l v.c p t hv hp ht
  have hrof0 : ∀ W x (v : Va), Row W v.pa v.l → Calls Tryz.prog 19 #[.agg #[.int .i64 x, .slice v.pa v.l.length v.c], .agg pv, .string tv] W fun e w' => e = .returned (.int .i64 (amtOf v.l (p, t))) ∧ Below W.heap.size W w' := fun W x v hv => by
    rw [hpv, htv]; exact rof_any W x v.pa v.l v.c p t hv hp
  obtain ⟨am, ham⟩ : ∃ x, x = fun l : List As => amtOf l (p, t) := ⟨_, rfl⟩
  have hofs : ∀ W x (v : Va), Row W v.pa v.l → Calls Tryz.prog 18 #[.agg #[.int .i64 x, .slice v.pa v.l.length v.c], .agg pv, .string tv] W fun e w' => e = .returned (.int .i64 (am v.l)) ∧ Below W.heap.size W w' := fun W x v hv => by rw [ham]; exact hofs0 W x v hv
  have hrof : ∀ W x (v : Va), Row W v.pa v.l → Calls Tryz.prog 19 #[.agg #[.int .i64 x, .slice v.pa v.l.length v.c], .agg pv, .string tv] W fun e w' => e = .returned (.int .i64 (am v.l)) ∧ Below W.heap.size W w' := fun W x v hv => by rw [ham]; exact hrof0 W x v hv
  rw [← hpv, ← htv]
  have HP := Lib.hid (And.intro hps (And.intro hofs hrof))
  have HRM := Lib.hid (And.intro ra rb)
  clear hpv htv hps hts hofs hrof hofs0 hrof0 hp ht ra rb ham
  have hbw : Below w.heap.size w (((w.alloc (.cells #[.int .i64 a.coin, .slice a.pa a.l.length a.c] 24)).alloc (.cells #[.int .i64 b.coin, .slice b.pa b.l.length b.c] 24)).alloc (.cells pv 26)) := (((Below.refl _ _).alloc (Nat.le_refl _) _).alloc (by simp) _).alloc (by simp; omega) _
  have hA : Lies (((w.alloc (.cells #[.int .i64 a.coin, .slice a.pa a.l.length a.c] 24)).alloc (.cells #[.int .i64 b.coin, .slice b.pa b.l.length b.c] 24)).alloc (.cells pv 26)) w.heap.size #[.int .i64 a.coin, .slice a.pa a.l.length a.c] 24 := ((Lies.new _ _ _).alloc _).alloc _
  have hB : Lies (((w.alloc (.cells #[.int .i64 a.coin, .slice a.pa a.l.length a.c] 24)).alloc (.cells #[.int .i64 b.coin, .slice b.pa b.l.length b.c] 24)).alloc (.cells pv 26)) (w.heap.size + 1) #[.int .i64 b.coin, .slice b.pa b.l.length b.c] 24 := (lies_new2 _ _ _ _ (by simp)).alloc _
  have hP : Lies (((w.alloc (.cells #[.int .i64 a.coin, .slice a.pa a.l.length a.c] 24)).alloc (.cells #[.int .i64 b.coin, .slice b.pa b.l.length b.c] 24)).alloc (.cells pv 26)) (w.heap.size + 2) pv 26 := lies_new2 _ _ _ _ (by simp)
  have hva := ha.below hbw (Nat.le_refl _)
  have hvb := hb.below hbw (Nat.le_refl _)
  clear ha hb
  have HK := Lib.hid (And.intro hA (And.intro hB (And.intro hP (And.intro hva (And.intro hvb hbw)))))
  clear hA hB hP hva hvb hbw
  go_enter Tryz.func3, Tryz.ntmps3
  go_upto_region 1 with fail
  generalize (((w.alloc (.cells #[.int .i64 a.coin, .slice a.pa a.l.length a.c] 24)).alloc (.cells #[.int .i64 b.coin, .slice b.pa b.l.length b.c] 24)).alloc (.cells pv 26)) = W at HK ⊢
  obtain ⟨hA, hB, hP, hva, hvb, hbw⟩ := HK.out
  clear HK
  have qhA0 := hA.cell 0 (v := .int .i64 a.coin) rfl
  have qhA1 := hA.cell 1 (v := .slice a.pa a.l.length a.c) rfl
  have qhB0 := hB.cell 0 (v := .int .i64 b.coin) rfl
  have qhB1 := hB.cell 1 (v := .slice b.pa b.l.length b.c) rfl
  have hbg : Below W.heap.size W ((W.alloc (.cells #[.int .i64 a.coin, .slice a.pa a.l.length a.c, .int .i64 b.coin, .slice b.pa b.l.length b.c] 24)).alloc (.cells #[.slice (some ⟨W.heap.size, 0, none⟩) 2 2] 28)) := ((Below.refl _ _).alloc (Nat.le_refl _) _).alloc (by simp) _
  have hgr := greatX_any ((W.alloc (.cells #[.int .i64 a.coin, .slice a.pa a.l.length a.c, .int .i64 b.coin, .slice b.pa b.l.length b.c] 24)).alloc (.cells #[.slice (some ⟨W.heap.size, 0, none⟩) 2 2] 28)) (some ⟨W.heap.size + 1, 0, none⟩) [⟨some ⟨W.heap.size, 0, none⟩, [a, b], 2⟩] 1 ⟨show 1 ≤ maxLen by decide, fun _ => ⟨W.heap.size + 1, 0, rfl, by simp, fun i r hr => by
      have hi : i = 0 := by have := (List.getElem?_eq_some_iff.1 hr).1; simp at this; exact this
      subst hi
      simp at hr
      subst hr
      have hL := Lies.new (W.alloc (.cells #[.int .i64 a.coin, .slice a.pa a.l.length a.c, .int .i64 b.coin, .slice b.pa b.l.length b.c] 24)) #[.slice (some ⟨W.heap.size, 0, none⟩) 2 2] 28
      refine ⟨?_, (duo_row W a b hva hvb).below ((Below.refl _ _).alloc (Nat.le_refl _) _) (Nat.le_refl _)⟩
      have h0 := hL.cell 0 (v := .slice (some ⟨W.heap.size, 0, none⟩) 2 2) rfl
      simp⟩⟩ (show 1 ≤ 10 by decide)
  have HG := Lib.hid (And.intro hgr hbg)
  clear hgr hbg
  have HK := Lib.hid (And.intro hA (And.intro hB (And.intro hP (And.intro hva (And.intro hvb hbw)))))
  clear hA hB hP hva hvb hbw
  go_wp2_with fail
  refine HG.out.1.mono ?_
  rintro e W2 ⟨⟨gb, rfl, hgb⟩, hb⟩
  obtain ⟨hA, hB, hP, hva, hvb, hbw⟩ := HK.out
  clear HK
  have hb := HG.out.2.trans (hb.mono HG.out.2.size)
  clear HG qhA0 qhA1 qhB0 qhB1
  have hA := hA.below hb hA.lt
  have hB := hB.below hb hB.lt
  have hP := hP.below hb hP.lt
  have hva := hva.below hb (Nat.le_refl _)
  have hvb := hvb.below hb (Nat.le_refl _)
  have hbw := hbw.trans (hb.mono hbw.size)
  clear hb
  cases gb with
  | true =>
    clear hgb
    have HE := Lib.hid hbw
    clear hA hB hP hva hvb hbw
    go_wp2_with (go_at_call 8; refine (awake_any _).mono ?_; rintro e W3 ⟨rfl, hb3⟩)
    go_ret
    exact ⟨rfl, HE.out.trans (hb3.mono HE.out.size)⟩
  | false =>
    by_cases hlen : (200 : Int) < (tv.size : Int)
    · skip
      clear hgb
      have HE := Lib.hid hbw
      clear hA hB hP hva hvb hbw
      go_wp2_with (go_at_call 8; refine (awake_any _).mono ?_; rintro e W3 ⟨rfl, hb3⟩)
      go_ret
      exact ⟨rfl, HE.out.trans (hb3.mono HE.out.size)⟩
    · skip
      have hfew : a.l.length ≤ 200 ∧ b.l.length ≤ 200 := by
        have h1 := hgb rfl
        have h2 := cntA_len a.l
        have h3 := cntA_len b.l
        simp only [List.map_cons, List.map_nil, List.sum_cons, List.sum_nil, cntVs, cntV] at h1
        omega
      have HF := Lib.hid hfew
      clear hfew hgb
      have HK := Lib.hid (And.intro hA (And.intro hB (And.intro hP (And.intro hva (And.intro hvb hbw)))))
      clear hA hB hP hva hvb hbw
      go_upto_region 3 with fail
      clear hlen
      obtain ⟨hA, hB, hP, hva, hvb, hbw⟩ := HK.out
      clear HK
      have HS3 : Hid (∀ U, Below W2.heap.size W2 U → Lies U w.heap.size #[.int .i64 a.coin, .slice a.pa a.l.length a.c] 24 ∧ Lies U (w.heap.size + 1) #[.int .i64 b.coin, .slice b.pa b.l.length b.c] 24 ∧ VaOk U a ∧ VaOk U b) := Lib.hid fun U hU => ⟨hA.below hU hA.lt, hB.below hU hB.lt, hva.below hU (Nat.le_refl _), hvb.below hU (Nat.le_refl _)⟩
      have HK := Lib.hid (And.intro hA (And.intro hB (And.intro hP (And.intro hva (And.intro hvb hbw)))))
      clear hA hB hP hva hvb hbw
      refine wp_region_held (S := Below W2.heap.size W2) (by kernel_rfl) ?_
      change wpAnyH _ _ _ _ _ 8 _ _ (World.drew W2)
      have hcur : Below W2.heap.size W2 W2.drew := (Below.refl _ _).drew
      refine tk 0 (.agg #[.int .i64 a.coin, .slice a.pa a.l.length a.c]) 29 rfl rfl hcur ?_ (by intro w' hS'; exact exec_loadM 24 _ rfl _ _ rfl #[.int .i64 a.coin, .slice a.pa a.l.length a.c] (range_lies (HS3.out w' hS').1) Tryz.underlying24 rfl info_value)
      refine tk 2 (.agg #[.int .i64 b.coin, .slice b.pa b.l.length b.c]) 31 rfl rfl hcur ?_ (by intro w' hS'; exact exec_loadM 24 _ rfl _ _ rfl #[.int .i64 b.coin, .slice b.pa b.l.length b.c] (range_lies (HS3.out w' hS').2.1) Tryz.underlying24 rfl info_value)
      refine pair_any 24 #[.int .i64 0, .slice none 0 0] 2 9 9 (LentC W2.heap.size a.coin a.l) (LentC W2.heap.size b.coin b.l) W2 ⟨1, 3, 4, 5, 6, 7⟩ (fun c1 c2 a1 a2 d1 d2 => #[true, c1, true, c2, a1, a2, d1, d2]) _ 30 32 9 10
        (by decide) (by intro s hs; show s < 158; simp only [List.mem_cons, List.not_mem_nil, or_false] at hs; rcases hs with rfl | rfl | rfl | rfl <;> decide) #[.agg #[.int .i64 a.coin, .slice a.pa a.l.length a.c]] #[.agg #[.int .i64 b.coin, .slice b.pa b.l.length b.c]] alloc_value rfl info_value
        (fun U cs h => by obtain ⟨v, rfl, g, c, rfl, _⟩ := h; exact ⟨rfl, by simp [Value.oneCell']⟩) (fun U cs h => by obtain ⟨v, rfl, g, c, rfl, _⟩ := h; exact ⟨rfl, by simp [Value.oneCell']⟩)
        (fun U U' cs h hb => by obtain ⟨v, rfl, h⟩ := h; exact ⟨v, rfl, h.below hb⟩) (fun U U' cs h hb => by obtain ⟨v, rfl, h⟩ := h; exact ⟨v, rfl, h.below hb⟩)
        (fun U g c0 cs cs' h hl => by obtain ⟨v, rfl, h⟩ := h; exact ⟨v, rfl, h.setRowV hl cs'⟩) (fun U g c0 cs cs' h hl => by obtain ⟨v, rfl, h⟩ := h; exact ⟨v, rfl, h.setRowV hl cs'⟩) _ _ _ _ _ _
        rfl rfl rfl (fun f V => by kernel_rfl) rfl rfl rfl (fun f V => by kernel_rfl) rfl rfl rfl rfl rfl rfl rfl rfl rfl rfl rfl rfl rfl rfl rfl rfl
        (by kernel_rfl) (fun _ _ _ _ _ => rfl) (fun _ _ _ _ _ => rfl) (fun _ _ _ _ _ => rfl) (fun _ _ _ _ _ => rfl) (fun _ _ _ _ _ => rfl) (fun _ _ _ _ _ => rfl)
        (fun U hU => (lentV_any U a.coin a.pa a.l a.c (HS3.out U hU).2.2.1.2.2 HRM.out.1 (by have := HF.out.1; omega)).mono fun e w' hh => by obtain ⟨⟨s, h1, h2⟩, h3⟩ := hh; exact ⟨_, h1, ⟨s, rfl, h2.mono hU.size⟩, h3⟩)
        (fun U hU => (lentV_any U b.coin b.pa b.l b.c (HS3.out U hU).2.2.2.2.2 HRM.out.2 (by have := HF.out.2; omega)).mono fun e w' hh => by obtain ⟨⟨s, h1, h2⟩, h3⟩ := hh; exact ⟨_, h1, ⟨s, rfl, h2.mono hU.size⟩, h3⟩) ?hE _ hcur _ (by decide)
      intro FF bX bY v1 v2 W4 hg1 hg2 hX hY hv1 hv2 hb hF1 hF2
      simp only [putF, Act.put, List.setIfInBounds_toArray, List.set_cons_zero, List.set_cons_succ, hF1, hF2]
      clear hF1 hF2 hg1 hg2 hcur HS3
      obtain ⟨s1, rfl, hn1⟩ := hv1
      obtain ⟨s2, rfl, hn2⟩ := hv2
      obtain ⟨hA, hB, hP, hva, hvb, hbw⟩ := HK.out
      clear HK
      have hA := hA.below hb hA.lt
      have hB := hB.below hb hB.lt
      have hP := hP.below hb hP.lt
      have hva := hva.below hb (Nat.le_refl _)
      have hvb := hvb.below hb (Nat.le_refl _)
      have hbw := hbw.trans (hb.mono hbw.size)
      clear hb
      obtain ⟨gx, cx, rfl, hlx⟩ := hn1.inn hva.2.2.2.1
      obtain ⟨gy, cy, rfl, hly⟩ := hn2.inn hvb.2.2.2.1
      clear hn1 hn2
      have hvx : VaOk W4 ⟨a.coin, some ⟨gx, 0, none⟩, a.l, cx⟩ := ⟨hva.1, hva.2.1, lent_row hlx hva.2.2.1 hva.2.2.2.1⟩
      have hvy : VaOk W4 ⟨b.coin, some ⟨gy, 0, none⟩, b.l, cy⟩ := ⟨hvb.1, hvb.2.1, lent_row hly hvb.2.2.1 hvb.2.2.2.1⟩
      have HK4 := Lib.hid (And.intro hA (And.intro hB (And.intro hP (And.intro hX (And.intro hY (And.intro hva (And.intro hvb (And.intro hlx (And.intro hly (And.intro hvx (And.intro hvy hbw)))))))))))
      have hb4 : Below W4.heap.size W4 W4 := Below.refl _ _
      have qhX0 := hX.cell 0 (v := .int .i64 a.coin) rfl
      have qhX1 := hX.cell 1 (v := .slice (some ⟨gx, 0, none⟩) a.l.length cx) rfl
      have qhY0 := hY.cell 0 (v := .int .i64 b.coin) rfl
      have qhY1 := hY.cell 1 (v := .slice (some ⟨gy, 0, none⟩) b.l.length cy) rfl
      have hsub := sub_o W4 ⟨a.coin, some ⟨gx, 0, none⟩, a.l, cx⟩ ⟨b.coin, some ⟨gy, 0, none⟩, b.l, cy⟩ hvx hvy
      have HG := Lib.hid hsub
      clear hsub
      have HK := Lib.hid (And.intro hA (And.intro hB (And.intro hP (And.intro hX (And.intro hY (And.intro hva (And.intro hvb (And.intro hlx (And.intro hly (And.intro hvx (And.intro hvy (And.intro hb4 hbw))))))))))))
      clear hA hB hP hX hY hva hvb hlx hly hvx hvy hb4 hbw
      go_wp2_with fail
      refine HG.out.mono ?_
      rintro e UC ⟨⟨ok, C, rfl, hmC, hsC⟩, hb⟩
      obtain ⟨hA, hB, hP, hX, hY, hva, hvb, hlx, hly, hvx, hvy, hb4, hbw⟩ := HK.out
      clear HK
      clear HG qhX0 qhX1 qhY0 qhY1
      have hA := hA.below hb hA.lt
      have hB := hB.below hb hB.lt
      have hP := hP.below hb hP.lt
      have hX := hX.below hb hX.lt
      have hY := hY.below hb hY.lt
      have hva := hva.below hb (Nat.le_refl _)
      have hvb := hvb.below hb (Nat.le_refl _)
      have hlx := hlx.below hb
      have hly := hly.below hb
      have hvx := hvx.below hb (Nat.le_refl _)
      have hvy := hvy.below hb (Nat.le_refl _)
      have hb4 := hb4.trans (hb.mono hb4.size)
      have hbw := hbw.trans (hb.mono hbw.size)
      clear hb
      have HSC := Lib.hid hsC
      clear hsC
      have HK := Lib.hid (And.intro hA (And.intro hB (And.intro hP (And.intro hX (And.intro hY (And.intro hva (And.intro hvb (And.intro hlx (And.intro hly (And.intro hvx (And.intro hvy (And.intro hb4 (And.intro hmC hbw)))))))))))))
      clear hA hB hP hX hY hva hvb hlx hly hvx hvy hb4 hmC hbw
      go_upto_region 5 with fail
      obtain ⟨hA, hB, hP, hX, hY, hva, hvb, hlx, hly, hvx, hvy, hb4, hmC, hbw⟩ := HK.out
      clear HK
      have hb : Below UC.heap.size UC (UC.alloc (.cells #[.int .i64 C.coin, .slice C.pa C.l.length C.c] 24)) := (Below.refl _ _).alloc (Nat.le_refl _) _
      have hC : Lies (UC.alloc (.cells #[.int .i64 C.coin, .slice C.pa C.l.length C.c] 24)) UC.heap.size #[.int .i64 C.coin, .slice C.pa C.l.length C.c] 24 := Lies.new _ _ _
      generalize UC.alloc (.cells #[.int .i64 C.coin, .slice C.pa C.l.length C.c] 24) = W5 at hb hC ⊢
      obtain ⟨bC, hbe⟩ : ∃ b, b = UC.heap.size := ⟨_, rfl⟩
      rw [← hbe] at hC ⊢
      clear hbe
      have hA := hA.below hb hA.lt
      have hB := hB.below hb hB.lt
      have hP := hP.below hb hP.lt
      have hX := hX.below hb hX.lt
      have hY := hY.below hb hY.lt
      have hva := hva.below hb (Nat.le_refl _)
      have hvb := hvb.below hb (Nat.le_refl _)
      have hlx := hlx.below hb
      have hly := hly.below hb
      have hvx := hvx.below hb (Nat.le_refl _)
      have hvy := hvy.below hb (Nat.le_refl _)
      have hb4 := hb4.trans (hb.mono hb4.size)
      have hmC := hmC.below hb
      have hbw := hbw.trans (hb.mono hbw.size)
      clear hb
      have qhA0 := hA.cell 0 (v := .int .i64 a.coin) rfl
      have qhA1 := hA.cell 1 (v := .slice a.pa a.l.length a.c) rfl
      have qhB0 := hB.cell 0 (v := .int .i64 b.coin) rfl
      have qhB1 := hB.cell 1 (v := .slice b.pa b.l.length b.c) rfl
      have hsub := rsub_any W5 a b hva hvb
      have HG := Lib.hid hsub
      clear hsub
      have HK := Lib.hid (And.intro hA (And.intro hB (And.intro hP (And.intro hX (And.intro hY (And.intro hC (And.intro hva (And.intro hvb (And.intro hlx (And.intro hly (And.intro hvx (And.intro hvy (And.intro hb4 (And.intro hmC hbw))))))))))))))
      clear hA hB hP hX hY hC hva hvb hlx hly hvx hvy hb4 hmC hbw
      go_wp2_with fail
      refine HG.out.mono ?_
      rintro e UD ⟨hres, hb⟩
      obtain ⟨is, D, rfl, hmD, hsD⟩ : ∃ (ok : Bool) (S : Va), e = .returned (.tuple #[.agg #[.int .i64 S.coin, .slice S.pa S.l.length S.c], .bool ok]) ∧ Row UD S.pa S.l ∧ SubM a b ok S.coin S.l := by
        obtain ⟨ok, coin, l, p, c, h1, h2, h3⟩ := hres
        exact ⟨ok, ⟨coin, p, l, c⟩, h1, h2, h3⟩
      obtain ⟨hA, hB, hP, hX, hY, hC, hva, hvb, hlx, hly, hvx, hvy, hb4, hmC, hbw⟩ := HK.out
      clear HK
      clear HG qhA0 qhA1 qhB0 qhB1
      have hA := hA.below hb hA.lt
      have hB := hB.below hb hB.lt
      have hP := hP.below hb hP.lt
      have hX := hX.below hb hX.lt
      have hY := hY.below hb hY.lt
      have hC := hC.below hb hC.lt
      have hva := hva.below hb (Nat.le_refl _)
      have hvb := hvb.below hb (Nat.le_refl _)
      have hlx := hlx.below hb
      have hly := hly.below hb
      have hvx := hvx.below hb (Nat.le_refl _)
      have hvy := hvy.below hb (Nat.le_refl _)
      have hb4 := hb4.trans (hb.mono hb4.size)
      have hmC := hmC.below hb
      have hbw := hbw.trans (hb.mono hbw.size)
      clear hb
      have HSD := Lib.hid hsD
      clear hsD
      have HK := Lib.hid (And.intro hA (And.intro hB (And.intro hP (And.intro hX (And.intro hY (And.intro hC (And.intro hva (And.intro hvb (And.intro hlx (And.intro hly (And.intro hvx (And.intro hvy (And.intro hb4 (And.intro hmC (And.intro hmD hbw)))))))))))))))
      clear hA hB hP hX hY hC hva hvb hlx hly hvx hvy hb4 hmC hmD hbw
      go_upto_region 6 with fail
      obtain ⟨hA, hB, hP, hX, hY, hC, hva, hvb, hlx, hly, hvx, hvy, hb4, hmC, hmD, hbw⟩ := HK.out
      clear HK
      have hb : Below UD.heap.size UD (UD.alloc (.cells #[.int .i64 D.coin, .slice D.pa D.l.length D.c] 24)) := (Below.refl _ _).alloc (Nat.le_refl _) _
      have hD : Lies (UD.alloc (.cells #[.int .i64 D.coin, .slice D.pa D.l.length D.c] 24)) UD.heap.size #[.int .i64 D.coin, .slice D.pa D.l.length D.c] 24 := Lies.new _ _ _
      generalize UD.alloc (.cells #[.int .i64 D.coin, .slice D.pa D.l.length D.c] 24) = W6 at hb hD ⊢
      obtain ⟨bD, hbe⟩ : ∃ b, b = UD.heap.size := ⟨_, rfl⟩
      rw [← hbe] at hD ⊢
      clear hbe
      have hA := hA.below hb hA.lt
      have hB := hB.below hb hB.lt
      have hP := hP.below hb hP.lt
      have hX := hX.below hb hX.lt
      have hY := hY.below hb hY.lt
      have hC := hC.below hb hC.lt
      have hva := hva.below hb (Nat.le_refl _)
      have hvb := hvb.below hb (Nat.le_refl _)
      have hlx := hlx.below hb
      have hly := hly.below hb
      have hvx := hvx.below hb (Nat.le_refl _)
      have hvy := hvy.below hb (Nat.le_refl _)
      have hb4 := hb4.trans (hb.mono hb4.size)
      have hmC := hmC.below hb
      have hmD := hmD.below hb (Nat.le_refl _)
      have hbw := hbw.trans (hb.mono hbw.size)
      clear hb
      obtain ⟨rfl, e2, e3⟩ := subM_uniq HSC.out HSD.out (subZ_of a b _ _ _ _)
      have HCD := Lib.hid (And.intro e2 e3)
      clear e2 e3
      have HLC := Lib.hid (own_lt hmC)
      have HW46 := Lib.hid hb4.size
      have qhX0 := hX.cell 0 (v := .int .i64 a.coin) rfl
      have qhX1 := hX.cell 1 (v := .slice (some ⟨gx, 0, none⟩) a.l.length cx) rfl
      have qhY0 := hY.cell 0 (v := .int .i64 b.coin) rfl
      have qhY1 := hY.cell 1 (v := .slice (some ⟨gy, 0, none⟩) b.l.length cy) rfl
      have hsub := sub_o W6 ⟨a.coin, some ⟨gx, 0, none⟩, a.l, cx⟩ ⟨b.coin, some ⟨gy, 0, none⟩, b.l, cy⟩ hvx hvy
      have HG := Lib.hid hsub
      clear hsub
      have HK := Lib.hid (And.intro hA (And.intro hB (And.intro hP (And.intro hX (And.intro hY (And.intro hC (And.intro hD (And.intro hva (And.intro hvb (And.intro hlx (And.intro hly (And.intro hvx (And.intro hvy (And.intro hb4 (And.intro hmC (And.intro hmD hbw))))))))))))))))
      clear hA hB hP hX hY hC hD hva hvb hlx hly hvx hvy hb4 hmC hmD hbw
      go_wp2_with fail
      refine HG.out.mono ?_
      rintro e UE ⟨⟨ok2, E, rfl, hmE, hsE⟩, hb⟩
      obtain ⟨hA, hB, hP, hX, hY, hC, hD, hva, hvb, hlx, hly, hvx, hvy, hb4, hmC, hmD, hbw⟩ := HK.out
      clear HK
      clear HG qhX0 qhX1 qhY0 qhY1
      have hA := hA.below hb hA.lt
      have hB := hB.below hb hB.lt
      have hP := hP.below hb hP.lt
      have hX := hX.below hb hX.lt
      have hY := hY.below hb hY.lt
      have hC := hC.below hb hC.lt
      have hD := hD.below hb hD.lt
      have hva := hva.below hb (Nat.le_refl _)
      have hvb := hvb.below hb (Nat.le_refl _)
      have hlx := hlx.below hb
      have hly := hly.below hb
      have hvx := hvx.below hb (Nat.le_refl _)
      have hvy := hvy.below hb (Nat.le_refl _)
      have hb4 := hb4.trans (hb.mono hb4.size)
      have hmC := hmC.below hb
      have hmD := hmD.below hb (Nat.le_refl _)
      have hbw := hbw.trans (hb.mono hbw.size)
      clear hb
      have HSE := Lib.hid hsE
      clear hsE
      have HK := Lib.hid (And.intro hA (And.intro hB (And.intro hP (And.intro hX (And.intro hY (And.intro hC (And.intro hD (And.intro hva (And.intro hvb (And.intro hlx (And.intro hly (And.intro hvx (And.intro hvy (And.intro hb4 (And.intro hmC (And.intro hmD (And.intro hmE hbw)))))))))))))))))
      clear hA hB hP hX hY hC hD hva hvb hlx hly hvx hvy hb4 hmC hmD hmE hbw
      go_upto_region 7 with fail
      obtain ⟨hA, hB, hP, hX, hY, hC, hD, hva, hvb, hlx, hly, hvx, hvy, hb4, hmC, hmD, hmE, hbw⟩ := HK.out
      clear HK
      have hb : Below UE.heap.size UE (UE.alloc (.cells #[.int .i64 E.coin, .slice E.pa E.l.length E.c] 24)) := (Below.refl _ _).alloc (Nat.le_refl _) _
      have hE : Lies (UE.alloc (.cells #[.int .i64 E.coin, .slice E.pa E.l.length E.c] 24)) UE.heap.size #[.int .i64 E.coin, .slice E.pa E.l.length E.c] 24 := Lies.new _ _ _
      generalize UE.alloc (.cells #[.int .i64 E.coin, .slice E.pa E.l.length E.c] 24) = W7 at hb hE ⊢
      obtain ⟨bE, hbe⟩ : ∃ b, b = UE.heap.size := ⟨_, rfl⟩
      rw [← hbe] at hE ⊢
      clear hbe
      have hA := hA.below hb hA.lt
      have hB := hB.below hb hB.lt
      have hP := hP.below hb hP.lt
      have hX := hX.below hb hX.lt
      have hY := hY.below hb hY.lt
      have hC := hC.below hb hC.lt
      have hD := hD.below hb hD.lt
      have hva := hva.below hb (Nat.le_refl _)
      have hvb := hvb.below hb (Nat.le_refl _)
      have hlx := hlx.below hb
      have hly := hly.below hb
      have hvx := hvx.below hb (Nat.le_refl _)
      have hvy := hvy.below hb (Nat.le_refl _)
      have hb4 := hb4.trans (hb.mono hb4.size)
      have hmC := hmC.below hb
      have hmD := hmD.below hb (Nat.le_refl _)
      have hmE := hmE.below hb
      have hbw := hbw.trans (hb.mono hbw.size)
      clear hb
      obtain ⟨e1, e2, e3⟩ := subM_uniq HSC.out HSE.out (fun _ _ => Iff.rfl)
      have HCE := Lib.hid (And.intro e2 e3)
      clear e1 e2 e3 HSD HSE
      obtain ⟨rb7, hrb7⟩ : ∃ x, x = rightB a.coin a.l := ⟨_, rfl⟩
      obtain ⟨mb7, hmb7⟩ : ∃ x, x = mintB a.l := ⟨_, rfl⟩
      obtain ⟨of7, hof7⟩ : ∃ x, x = am a.l := ⟨_, rfl⟩
      have hcov := fun U hU => covers_any U ⟨a.coin, some ⟨gx, 0, none⟩, a.l, cx⟩ ⟨b.coin, some ⟨gy, 0, none⟩, b.l, cy⟩ (hvx.below hU (Nat.le_refl _)) (hvy.below hU (Nat.le_refl _))
      unfold vaC vC at hcov
      have hr1 := fun U hU => right_any U a.coin (some ⟨gx, 0, none⟩) a.l cx (hvx.2.2.below hU (Nat.le_refl _))
      have hr2 := fun U hU => rright_any U a.coin a.pa a.l a.c (hva.2.2.below hU (Nat.le_refl _))
      have hm1 := fun U hU => mints_any U (some ⟨gx, 0, none⟩) a.l cx (hvx.2.2.below hU (Nat.le_refl _))
      have hm2 := fun U hU => rmints_any U a.pa a.l a.c (hva.2.2.below hU (Nat.le_refl _))
      have ho1 := fun U hU => HP.out.2.1 U a.coin ⟨a.coin, some ⟨gx, 0, none⟩, a.l, cx⟩ (hvx.2.2.below hU (Nat.le_refl _))
      have ho2 := fun U hU => HP.out.2.2 U a.coin a (hva.2.2.below hU (Nat.le_refl _))
      unfold vC at hr1
      simp only [← hrb7] at hr1 hr2
      simp only [← hmb7] at hm1 hm2
      simp only [← hof7] at ho1 ho2
      have K1 : Hid (∀ U, Below W7.heap.size W7 U → Calls Tryz.prog 12 #[.agg #[.int .i64 C.coin, .slice C.pa C.l.length C.c], .agg #[.int .i64 D.coin, .slice D.pa D.l.length D.c]] U fun e w' => e = .returned (.bool true) ∧ Below U.heap.size U w') := Lib.hid fun U hU => (same_m U C D (hmC.1.below hU (Nat.le_refl _)) (hmD.below hU (Nat.le_refl _))).mono fun e w' hh => ⟨by rw [hh.1, HCD.out.1, HCD.out.2, sameB_yes], hh.2⟩
      have K2 : Hid (∀ U, Below W7.heap.size W7 U → Calls Tryz.prog 13 #[.agg #[.int .i64 a.coin, .slice (some ⟨gx, 0, none⟩) a.l.length cx], .agg #[.int .i64 b.coin, .slice (some ⟨gy, 0, none⟩) b.l.length cy]] U fun e w' => e = .returned (.bool is) ∧ Below U.heap.size U w') := Lib.hid fun U hU => (hcov U hU).mono fun e w' hh => ⟨cov_is HSC.out hh.1, hh.2⟩
      have K3 : Hid (∀ U, Below W7.heap.size W7 U → Calls Tryz.prog 14 #[.agg #[.int .i64 a.coin, .slice (some ⟨gx, 0, none⟩) a.l.length cx]] U fun e w' => e = .returned (.bool rb7) ∧ Below U.heap.size U w') := Lib.hid hr1
      have K4 : Hid (∀ U, Below W7.heap.size W7 U → Calls Tryz.prog 15 #[.agg #[.int .i64 a.coin, .slice a.pa a.l.length a.c]] U fun e w' => e = .returned (.bool rb7) ∧ Below U.heap.size U w') := Lib.hid hr2
      have K5 : Hid (∀ U, Below W7.heap.size W7 U → Calls Tryz.prog 16 #[.slice (some ⟨gx, 0, none⟩) a.l.length cx] U fun e w' => e = .returned (.bool mb7) ∧ Below U.heap.size U w') := Lib.hid hm1
      have K6 : Hid (∀ U, Below W7.heap.size W7 U → Calls Tryz.prog 17 #[.slice a.pa a.l.length a.c] U fun e w' => e = .returned (.bool mb7) ∧ Below U.heap.size U w') := Lib.hid hm2
      have K7 : Hid (∀ U, Below W7.heap.size W7 U → Calls Tryz.prog 18 #[.agg #[.int .i64 a.coin, .slice (some ⟨gx, 0, none⟩) a.l.length cx], .agg pv, .string tv] U fun e w' => e = .returned (.int .i64 of7) ∧ Below U.heap.size U w') := Lib.hid ho1
      have K8 : Hid (∀ U, Below W7.heap.size W7 U → Calls Tryz.prog 19 #[.agg #[.int .i64 a.coin, .slice a.pa a.l.length a.c], .agg pv, .string tv] U fun e w' => e = .returned (.int .i64 of7) ∧ Below U.heap.size U w') := Lib.hid ho2
      clear hcov hr1 hr2 hm1 hm2 ho1 ho2 hrb7 hmb7 hof7
      have qX1 := hX.cell 1 (v := .slice (some ⟨gx, 0, none⟩) a.l.length cx) rfl
      have qA1 := hA.cell 1 (v := .slice a.pa a.l.length a.c) rfl
      have rX := fun d os => cell_regrown qX1 d os
      have rA := fun d os => cell_regrown qA1 d os
      clear qX1 qA1
      have HL7 := Lib.hid (And.intro hX (And.intro hY (And.intro hA (And.intro hC (And.intro hD hP)))))
      have HK := Lib.hid (And.intro hA (And.intro hB (And.intro hP (And.intro hX (And.intro hY (And.intro hC (And.intro hD (And.intro hE (And.intro hva (And.intro hvb (And.intro hlx (And.intro hly (And.intro hvx (And.intro hvy (And.intro hb4 (And.intro hmC (And.intro hmD (And.intro hmE hbw))))))))))))))))))
      clear hA hB hP hX hY hC hD hE hva hvb hlx hly hvx hvy hb4 hmC hmD hmE hbw
      refine wp_region_quiet_below (by kernel_rfl) (by kernel_rfl) ?_
      iterate 4 (first | go_big_quiet_step (fail) | quiet_step (fail))
      refine wpQuiet_loadE (by rfl) 24 _ rfl bC 0 rfl #[.int .i64 C.coin, .slice C.pa C.l.length C.c] _ (range_lies HL7.out.2.2.2.1) HL7.out.2.2.2.1.lt Tryz.underlying24 rfl info_value ?_
      refine wpQuiet_loadE (by rfl) 24 _ rfl bD 0 rfl #[.int .i64 D.coin, .slice D.pa D.l.length D.c] _ (range_lies HL7.out.2.2.2.2.1) HL7.out.2.2.2.2.1.lt Tryz.underlying24 rfl info_value ?_
      quiet_step ((go_at_call 12; with_reducible exact Calls.regrown_of (K1.out _ (below_regrown _ _ _))))
      iterate 3 (first | go_big_quiet_step (fail) | quiet_step (fail))
      refine wpQuiet_loadE (by rfl) 24 _ rfl bX 0 rfl #[.int .i64 a.coin, .slice (some ⟨gx, 0, none⟩) a.l.length cx] _ (range_lies HL7.out.1) HL7.out.1.lt Tryz.underlying24 rfl info_value ?_
      refine wpQuiet_loadE (by rfl) 24 _ rfl bY 0 rfl #[.int .i64 b.coin, .slice (some ⟨gy, 0, none⟩) b.l.length cy] _ (range_lies HL7.out.2.1) HL7.out.2.1.lt Tryz.underlying24 rfl info_value ?_
      quiet_step ((go_at_call 13; with_reducible exact Calls.regrown_of (K2.out _ (below_regrown _ _ _))))
      iterate 4 (first | go_big_quiet_step (fail) | quiet_step (fail))
      refine wpQuiet_loadE (by rfl) 24 _ rfl bX 0 rfl #[.int .i64 a.coin, .slice (some ⟨gx, 0, none⟩) a.l.length cx] _ (range_lies HL7.out.1) HL7.out.1.lt Tryz.underlying24 rfl info_value ?_
      quiet_step ((go_at_call 14; with_reducible exact Calls.regrown_of (K3.out _ (below_regrown _ _ _))))
      refine wpQuiet_loadE (by rfl) 24 _ rfl w.heap.size 0 rfl #[.int .i64 a.coin, .slice a.pa a.l.length a.c] _ (range_lies HL7.out.2.2.1) HL7.out.2.2.1.lt Tryz.underlying24 rfl info_value ?_
      quiet_step ((go_at_call 15; with_reducible exact Calls.regrown_of (K4.out _ (below_regrown _ _ _))))
      iterate 5 (first | go_big_quiet_step (fail) | quiet_step (fail))
      quiet_step ((go_at_call 16; with_reducible exact Calls.regrown_of (K5.out _ (below_regrown _ _ _))))
      iterate 2 (first | go_big_quiet_step (fail) | quiet_step (fail))
      quiet_step ((go_at_call 17; with_reducible exact Calls.regrown_of (K6.out _ (below_regrown _ _ _))))
      iterate 3 (first | go_big_quiet_step (fail) | quiet_step (fail))
      refine wpQuiet_loadE (by rfl) 24 _ rfl bX 0 rfl #[.int .i64 a.coin, .slice (some ⟨gx, 0, none⟩) a.l.length cx] _ (range_lies HL7.out.1) HL7.out.1.lt Tryz.underlying24 rfl info_value ?_
      refine wpQuiet_loadE (by rfl) 26 _ rfl (w.heap.size + 2) 0 rfl pv _ (range_lies HL7.out.2.2.2.2.2) HL7.out.2.2.2.2.2.lt Tryz.underlying26 rfl HP.out.1 ?_
      iterate 1 (first | go_big_quiet_step (fail) | quiet_step (fail))
      quiet_step ((go_at_call 18; with_reducible exact Calls.regrown_of (K7.out _ (below_regrown _ _ _))))
      refine wpQuiet_loadE (by rfl) 24 _ rfl w.heap.size 0 rfl #[.int .i64 a.coin, .slice a.pa a.l.length a.c] _ (range_lies HL7.out.2.2.1) HL7.out.2.2.1.lt Tryz.underlying24 rfl info_value ?_
      refine wpQuiet_loadE (by rfl) 26 _ rfl (w.heap.size + 2) 0 rfl pv _ (range_lies HL7.out.2.2.2.2.2) HL7.out.2.2.2.2.2.lt Tryz.underlying26 rfl HP.out.1 ?_
      iterate 1 (first | go_big_quiet_step (fail) | quiet_step (fail))
      quiet_step ((go_at_call 19; with_reducible exact Calls.regrown_of (K8.out _ (below_regrown _ _ _))))
      iterate 2 (first | go_big_quiet_step (fail) | quiet_step (fail))
      refine wpQuiet_nil ?_
      rintro W8 ⟨p8, hw8⟩
      have hb : Below W7.heap.size W7 W8 := by rw [hw8]; exact below_regrown W7 p8.d p8.os
      clear hw8 K1 K2 K3 K4 K5 K6 K7 K8 HL7 rX rA
      obtain ⟨hA, hB, hP, hX, hY, hC, hD, hE, hva, hvb, hlx, hly, hvx, hvy, hb4, hmC, hmD, hmE, hbw⟩ := HK.out
      clear HK
      have hA := hA.below hb hA.lt
      have hB := hB.below hb hB.lt
      have hP := hP.below hb hP.lt
      have hX := hX.below hb hX.lt
      have hY := hY.below hb hY.lt
      have hC := hC.below hb hC.lt
      have hD := hD.below hb hD.lt
      have hE := hE.below hb hE.lt
      have hva := hva.below hb (Nat.le_refl _)
      have hvb := hvb.below hb (Nat.le_refl _)
      have hlx := hlx.below hb
      have hly := hly.below hb
      have hvx := hvx.below hb (Nat.le_refl _)
      have hvy := hvy.below hb (Nat.le_refl _)
      have hb4 := hb4.trans (hb.mono hb4.size)
      have hmC := hmC.below hb
      have hmD := hmD.below hb (Nat.le_refl _)
      have hmE := hmE.below hb
      have hbw := hbw.trans (hb.mono hbw.size)
      clear hb
      have HK := Lib.hid (And.intro hA (And.intro hB (And.intro hP (And.intro hX (And.intro hY (And.intro hC (And.intro hD (And.intro hE (And.intro hva (And.intro hvb (And.intro hlx (And.intro hly (And.intro hvx (And.intro hvy (And.intro hb4 (And.intro hmC (And.intro hmD (And.intro hmE hbw))))))))))))))))))
      clear hA hB hP hX hY hC hD hE hva hvb hlx hly hvx hvy hb4 hmC hmD hmE hbw
      go_upto_region 9 with fail
      have rl : (a.l.length : Int) ≤ 200 := by have := HF.out.1; omega
      go_wp2_with fail
      go_loopw [17] (fun i U => ∃ k : Nat, k ≤ a.l.length ∧ i = .int .i64 k ∧ Below W8.heap.size W8 U) (fun i _ => a.l.length - (intOf i).toNat)
      case atStart => exact ⟨0, Nat.zero_le _, rfl, Below.refl _ _⟩
      case round =>
        obtain ⟨k, hk, rfl, hbk⟩ := hrel
        obtain ⟨hA, hB, hP, hX, hY, hC, hD, hE, hva, hvb, hlx, hly, hvx, hvy, hb4, hmC, hmD, hmE, hbw⟩ := HK.out
        have hA := hA.below hbk hA.lt
        have hB := hB.below hbk hB.lt
        have hP := hP.below hbk hP.lt
        have hX := hX.below hbk hX.lt
        have hY := hY.below hbk hY.lt
        have hC := hC.below hbk hC.lt
        have hD := hD.below hbk hD.lt
        have hE := hE.below hbk hE.lt
        have hva := hva.below hbk (Nat.le_refl _)
        have hvb := hvb.below hbk (Nat.le_refl _)
        have hlx := hlx.below hbk
        have hly := hly.below hbk
        have hvx := hvx.below hbk (Nat.le_refl _)
        have hvy := hvy.below hbk (Nat.le_refl _)
        have hb4 := hb4.trans (hbk.mono hb4.size)
        have hmC := hmC.below hbk
        have hmD := hmD.below hbk (Nat.le_refl _)
        have hmE := hmE.below hbk
        have hbw := hbw.trans (hbk.mono hbw.size)
        by_cases hlt : k < a.l.length
        · as_aux_lemma =>
          have m1 : (k : Int) < (a.l.length : Int) := by omega
          have m1n : k < a.l.length := hlt
          have m0 : (0 : Int) ≤ (k : Int) := by omega
          obtain ⟨y, hy⟩ : ∃ y, a.l[k]? = some y := ⟨a.l[k], List.getElem?_eq_getElem hlt⟩
          have oky := hva.2.2.2.1 y (List.mem_of_getElem? hy)
          obtain ⟨ga, offa, hpa, hga, hha⟩ := hva.2.2.2.2 (by omega)
          have hrg := hha k y hy
          have cS := asC_strR oky.1 hrg
          have hpo := asC_polR oky.1 hrg
          have qX1 := hX.cell 1 (v := .slice (some ⟨gx, 0, none⟩) a.l.length cx) rfl
          have qA1 := hA.cell 1 (v := .slice a.pa a.l.length a.c) rfl
          rw [hpa] at qA1
          obtain ⟨z, hz⟩ : ∃ z, z = amtOf a.l (y.nm.1, y.nm.2) := ⟨_, rfl⟩
          have ho1 := fun U hU => of_any U a.coin (some ⟨gx, 0, none⟩) a.l cx y.nm.1 y.nm.2 (hvx.2.2.below hU (Nat.le_refl _)) oky.1 oky.2.1
          have ho2 := fun U hU => rof_any U a.coin a.pa a.l a.c y.nm.1 y.nm.2 (hva.2.2.below hU (Nat.le_refl _)) oky.1
          have hys : (Tryz.prog.info? 26).map (·.size) = some (B8 y.nm.1).size := by rw [B8_size, oky.1]; exact info_hash
          unfold vC at ho1 ho2
          obtain ⟨yv, hyv⟩ : ∃ v, v = B8 y.nm.1 := ⟨_, rfl⟩
          obtain ⟨ys, hyt⟩ : ∃ v, v = txt y.nm.2 := ⟨_, rfl⟩
          simp only [← hz, ← hyv, ← hyt] at ho1 ho2
          rw [← hyt] at cS
          rw [← hyv] at hpo hys
          have rX := fun d os => cell_regrown qX1 d os
          have rA := fun d os => cell_regrown qA1 d os
          have rS := fun d os => cell_regrown cS d os
          have K1 : Hid (∀ U, Below wr.heap.size wr U → Calls Tryz.prog 18 #[.agg #[.int .i64 a.coin, .slice (some ⟨gx, 0, none⟩) a.l.length cx], .agg yv, .string ys] U fun e w' => e = .returned (.int .i64 z) ∧ Below U.heap.size U w') := Lib.hid ho1
          have K2 : Hid (∀ U, Below wr.heap.size wr U → Calls Tryz.prog 19 #[.agg #[.int .i64 a.coin, .slice a.pa a.l.length a.c], .agg yv, .string ys] U fun e w' => e = .returned (.int .i64 z) ∧ Below U.heap.size U w') := Lib.hid ho2
          have HL9 := Lib.hid (And.intro hX (And.intro hA (And.intro hpo (And.intro hga hys))))
          have HB9 := Lib.hid (And.intro hbk hlt)
          clear ho1 ho2 hz hyv hyt hpo hys hga hha hrg cS qX1 hpa oky hy hbk hlt hk hA hB hP hX hY hC hD hE hva hvb hlx hly hvx hvy hb4 hmC hmD hmE hbw
          go_upto_region 12 with fail
          refine wp_region_quiet_below (by kernel_rfl) (by kernel_rfl) ?_
          refine wpQuiet_loadE (by rfl) 24 _ rfl bX 0 rfl #[.int .i64 a.coin, .slice (some ⟨gx, 0, none⟩) a.l.length cx] _ (range_lies HL9.out.1) HL9.out.1.lt Tryz.underlying24 rfl info_value ?_
          iterate 5 (first | go_big_quiet_step (fail) | quiet_step (fail))
          refine wpQuiet_loadE (by rfl) 26 _ rfl ga (offa + k * 34) rfl yv _ HL9.out.2.2.1 HL9.out.2.2.2.1 Tryz.underlying26 rfl HL9.out.2.2.2.2 ?_
          iterate 6 (first | go_big_quiet_step (fail) | quiet_step (fail))
          quiet_step ((go_at_call 18; with_reducible exact Calls.regrown_of (K1.out _ (below_regrown _ _ _))))
          refine wpQuiet_loadE (by rfl) 24 _ rfl w.heap.size 0 rfl #[.int .i64 a.coin, .slice a.pa a.l.length a.c] _ (range_lies HL9.out.2.1) HL9.out.2.1.lt Tryz.underlying24 rfl info_value ?_
          iterate 5 (first | go_big_quiet_step (fail) | quiet_step (fail))
          refine wpQuiet_loadE (by rfl) 26 _ rfl ga (offa + k * 34) rfl yv _ HL9.out.2.2.1 HL9.out.2.2.2.1 Tryz.underlying26 rfl HL9.out.2.2.2.2 ?_
          iterate 6 (first | go_big_quiet_step (fail) | quiet_step (fail))
          quiet_step ((go_at_call 19; with_reducible exact Calls.regrown_of (K2.out _ (below_regrown _ _ _))))
          iterate 1 (first | go_big_quiet_step (fail) | quiet_step (fail))
          refine wpQuiet_nil ?_
          rintro w5 ⟨p9, hw5⟩
          have HB5 : Hid (Below W8.heap.size W8 w5) := Lib.hid (by rw [hw5]; exact HB9.out.1.trans ((below_regrown wr p9.d p9.os).mono HB9.out.1.size))
          clear hw5 K1 K2 HL9 rX rA rS qA1
          go_wp2_with fail
          refine ⟨⟨k + 1, by have := HB9.out.2; omega, by go_num, HB5.out⟩, ?_⟩
          have := HB9.out.2
          simp [intOf]; omega
        · as_aux_lemma =>
          obtain rfl : k = a.l.length := by omega
          have m1 : decide ((a.l.length : Int) < (a.l.length : Int)) = false := by simp
          have m1n : ¬ a.l.length < a.l.length := by omega
          have qA1 := hA.cell 1 (v := .slice a.pa a.l.length a.c) rfl
          clear hlt hk HK hbk
          have HK := Lib.hid (And.intro hA (And.intro hB (And.intro hP (And.intro hX (And.intro hY (And.intro hC (And.intro hD (And.intro hE (And.intro hva (And.intro hvb (And.intro hlx (And.intro hly (And.intro hvx (And.intro hvy (And.intro hb4 (And.intro hmC (And.intro hmD (And.intro hmE hbw))))))))))))))))))
          clear hA hB hP hX hY hC hD hE hva hvb hlx hly hvx hvy hb4 hmC hmD hmE hbw
          go_upto_region 14 with fail
          clear m1 m1n qA1
          obtain ⟨hA, hB, hP, hX, hY, hC, hD, hE, hva, hvb, hlx, hly, hvx, hvy, hb4, hmC, hmD, hmE, hbw⟩ := HK.out
          clear HK
          have qhX0 := hX.cell 0 (v := .int .i64 a.coin) rfl
          have qhX1 := hX.cell 1 (v := .slice (some ⟨gx, 0, none⟩) a.l.length cx) rfl
          have qhA0 := hA.cell 0 (v := .int .i64 a.coin) rfl
          have qhA1 := hA.cell 1 (v := .slice a.pa a.l.length a.c) rfl
          have hcall := keptV_any wr a.coin a.l gx cx a.pa a.c hlx hva.2.2 (by have := HF.out.1; omega)
          have HG := Lib.hid hcall
          clear hcall
          have HK := Lib.hid (And.intro hA (And.intro hB (And.intro hP (And.intro hX (And.intro hY (And.intro hC (And.intro hD (And.intro hE (And.intro hva (And.intro hvb (And.intro hlx (And.intro hly (And.intro hvx (And.intro hvy (And.intro hb4 (And.intro hmC (And.intro hmD (And.intro hmE hbw))))))))))))))))))
          clear hA hB hP hX hY hC hD hE hva hvb hlx hly hvx hvy hb4 hmC hmD hmE hbw
          go_wp2_with fail
          refine HG.out.mono ?_
          rintro e W10 ⟨rfl, hb⟩
          obtain ⟨hA, hB, hP, hX, hY, hC, hD, hE, hva, hvb, hlx, hly, hvx, hvy, hb4, hmC, hmD, hmE, hbw⟩ := HK.out
          clear HK
          clear HG qhX0 qhX1 qhA0 qhA1
          have hA := hA.below hb hA.lt
          have hB := hB.below hb hB.lt
          have hP := hP.below hb hP.lt
          have hX := hX.below hb hX.lt
          have hY := hY.below hb hY.lt
          have hC := hC.below hb hC.lt
          have hD := hD.below hb hD.lt
          have hE := hE.below hb hE.lt
          have hva := hva.below hb (Nat.le_refl _)
          have hvb := hvb.below hb (Nat.le_refl _)
          have hlx := hlx.below hb
          have hly := hly.below hb
          have hvx := hvx.below hb (Nat.le_refl _)
          have hvy := hvy.below hb (Nat.le_refl _)
          have hb4 := hb4.trans (hb.mono hb4.size)
          have hmC := hmC.below hb
          have hmD := hmD.below hb (Nat.le_refl _)
          have hmE := hmE.below hb
          have hbw := hbw.trans (hb.mono hbw.size)
          clear hb
          have qhY0 := hY.cell 0 (v := .int .i64 b.coin) rfl
          have qhY1 := hY.cell 1 (v := .slice (some ⟨gy, 0, none⟩) b.l.length cy) rfl
          have qhB0 := hB.cell 0 (v := .int .i64 b.coin) rfl
          have qhB1 := hB.cell 1 (v := .slice b.pa b.l.length b.c) rfl
          have hcall := keptV_any W10 b.coin b.l gy cy b.pa b.c hly hvb.2.2 (by have := HF.out.2; omega)
          have HG := Lib.hid hcall
          clear hcall
          have HK := Lib.hid (And.intro hA (And.intro hB (And.intro hP (And.intro hX (And.intro hY (And.intro hC (And.intro hD (And.intro hE (And.intro hva (And.intro hvb (And.intro hlx (And.intro hly (And.intro hvx (And.intro hvy (And.intro hb4 (And.intro hmC (And.intro hmD (And.intro hmE hbw))))))))))))))))))
          clear hA hB hP hX hY hC hD hE hva hvb hlx hly hvx hvy hb4 hmC hmD hmE hbw
          go_wp2_with fail
          refine HG.out.mono ?_
          rintro e W11 ⟨rfl, hb⟩
          obtain ⟨hA, hB, hP, hX, hY, hC, hD, hE, hva, hvb, hlx, hly, hvx, hvy, hb4, hmC, hmD, hmE, hbw⟩ := HK.out
          clear HK
          clear HG qhY0 qhY1 qhB0 qhB1
          have hA := hA.below hb hA.lt
          have hB := hB.below hb hB.lt
          have hP := hP.below hb hP.lt
          have hX := hX.below hb hX.lt
          have hY := hY.below hb hY.lt
          have hC := hC.below hb hC.lt
          have hD := hD.below hb hD.lt
          have hE := hE.below hb hE.lt
          have hva := hva.below hb (Nat.le_refl _)
          have hvb := hvb.below hb (Nat.le_refl _)
          have hlx := hlx.below hb
          have hly := hly.below hb
          have hvx := hvx.below hb (Nat.le_refl _)
          have hvy := hvy.below hb (Nat.le_refl _)
          have hb4 := hb4.trans (hb.mono hb4.size)
          have hmC := hmC.below hb
          have hmD := hmD.below hb (Nat.le_refl _)
          have hmE := hmE.below hb
          have hbw := hbw.trans (hb.mono hbw.size)
          clear hb
          have qhC0 := hC.cell 0 (v := .int .i64 C.coin) rfl
          have qhC1 := hC.cell 1 (v := .slice C.pa C.l.length C.c) rfl
          have qhE0 := hE.cell 0 (v := .int .i64 E.coin) rfl
          have qhE1 := hE.cell 1 (v := .slice E.pa E.l.length E.c) rfl
          have hbG : Below W11.heap.size W11 ((W11.alloc (.cells #[.int .i64 C.coin, .slice C.pa C.l.length C.c, .int .i64 E.coin, .slice E.pa E.l.length E.c] 24)).alloc (.cells #[.slice (some ⟨W11.heap.size, 0, none⟩) 2 2] 28)) := ((Below.refl _ _).alloc (Nat.le_refl _) _).alloc (by simp) _
          have hLG : Lies ((W11.alloc (.cells #[.int .i64 C.coin, .slice C.pa C.l.length C.c, .int .i64 E.coin, .slice E.pa E.l.length E.c] 24)).alloc (.cells #[.slice (some ⟨W11.heap.size, 0, none⟩) 2 2] 28)) W11.heap.size #[.int .i64 C.coin, .slice C.pa C.l.length C.c, .int .i64 E.coin, .slice E.pa E.l.length E.c] 24 := (Lies.new _ _ _).alloc _
          have hLH : Lies ((W11.alloc (.cells #[.int .i64 C.coin, .slice C.pa C.l.length C.c, .int .i64 E.coin, .slice E.pa E.l.length E.c] 24)).alloc (.cells #[.slice (some ⟨W11.heap.size, 0, none⟩) 2 2] 28)) (W11.heap.size + 1) #[.slice (some ⟨W11.heap.size, 0, none⟩) 2 2] 28 := lies_new2 _ _ _ _ (by simp)
          have hro := duo_rowO (B := W4.heap.size) (n := W6.heap.size) hLG hbG hmC (hmE.mono HW46.out) hb4.size (Nat.le_trans (subM_few HSC.out) (by decide)) (by rw [HCE.out.2]; exact Nat.le_trans (subM_few HSC.out) (by decide)) (fun p e => (HLC.out p e).2) (fun p e => (own_lt hmE p e).1)
          have hap := apartV_any _ (W11.heap.size + 1) 1 W4.heap.size W11.heap.size 2 [C, E] hLH.lt (hLH.cell 0 rfl) hro (show 0 < 2 by decide) (show 2 ≤ 1000 by decide) (Nat.le_trans hb4.size hbG.size)
          have HG := Lib.hid (And.intro hap (And.intro hbG (And.intro hb4 hbw)))
          clear hap hbG hLG hLH hro
          clear hA hB hP hX hY hC hD hE hva hvb hlx hly hvx hvy hb4 hmC hmD hmE hbw
          go_wp2_with fail
          refine HG.out.1.mono ?_
          rintro e W12 ⟨rfl, hb⟩
          have hb := HG.out.2.2.1.trans ((HG.out.2.1.mono HG.out.2.2.1.size).trans hb)
          clear HG qhC0 qhC1 qhE0 qhE1
          obtain ⟨hA, hB, hP, hX, hY, hva, hvb, hlx, hly, hvx, hvy, hbw⟩ := HK4.out
          have hA := hA.below hb hA.lt
          have hB := hB.below hb hB.lt
          have hP := hP.below hb hP.lt
          have hX := hX.below hb hX.lt
          have hY := hY.below hb hY.lt
          have hva := hva.below hb (Nat.le_refl _)
          have hvb := hvb.below hb (Nat.le_refl _)
          have hlx := hlx.below hb
          have hly := hly.below hb
          have hvx := hvx.below hb (Nat.le_refl _)
          have hvy := hvy.below hb (Nat.le_refl _)
          have hbw := hbw.trans (hb.mono hbw.size)
          clear hb HK4
          have qhX0 := hX.cell 0 (v := .int .i64 a.coin) rfl
          have qhX1 := hX.cell 1 (v := .slice (some ⟨gx, 0, none⟩) a.l.length cx) rfl
          have qhA0 := hA.cell 0 (v := .int .i64 a.coin) rfl
          have qhA1 := hA.cell 1 (v := .slice a.pa a.l.length a.c) rfl
          have hcall := keptV_any W12 a.coin a.l gx cx a.pa a.c hlx hva.2.2 (by have := HF.out.1; omega)
          have HG := Lib.hid hcall
          clear hcall
          have HK := Lib.hid (And.intro hA (And.intro hB (And.intro hP (And.intro hX (And.intro hY (And.intro hva (And.intro hvb (And.intro hlx (And.intro hly (And.intro hvx (And.intro hvy hbw)))))))))))
          clear hA hB hP hX hY hva hvb hlx hly hvx hvy hbw
          go_wp2_with fail
          refine HG.out.mono ?_
          rintro e W13 ⟨rfl, hb⟩
          obtain ⟨hA, hB, hP, hX, hY, hva, hvb, hlx, hly, hvx, hvy, hbw⟩ := HK.out
          clear HK
          clear HG qhX0 qhX1 qhA0 qhA1
          have hA := hA.below hb hA.lt
          have hB := hB.below hb hB.lt
          have hP := hP.below hb hP.lt
          have hX := hX.below hb hX.lt
          have hY := hY.below hb hY.lt
          have hva := hva.below hb (Nat.le_refl _)
          have hvb := hvb.below hb (Nat.le_refl _)
          have hlx := hlx.below hb
          have hly := hly.below hb
          have hvx := hvx.below hb (Nat.le_refl _)
          have hvy := hvy.below hb (Nat.le_refl _)
          have hbw := hbw.trans (hb.mono hbw.size)
          clear hb
          have qhY0 := hY.cell 0 (v := .int .i64 b.coin) rfl
          have qhY1 := hY.cell 1 (v := .slice (some ⟨gy, 0, none⟩) b.l.length cy) rfl
          have qhB0 := hB.cell 0 (v := .int .i64 b.coin) rfl
          have qhB1 := hB.cell 1 (v := .slice b.pa b.l.length b.c) rfl
          have hcall := keptV_any W13 b.coin b.l gy cy b.pa b.c hly hvb.2.2 (by have := HF.out.2; omega)
          have HG := Lib.hid hcall
          clear hcall
          have HK := Lib.hid (And.intro hA (And.intro hB (And.intro hP (And.intro hX (And.intro hY (And.intro hva (And.intro hvb (And.intro hlx (And.intro hly (And.intro hvx (And.intro hvy hbw)))))))))))
          clear hA hB hP hX hY hva hvb hlx hly hvx hvy hbw
          go_wp2_with fail
          refine HG.out.mono ?_
          rintro e W14 ⟨rfl, hb⟩
          obtain ⟨hA, hB, hP, hX, hY, hva, hvb, hlx, hly, hvx, hvy, hbw⟩ := HK.out
          clear HK
          clear HG qhY0 qhY1 qhB0 qhB1
          have hA := hA.below hb hA.lt
          have hB := hB.below hb hB.lt
          have hP := hP.below hb hP.lt
          have hX := hX.below hb hX.lt
          have hY := hY.below hb hY.lt
          have hva := hva.below hb (Nat.le_refl _)
          have hvb := hvb.below hb (Nat.le_refl _)
          have hlx := hlx.below hb
          have hly := hly.below hb
          have hvx := hvx.below hb (Nat.le_refl _)
          have hvy := hvy.below hb (Nat.le_refl _)
          have hbw := hbw.trans (hb.mono hbw.size)
          clear hb
          have HE := Lib.hid hbw
          clear hA hB hP hX hY hva hvb hlx hly hvx hvy hbw
          go_wp2_with (go_at_call 8; refine (awake_any _).mono ?_; rintro e W3 ⟨rfl, hb3⟩)
          go_ret
          exact ⟨rfl, HE.out.trans (hb3.mono HE.out.size)⟩
end Go.Proofs.YtjngghihciimjaaGreat
