/-
  pack: get[[]Entry] and GetEntries (written by tools/gen_getes.py).
-/
import Derived.Test.YtilbbemdinpjcaaGreatJYe
set_option maxHeartbeats 16000000
namespace Go.Proofs.YtilbbemdinpjcaaGreat.P
set_option maxRecDepth 100000
open Go.RowKit Go.Sort
structure DfV where
 s : List (Rf × OutV)
 m : List (Rf × OutV)
 fe : Int
 fo : Int
 l : List To
def diV (d : Df) : DfV := ⟨d.s.map enV, d.m.map enV, d.fe, d.fo, d.l⟩
def i64V (xs : List UInt8) (st : Option Nat) : Int := IntKind.i64.wrap (W.numV xs st 8)
def diffD (xs : List UInt8) (st : Option Nat) : Option (DfV × Option Nat) := match entriesD xs st with
  | none => none
  | some (s, s1) => match entriesD xs s1 with
    | none => none
    | some (m, s2) => match totalsD xs (W.numS xs (W.numS xs s2 8) 8) with
      | none => none
      | some (l, s3) => some (⟨s, m, i64V xs s2, i64V xs (W.numS xs s2 8), l⟩, s3)
theorem own_form {w : World} {B : Nat} {ty : TypeId} {sz n : Nat} {v : Value} {l : List Value} (h : w.ownsRow B ty sz v n l) : ∃ a cp, v = .slice a n cp ∧ n ≤ cp ∧ n ≤ maxLen := by
 rcases h.2 with ⟨h1, h2⟩ | ⟨g, cap, cur, h1, _, _, h4, h5, _⟩
 ·
  exact ⟨none, 0, by rw [h1, h2], by omega, by rw [h2]; exact Nat.zero_le _⟩
 ·
  exact ⟨_, cap, h1, h4, Nat.le_trans h4 h5⟩
theorem EnMem.only {V V' : World} {g B : Nat} {e : En} (h : EnMem V B e) (ho : W.Only g V V' none) (hg : g < B) : EnMem V' B e := ⟨h.1, h.2.only ho hg⟩
theorem EnMem.below {V V' : World} {B : Nat} {e : En} (h : EnMem V B e) (hb : Below V.heap.size V V') : EnMem V' B e := ⟨h.1, h.2.below hb⟩
theorem EnMem.weak {V : World} {B B' : Nat} {e : En} (h : EnMem V B e) (hb : B' ≤ B) : EnMem V B' e := ⟨h.1, h.2.weak hb⟩
theorem EnMem.row {V : World} {B q : Nat} {e : En} (h : EnMem V B e) (hq : q < B) (cs : Array Value) : EnMem (V.setRow q cs) B e := ⟨h.1, h.2.row hq cs⟩
def OwnEs (V : World) (B : Nat) (v : Value) (l : List En) : Prop := V.ownsRow B 81 102 v l.length (cellsF enC l) ∧ ∀ x ∈ l, EnMem V B x ∧ EnFar v x
theorem OwnEs.only {V V' : World} {g B : Nat} {v : Value} {l : List En} (h : OwnEs V B v l) (ho : W.Only g V V' none) (hg : g < B) : OwnEs V' B v l :=
 ⟨W.own_only h.1 ho (fun e => by have := (W.own_block h.1 _ e).1; omega) (fun _ _ => by simp), fun x hx => ⟨(h.2 x hx).1.only ho hg, (h.2 x hx).2⟩⟩
theorem OwnEs.below {V V' : World} {B : Nat} {v : Value} {l : List En} (h : OwnEs V B v l) (hb : Below V.heap.size V V') : OwnEs V' B v l :=
 ⟨ownsRow_below h.1 hb, fun x hx => ⟨(h.2 x hx).1.below hb, (h.2 x hx).2⟩⟩
theorem OwnEs.weak {V : World} {B B' : Nat} {v : Value} {l : List En} (h : OwnEs V B v l) (hb : B' ≤ B) : OwnEs V B' v l :=
 ⟨ownsRow_weak h.1 hb, fun x hx => ⟨(h.2 x hx).1.weak hb, (h.2 x hx).2⟩⟩
theorem OwnEs.row {V : World} {B q : Nat} {v : Value} {l : List En} (h : OwnEs V B v l) (hq : q < B) (cs : Array Value) : OwnEs (V.setRow q cs) B v l :=
 ⟨own_row h.1 hq cs, fun x hx => ⟨(h.2 x hx).1.row hq cs, (h.2 x hx).2⟩⟩
theorem OwnEs.rowE {V : World} {B : Nat} {v : Value} {l : List En} (h : OwnEs V B v l) : ∃ a cp, v = .slice a l.length cp ∧ l.length ≤ cp ∧ RowE V a l := by
 obtain ⟨a0, cp0, _, _, hml⟩ := own_form h.1
 rcases own_at enC 102 (fun a ha => by unfold enC; rw [Array.size_append, refC_size _ (h.2 a ha).1.1.1, otC_size _ (h.2 a ha).1.2.1 (h.2 a ha).1.2.2.1]) h.1 with ⟨h1, rfl⟩ | ⟨g, cap, h1, h2, h3, h4, h5, _⟩
 ·
  exact ⟨none, 0, h1, Nat.le_refl _, hml, fun h0 => absurd h0 (by simp)⟩
 ·
  refine ⟨_, cap, h1, h4, hml, fun _ => ⟨g, 0, rfl, h3, fun i e he => ⟨h5 i e he, ?_, ?_⟩⟩⟩
  ·
   exact (h.2 e (List.mem_of_getElem? he)).1.1
  ·
   exact (h.2 e (List.mem_of_getElem? he)).1.2.ok
def DfIn (V : World) (B : Nat) (d : Df) : Prop := OwnEs V B (.slice d.ps d.s.length d.cs) d.s ∧ OwnEs V B (.slice d.pm d.m.length d.cm) d.m ∧ OwnTo V B (.slice d.pt d.l.length d.ct) d.l ∧ I64 d.fe ∧ I64 d.fo ∧ (∀ a ∈ d.l, ToOk a) ∧ d.l.length ≤ maxLen
def DiG (g k : Nat) (xs : List UInt8) (c : Nat) (w : World) (o : Option (DfV × Option Nat)) (e : Ending) (w' : World) : Prop :=
 W.Only g w w' none ∧ ((∃ d st, e = .returned (.agg (dfC d)) ∧ DfIn w' w.heap.size d ∧ W.RSt w' g k xs c st ∧ o = some (diV d, st)) ∨ (Fault e ∧ o = none ∧ ∃ st, W.RSt w' g k xs c st))
theorem i64V_in (xs : List UInt8) (st : Option Nat) : I64 (i64V xs st) := by
 unfold I64 i64V
 rw [IntKind.wrap_i64]
 omega
theorem diffD_no1 {xs : List UInt8} {st : Option Nat} (h : entriesD xs st = none) : diffD xs st = none := by unfold diffD; rw [h]
theorem diffD_no2 {xs : List UInt8} {st s1 : Option Nat} {s : List (Rf × OutV)} (h : entriesD xs st = some (s, s1)) (h2 : entriesD xs s1 = none) : diffD xs st = none := by unfold diffD; rw [h]; simp only; rw [h2]
theorem diffD_no3 {xs : List UInt8} {st s1 s2 : Option Nat} {s m : List (Rf × OutV)} (h : entriesD xs st = some (s, s1)) (h2 : entriesD xs s1 = some (m, s2)) (h3 : totalsD xs (W.numS xs (W.numS xs s2 8) 8) = none) : diffD xs st = none := by unfold diffD; rw [h]; simp only; rw [h2]; simp only; rw [h3]
theorem diffD_yes {xs : List UInt8} {st s1 s2 s3 : Option Nat} {s m : List (Rf × OutV)} {l : List To} (h : entriesD xs st = some (s, s1)) (h2 : entriesD xs s1 = some (m, s2)) (h3 : totalsD xs (W.numS xs (W.numS xs s2 8) 8) = some (l, s3)) : diffD xs st = some (⟨s, m, i64V xs s2, i64V xs (W.numS xs s2 8), l⟩, s3) := by unfold diffD; rw [h]; simp only; rw [h2]; simp only; rw [h3]
theorem getterDiff_any (w : World) (g k : Nat) (xs : List UInt8) (c : Nat) (st : Option Nat) (h : W.RSt w g k xs c st) (hx : xs.length < 1000000) :
  Calls Tryz.prog 160 #[.agg #[.pointer (some ⟨g, 0, none⟩)]] w (DiG g k xs c w (diffD xs st)) := by
 obtain ⟨res, hres⟩ : ∃ r, r = diffD xs st := ⟨_, rfl⟩
 rw [← hres]
 obtain ⟨b1, b2, b3, b4⟩ := box_two w #[.pointer (some ⟨g, 0, none⟩)] (#[.slice none 0 0, .slice none 0 0, .int .i64 0, .int .i64 0, .slice none 0 0] : Array Value) 174 40
 have HLT := Lib.hid h.lt
 have H := Lib.hid (And.intro hres (And.intro h hx))
 clear h hres hx
 obtain ⟨W0, HW⟩ : ∃ W0, (w.alloc (.cells #[.pointer (some ⟨g, 0, none⟩)] 174)).alloc (.cells (#[.slice none 0 0, .slice none 0 0, .int .i64 0, .int .i64 0, .slice none 0 0] : Array Value) 40) = W0 := ⟨_, rfl⟩
 go_enter Tryz.func160, Tryz.ntmps160
 go_upto_region 1 with fail
 rw [HW] at b1 b2 b3 b4
 clear HW
 obtain ⟨p, hp⟩ : ∃ p, p = w.heap.size := ⟨_, rfl⟩
 obtain ⟨q, hq⟩ : ∃ q, q = w.heap.size + 1 := ⟨_, rfl⟩
 rw [← hq] at b2 ⊢
 rw [← hp] at b1 ⊢
 have hpg : p ≠ g := by have := HLT.out; omega
 have hqg : q ≠ g := by have := HLT.out; omega
 have HB := Lib.hid (And.intro b1 (And.intro b2 (And.intro b3 (And.intro hp (And.intro hq (And.intro hpg (And.intro hqg b4)))))))
 clear b1 b2 b3 b4 hp hq hpg hqg
 refine wp_region_held (S := fun V => V.cell? ⟨p, 0, none⟩ = some (.pointer (some ⟨g, 0, none⟩))) (by kernel_rfl) ?_
 change wpAnyH _ _ _ _ _ 14 _ _ (World.drew W0)
 have hd : Below W0.heap.size W0 W0.drew := (Below.refl _ _).drew
 have hS0 : OS W0 W0.drew g k xs c p st := ⟨HB.out.1.cell 0 rfl, H.out.2.1.below (HB.out.2.2.1.trans (hd.mono HB.out.2.2.1.size)), W.only_below hd⟩
 refine tk 0 (.agg #[.pointer (some ⟨g, 0, none⟩)]) 3 rfl rfl hS0.cur ?_ (by intro w' hS'; unfold execOp; simp [go_sem, hS'])
 refine tk 2 (.agg #[.pointer (some ⟨g, 0, none⟩)]) 5 rfl rfl hS0.cur ?_ (by intro w' hS'; unfold execOp; simp [go_sem, hS'])
 refine tk 4 (.pointer (some ⟨p, 0, none⟩)) 7 rfl rfl hS0.cur ?_
 refine tk 5 (.pointer (some ⟨g, 0, none⟩)) 8 rfl rfl hS0.cur ?_ (by intro w' hS'; unfold execOp; simp [go_sem, hS'])
 refine tk 7 (.pointer (some ⟨p, 0, none⟩)) 10 rfl rfl hS0.cur ?_
 refine tk 8 (.pointer (some ⟨g, 0, none⟩)) 11 rfl rfl hS0.cur ?_ (by intro w' hS'; unfold execOp; simp [go_sem, hS'])
 refine tk 10 (.agg #[.pointer (some ⟨g, 0, none⟩)]) 13 rfl rfl hS0.cur ?_ (by intro w' hS'; unfold execOp; simp [go_sem, hS'])
 clear hd
 generalize W0.drew = U0 at hS0 ⊢
 have hpl := HB.out.1.lt
 have hgl : g < W0.heap.size := by have := HLT.out; have := HB.out.2.2.1.size; omega
 refine held_one (i := 1) (by kernel_rfl) _ rfl (wpOp_callP rfl (by rfl) 4 rfl 158 #[.agg #[.pointer (some ⟨g, 0, none⟩)]] (by unfold execOp; simp [go_sem]) _ _ (entsG_forms (getterEntries_any U0 g k xs c st hS0.rd H.out.2.2)) ?_ ?_)
 rotate_left
 ·
  rintro ch U2 ⟨hn, hf, hres, s2, hr2⟩
  show bodyPost Tryz.prog Tryz.f160 _ (Exit.panic _) _ _
  exact ⟨rfl, (W.only_below HB.out.2.2.1).trans0 (hS0.on.trans0 hn), .inr ⟨hf, by rw [H.out.1]; exact diffD_no1 hres, s2, hr2⟩⟩
 rintro _ U1 ⟨hn, l1, s1, hown1, hea1, hr1, hres1⟩
 obtain ⟨a1, c1, rfl, hc1, _⟩ := own_form hown1
 have hS1 := hS0.step hpl HB.out.2.2.2.2.2.1 hn hr1
 have hE1 : OwnEs U1 W0.heap.size (.slice a1 l1.length c1) l1 := OwnEs.weak ⟨hown1, hea1⟩ hS0.on.size
 refine ⟨hS1.cur, ?_⟩
 simp only [Act.put, List.setIfInBounds_toArray, List.set_cons_zero, List.set_cons_succ]
 clear hn hr1 hS0 hown1 hea1
 refine held_one (i := 3) (by kernel_rfl) _ rfl (wpOp_callP rfl (by rfl) 6 rfl 158 #[.agg #[.pointer (some ⟨g, 0, none⟩)]] (by unfold execOp; simp [go_sem]) _ _ (entsG_forms (getterEntries_any U1 g k xs c s1 hS1.rd H.out.2.2)) ?_ ?_)
 rotate_left
 ·
  rintro ch U2 ⟨hn, hf, hres, s2, hr2⟩
  show bodyPost Tryz.prog Tryz.f160 _ (Exit.panic _) _ _
  exact ⟨rfl, (W.only_below HB.out.2.2.1).trans0 (hS1.on.trans0 hn), .inr ⟨hf, by rw [H.out.1]; exact diffD_no2 hres1 hres, s2, hr2⟩⟩
 rintro _ U2 ⟨hn, l2, s2, hown2, hea2, hr2, hres2⟩
 obtain ⟨a2, c2, rfl, hc2, _⟩ := own_form hown2
 have hS2 := hS1.step hpl HB.out.2.2.2.2.2.1 hn hr2
 have hE2 : OwnEs U2 W0.heap.size (.slice a2 l2.length c2) l2 := OwnEs.weak ⟨hown2, hea2⟩ hS1.on.size
 have hE1 := hE1.only hn hgl
 refine ⟨hS2.cur, ?_⟩
 simp only [Act.put, List.setIfInBounds_toArray, List.set_cons_zero, List.set_cons_succ]
 clear hn hr2 hS1 hown2 hea2
 obtain ⟨fe, hfe⟩ : ∃ x : Int, x = i64V xs s2 := ⟨_, rfl⟩
 obtain ⟨s3, hs3⟩ : ∃ s, s = W.numS xs s2 8 := ⟨_, rfl⟩
 refine held_one (i := 6) (by kernel_rfl) _ rfl (wpOp_callG rfl (by rfl) 9 rfl 221 #[.pointer (some ⟨g, 0, none⟩)] (by unfold execOp; simp [go_sem]) (fun v w' => v = .int .i64 fe ∧ W.RSt w' g k xs c s3 ∧ W.Only g U2 w' none) ((W.ask56_st U2 g k xs c s2 hS2.rd).mono fun e w' k => ⟨_, k.1, by rw [hfe]; rfl, by rw [hs3]; exact k.2.1, k.2.2⟩) ?_)
 rintro _ U3 ⟨rfl, hr3, hn⟩
 have hS3 := hS2.step hpl HB.out.2.2.2.2.2.1 hn hr3
 have hE1 := hE1.only hn hgl
 have hE2 := hE2.only hn hgl
 refine ⟨hS3.cur, ?_⟩
 simp only [Act.put, List.setIfInBounds_toArray, List.set_cons_zero, List.set_cons_succ]
 clear hn hr3 hS2
 obtain ⟨fo, hfo⟩ : ∃ x : Int, x = i64V xs s3 := ⟨_, rfl⟩
 obtain ⟨s4, hs4⟩ : ∃ s, s = W.numS xs s3 8 := ⟨_, rfl⟩
 refine held_one (i := 9) (by kernel_rfl) _ rfl (wpOp_callG rfl (by rfl) 12 rfl 221 #[.pointer (some ⟨g, 0, none⟩)] (by unfold execOp; simp [go_sem]) (fun v w' => v = .int .i64 fo ∧ W.RSt w' g k xs c s4 ∧ W.Only g U3 w' none) ((W.ask56_st U3 g k xs c s3 hS3.rd).mono fun e w' k => ⟨_, k.1, by rw [hfo]; rfl, by rw [hs4]; exact k.2.1, k.2.2⟩) ?_)
 rintro _ U4 ⟨rfl, hr4, hn⟩
 have hS4 := hS3.step hpl HB.out.2.2.2.2.2.1 hn hr4
 have hE1 := hE1.only hn hgl
 have hE2 := hE2.only hn hgl
 refine ⟨hS4.cur, ?_⟩
 simp only [Act.put, List.setIfInBounds_toArray, List.set_cons_zero, List.set_cons_succ]
 clear hn hr4 hS3
 have hs34 : W.numS xs (W.numS xs s2 8) 8 = s4 := by rw [hs4, hs3]
 refine held_one (i := 11) (by kernel_rfl) _ rfl (wpOp_callP rfl (by rfl) 14 rfl 152 #[.agg #[.pointer (some ⟨g, 0, none⟩)]] (by unfold execOp; simp [go_sem]) _ _ (rowG_forms (getterTotals_any U4 g k xs c s4 hS4.rd H.out.2.2)) ?_ ?_)
 rotate_left
 ·
  rintro ch U5 ⟨hn, hf, hres, s5, hr5⟩
  show bodyPost Tryz.prog Tryz.f160 _ (Exit.panic _) _ _
  exact ⟨rfl, (W.only_below HB.out.2.2.1).trans0 (hS4.on.trans0 hn), .inr ⟨hf, by rw [H.out.1]; exact diffD_no3 hres1 hres2 (by rw [hs34]; exact hres), s5, hr5⟩⟩
 rintro _ U5 ⟨hn, l3, s5, hown3, hr5, hres3⟩
 obtain ⟨hl3, hok3⟩ := rowTotals_ok rfl l3 s5 hres3
 obtain ⟨a3, c3, rfl, _, _⟩ := own_form hown3
 have hS5 := hS4.step hpl HB.out.2.2.2.2.2.1 hn hr5
 have hT3 : OwnTo U5 W0.heap.size (.slice a3 l3.length c3) l3 := ownsRow_weak hown3 hS4.on.size
 have hE1 := hE1.only hn hgl
 have hE2 := hE2.only hn hgl
 have hA2 := hS5.on.lies HB.out.2.1 HB.out.2.2.2.2.2.2.1
 refine ⟨hS5.cur, ?_⟩
 simp only [Act.put, List.setIfInBounds_toArray, List.set_cons_zero, List.set_cons_succ]
 have hyes : res = some (⟨l1.map enV, l2.map enV, fe, fo, l3⟩, s5) := by
  rw [H.out.1, hfe, hfo, hs3]
  exact diffD_yes hres1 hres2 (by rw [hs34]; exact hres3)
 have hI1 : I64 fe := by rw [hfe]; exact i64V_in _ _
 have hI2 : I64 fo := by rw [hfo]; exact i64V_in _ _
 clear hn hr5 hS4 hown3 hfe hs3 hfo hs4 hs34 hres1 hres2 hres3 hc1 hc2
 obtain ⟨n1, hn1⟩ : ∃ n, n = l1.length := ⟨_, rfl⟩
 obtain ⟨n2, hn2⟩ : ∃ n, n = l2.length := ⟨_, rfl⟩
 obtain ⟨n3, hn3⟩ : ∃ n, n = l3.length := ⟨_, rfl⟩
 rw [← hn1, ← hn2, ← hn3]
 refine tk 12 (.agg #[.slice a1 n1 c1, .slice a2 n2 c2, .int .i64 fe, .int .i64 fo, .slice a3 n3 c3]) 15 rfl rfl hS5.cur ?_
 refine held_one (i := 13) (by kernel_rfl) _ rfl (wpOp_storeRow rfl rfl rfl 40 (.tmp 2) (.tmp 15) rfl q #[.slice a1 n1 c1, .slice a2 n2 c2, .int .i64 fe, .int .i64 fo, .slice a3 n3 c3] rfl rfl 40 _ hA2 (by kernel_rfl) rfl (by simp [Value.oneCell']) ?_)
 obtain ⟨cs, hcs⟩ : ∃ x : Array Value, x = #[.slice a1 n1 c1, .slice a2 n2 c2, .int .i64 fe, .int .i64 fo, .slice a3 n3 c3] := ⟨_, rfl⟩
 have hI : (Tryz.prog.info? 40).map (·.size) = some cs.size := by rw [hcs]; kernel_rfl
 rw [← hcs]
 refine ⟨by rw [show (U5.setRow q cs).cell? ⟨p, 0, none⟩ = U5.cell? ⟨p, 0, none⟩ by simp only [World.cell?]; rw [setRow_other _ _ _ _ (by have := HB.out.2.2.2.1; have := HB.out.2.2.2.2.1; omega)]]; exact hS5.cur, ?_⟩
 refine held_done (by kernel_rfl) ?_
 have hqk : q ≠ k := by have := HB.out.2.2.2.2.1; have := HLT.out; omega
 have hqW : q < W0.heap.size := HB.out.2.1.lt
 have hsz := HB.out.2.2.1.size
 have HI := Lib.hid hI
 have HF := Lib.hid (And.intro (hA2.setRow cs) (show DiG g k xs c w res (.returned (.agg cs)) (U5.setRow q cs) from ⟨W.only_row ((W.only_below HB.out.2.2.1).trans0 hS5.on) (k := q) (by rw [HB.out.2.2.2.2.1]; exact Nat.le_succ _) cs, .inl ⟨⟨a1, l1, c1, a2, l2, c2, fe, fo, a3, l3, c3⟩, s5, by rw [hcs, hn1, hn2, hn3]; rfl, ⟨(hE1.row hqW cs).weak hsz, (hE2.row hqW cs).weak hsz, ownsRow_weak (own_row hT3 hqW cs) hsz, hI1, hI2, hok3, hl3⟩, rst_row hS5.rd cs HB.out.2.2.2.2.2.2.1 hqk, hyes⟩⟩))
 clear hS5 hA2 hE1 hE2 hT3 hyes hI1 hI2 hl3 hok3 hn1 hn2 hn3 hI hqk hqW hsz hcs hpl hgl
 go_wp2_with fail
 exact bodyPost_ret (v := .agg cs) (results_cell_row (p := 2) (ty := 40) (by kernel_rfl) _ _ q 40 cs (0, 0) _ rfl HF.out.1 Tryz.underlying40 rfl HI.out) rfl HF.out.2
end Go.Proofs.YtilbbemdinpjcaaGreat.P
namespace Go.Proofs.YtilbbemdinpjcaaGreat.P
set_option maxRecDepth 100000
open Go.RowKit Go.Sort
def enOf (y : Rf × OutV) : En := ⟨y.1, ⟨y.2.prog, y.2.ah, ⟨y.2.coin, none, y.2.l, 0⟩, y.2.kind, y.2.dh, none, y.2.ns, 0⟩⟩
def rightEV (l : List (Rf × OutV)) : Bool := rightEB (l.map enOf)
theorem entB_map (f : En → En) (hr : ∀ e, (f e).r = e.r) (ho : ∀ e, rightOB (f e).o = rightOB e.o) (es : List En) (i : Nat) : entB (es.map f) i = entB es i := by
  unfold entB
  rw [List.getElem?_map]
  cases es[i]? with
  | none => rfl
  | some e =>
    simp only [Option.map_some, hr, ho]
    cases i with
    | zero => rfl
    | succ j =>
      simp only [List.getElem?_map]
      cases es[j]? with
      | none => rfl
      | some d => simp only [Option.map_some, hr]
theorem rightEB_map (f : En → En) (hr : ∀ e, (f e).r = e.r) (ho : ∀ e, rightOB (f e).o = rightOB e.o) (es : List En) : rightEB (es.map f) = rightEB es := by
 unfold rightEB
 rw [List.length_map, show entB (es.map f) = entB es from funext fun i => entB_map f hr ho es i]
theorem rightEV_eq (l : List En) : rightEV (l.map enV) = rightEB l := by
 unfold rightEV
 rw [List.map_map]
 exact rightEB_map (enOf ∘ enV) (fun _ => rfl) (fun _ => rfl) l
def getEsOf : Option (List (Rf × OutV) × Option Nat) → Option (List (Rf × OutV) × Nat)
 | some (l, some p) => if rightEV l = true then some (l, p) else none
 | _ => none
def getEs (xs : List UInt8) (st : Option Nat) : Option (List (Rf × OutV) × Nat) := getEsOf (entriesD xs st)
def GetEs (g k : Nat) (xs : List UInt8) (c : Nat) (w : World) (o : Option (List (Rf × OutV) × Nat)) (e : Ending) (w' : World) : Prop :=
 W.Only g w w' none ∧ ((∃ l p v, o = some (l.map enV, p) ∧ e = .returned v ∧ OwnEs w' w.heap.size v l ∧ rightEB l = true ∧ W.RSt w' g k xs c (some p)) ∨ (o = none ∧ e = .returned (.slice none 0 0) ∧ W.RSt w' g k xs c none))
theorem getEntriesD_panicking (p g k : Nat) (xs : List UInt8) (c : Nat) (st : Option Nat) (u : TypeId) (pv : Value) (older : List PanicEntry) (w : World) (hp : w.cell? ⟨p, 0, none⟩ = some (.pointer (some ⟨g, 0, none⟩))) (h : W.RSt w g k xs c st) :
  CallsD Tryz.prog 230 #[.pointer (some ⟨p, 0, none⟩)] (.panicking ({ v := .iface u pv, recovered := false } :: older)) w fun e u' w' =>
   e = .returned (.tuple #[]) ∧ u' = .panicking ({ v := .iface u pv, recovered := true } :: older) ∧ W.RSt w' g k xs c none ∧ W.Only g w w' none := by
 have hs := rSpoil_any w g k xs c st h
 refine callsD_of_wpS Tryz.func230 rfl fun c₀ cs hu => ?_
 apply wpS_seq
 apply wpS_region
 simp [wpOpsS, go_sem, recoverD, hu, Tryz.ntmps230, Exit.thenS]
 refine wpS_cond (t := true) (by simp [Act.eval, Array.replicate]) ?_
 simp only [if_true]
 refine wpS_of_wp ?_
 go_wp2_with fail
 refine hs.mono ?_
 rintro e w2 ⟨rfl, hr, ho⟩
 go_wp2_with fail
 simp [bodyPostS, results, Tryz.results230]
 exact ⟨hr, ho⟩
theorem getEntriesD_idle (p : Addr) (w : World) :
  CallsD Tryz.prog 230 #[.pointer (some p)] .returning w fun e u' w' => e = .returned (.tuple #[]) ∧ u' = .returning ∧ w' = w := by
 refine callsD_of_wpS Tryz.func230 rfl fun c₀ cs hu => ?_
 apply wpS_seq
 apply wpS_region
 simp [wpOpsS, go_sem, recoverD, hu, Tryz.ntmps230, Exit.thenS]
 refine wpS_cond (t := false) (by simp [Act.eval, Array.replicate]) ?_
 simp only [Bool.false_eq_true, if_false]
 refine wpS_of_wp (wp_skip ?_)
 cases c₀
 simp_all [bodyPostS, results, Tryz.results230]
theorem getEntriesG_any (w : World) (g k : Nat) (xs : List UInt8) (c : Nat) (st0 : Option Nat) (h : W.RSt w g k xs c st0) (hx : xs.length < 1000000) :
    Calls Tryz.prog 157 #[.pointer (some ⟨g, 0, none⟩), .func (Fn.func 158) #[] #[], .func (Fn.func 15) #[] #[]] w (GetEs g k xs c w (getEs xs st0)) := by
  have hmf : ∀ (fn : Fn) (first cap : Array Value) (w : World), (Instr.makeFunc fn first cap).run Tryz.prog w = .ok (.func fn first cap) w := fun _ _ _ _ => rfl
  have hf1 := T.callK 15 Tryz.f15 Tryz.func15 (by kernel_rfl) (by kernel_rfl)
  have hf2 := T.callK 158 Tryz.f158 Tryz.func158 (by kernel_rfl) (by kernel_rfl)
  obtain ⟨b1, b2, b3, b4⟩ := box_two w #[.pointer (some ⟨g, 0, none⟩)] #[.pointer (some ⟨g, 0, none⟩)] 56 174
  obtain ⟨dr, hdr⟩ : ∃ r, r = entriesD xs st0 := ⟨_, rfl⟩
  have HLT := Lib.hid h.lt
  have hC := getterEntries_any _ g k xs c st0 (h.below b3) hx
  rw [← hdr] at hC
  rw [show getEs xs st0 = getEsOf dr by rw [hdr]; rfl]
  have HC := Lib.hid hC
  clear h hdr hC hx
  obtain ⟨W0, HW⟩ : ∃ W0, ((w.alloc (.cells #[.pointer (some ⟨g, 0, none⟩)] 56)).alloc (.cells #[.pointer (some ⟨g, 0, none⟩)] 174)) = W0 := ⟨_, rfl⟩
  rw [HW] at b1 b2 b3 b4 HC
  go_enter_defers Tryz.func157, Tryz.ntmps157
  have c2 : W0.cell? ⟨w.heap.size + 1, 0, none⟩ = some (.pointer (some ⟨g, 0, none⟩)) := b2.cell 0 rfl
  have HB := Lib.hid (And.intro b1 (And.intro b2 (And.intro b3 b4)))
  clear b1 b2 b3 b4
  go_wp2_with fail
  clear HW
  refine HC.out.mono ?_
  rintro e W1 ⟨ho1, hcase⟩
  have hl1 := ho1.lies HB.out.1 (by have := HLT.out; omega)
  have hl2 := ho1.lies HB.out.2.1 (by have := HLT.out; omega)
  have hw1 : W.Only g w W1 none := (W.only_below HB.out.2.2.1).trans0 ho1
  have HO := Lib.hid (And.intro hl1 (And.intro hl2 hw1))
  clear hl1 hl2 hw1 ho1 c2 HC
  rcases hcase with ⟨l, v, st, rfl, hown0, hea, hrd, hdec⟩ | ⟨⟨m, rfl⟩, hdec, st, hrd⟩
  · have hown : OwnEs W1 _ v l := ⟨hown0, hea⟩
    obtain ⟨pa, cp, rfl, _, hrow⟩ := hown.rowE
    clear hown0 hea
    have c2 := HO.out.2.1.cell 0 (v := .pointer (some ⟨g, 0, none⟩)) rfl
    obtain ⟨y1, hy1⟩ : ∃ b, b = st.isSome := ⟨_, rfl⟩
    obtain ⟨y2, hy2⟩ : ∃ b, b = rightEB l := ⟨_, rfl⟩
    obtain ⟨n, hn⟩ : ∃ n, n = l.length := ⟨_, rfl⟩
    have HS := Lib.hid (show Calls Tryz.prog 198 #[.agg #[.pointer (some ⟨g, 0, none⟩)]] W1 fun e w' => e = .returned (.bool y1) ∧ Below W1.heap.size W1 w' by rw [hy1]; exact sound_any W1 g k xs c st hrd)
    have HM : Hid (∀ V, Below W1.heap.size W1 V → Calls Tryz.prog 15 #[.slice pa n cp] V fun e w' => e = .returned (.bool y2) ∧ Below V.heap.size V w') := Lib.hid fun V hV => by rw [hy2, hn]; exact rightEntries_any V pa l cp (hrow.below hV (Nat.le_refl _))
    have HR := Lib.hid (And.intro hown (And.intro hrd (And.intro hdec (And.intro hy1 (And.intro hy2 hn)))))
    rw [← hn]
    clear hown hrd hdec hy1 hy2 hn hrow
    go_wp2_with fail
    refine HS.out.mono ?_
    rintro e W2 ⟨rfl, hb2⟩
    have H2 := Lib.hid hb2
    clear hb2 HS c2
    go_wp2_with fail
    refine (HM.out _ H2.out).mono ?_
    rintro e W3 ⟨rfl, hb3⟩
    have H3 := Lib.hid (H2.out.trans (hb3.mono H2.out.size))
    clear hb3 HM
    go_wp2_with fail
    refine (must2 _ _ _).mono ?_
    rintro e W4 ⟨hm, hb4⟩
    have hb := H3.out.trans (hb4.mono H3.out.size)
    have h1 := (HO.out.1).below hb HO.out.1.lt
    have h2 := HR.out.2.1.below hb
    have h3 := HO.out.2.2.trans0 (W.only_below hb)
    have h4 := (HR.out.1.below hb).weak HB.out.2.2.1.size
    have H4 := Lib.hid (And.intro h1 (And.intro h2 (And.intro h3 h4)))
    clear hb4 hb h1 h2 h3 h4
    rcases hm with ⟨hyy, rfl⟩ | ⟨hyy, m, rfl⟩
    · have HY := Lib.hid hyy
      clear hyy
      go_wp2_with fail
      refine leaves_cons (f := 230) (args := #[.pointer (some ⟨w.heap.size, 0, none⟩)]) (by simp) (by simp [go_sem]) ?_
      refine (getEntriesD_idle ⟨w.heap.size, 0, none⟩ _).mono ?_
      rintro e u' w'' ⟨rfl, rfl, hw⟩
      subst hw
      simp [Leaves, settle, results, Tryz.results157, go_sem]
      have hyy := HY.out
      rw [Bool.and_eq_true] at hyy
      have e1 : st.isSome = true := by rw [← HR.out.2.2.2.1]; exact hyy.1
      have e2 : rightEB l = true := by rw [← HR.out.2.2.2.2.1]; exact hyy.2
      have hd := HR.out.2.2.1
      have hr := H4.out.2.1
      have ho := H4.out.2.2.2
      rw [← HR.out.2.2.2.2.2] at ho
      cases st with
      | none => cases e1
      | some p =>
        refine ⟨H4.out.2.2.1, .inl ⟨l, p, _, ?_, rfl, ho, e2, hr⟩⟩
        rw [hd]
        show (if rightEV (l.map enV) = true then some (l.map enV, p) else none) = some (l.map enV, p)
        rw [rightEV_eq, if_pos e2]
    · have HY := Lib.hid hyy
      clear hyy
      go_wp2_with fail
      refine leaves_cons (f := 230) (args := #[.pointer (some ⟨w.heap.size, 0, none⟩)]) (by simp) (by simp [go_sem]) ?_
      refine (getEntriesD_panicking w.heap.size g k xs c st 64 _ [] _ (H4.out.1.cell 0 rfl) H4.out.2.1).mono ?_
      rintro e u' w'' ⟨rfl, rfl, hr, ho⟩
      simp [Leaves, settle, results, Tryz.results157, go_sem]
      refine ⟨H4.out.2.2.1.trans0 ho, .inr ⟨?_, rfl, hr⟩⟩
      rw [HR.out.2.2.1]
      cases st with
      | none => rfl
      | some p =>
        show (if rightEV (l.map enV) = true then some (l.map enV, p) else none) = none
        rw [rightEV_eq, if_neg]
        intro e
        have hyy := HY.out
        rw [HR.out.2.2.2.1, HR.out.2.2.2.2.1, e] at hyy
        cases hyy
  · have H1 := Lib.hid (And.intro hrd hdec)
    clear hrd hdec
    go_wp2_with fail
    refine leaves_cons (f := 230) (args := #[.pointer (some ⟨w.heap.size, 0, none⟩)]) (by simp) (by simp [go_sem]) ?_
    refine (getEntriesD_panicking w.heap.size g k xs c st 64 _ [] _ (HO.out.1.cell 0 rfl) H1.out.1).mono ?_
    rintro e u' w'' ⟨rfl, rfl, hr, ho⟩
    simp [Leaves, settle, results, Tryz.results157, go_sem]
    refine ⟨HO.out.2.2.trans0 ho, .inr ⟨?_, rfl, hr⟩⟩
    rw [H1.out.2]
    rfl
theorem getEntries_any (w : World) (g k : Nat) (xs : List UInt8) (c : Nat) (st0 : Option Nat) (h : W.RSt w g k xs c st0) (hx : xs.length < 1000000) :
  Calls Tryz.prog 92 #[.pointer (some ⟨g, 0, none⟩)] w (GetEs g k xs c w (getEs xs st0)) := by
 have HC := Lib.hid (getEntriesG_any w g k xs c st0 h hx)
 clear h hx
 obtain ⟨o, ho⟩ : ∃ o, o = getEs xs st0 := ⟨_, rfl⟩
 rw [← ho] at HC ⊢
 clear ho
 go_enter Tryz.func92, Tryz.ntmps92
 go_wp2_with fail
 refine HC.out.mono ?_
 rintro e W1 ⟨ho, hcase⟩
 have HO := Lib.hid ho
 clear ho HC
 rcases hcase with ⟨l, p, v, h1, rfl, h2, h2b, h3⟩ | ⟨h1, rfl, h3⟩
 ·
  have H := Lib.hid (And.intro h1 (And.intro h2 (And.intro h2b h3)))
  clear h1 h2 h2b h3
  go_wp2_with fail
  go_ret
  exact ⟨HO.out, .inl ⟨l, p, v, H.out.1, rfl, H.out.2.1, H.out.2.2.1, H.out.2.2.2⟩⟩
 ·
  have H := Lib.hid (And.intro h1 h3)
  clear h1 h3
  go_wp2_with fail
  go_ret
  exact ⟨HO.out, .inr ⟨H.out.1, rfl, H.out.2⟩⟩
end Go.Proofs.YtilbbemdinpjcaaGreat.P
