/-
  The signature of a seed for a message (14).
-/
import Derived.Test.YtgempifedhiknaaGreatDoorWown
namespace Go.Proofs.YtgempifedhiknaaGreatDoor
set_option maxRecDepth 100000
open Go.RowKit Go.Shelf Sha

attribute [local go_sem] Oper.semAt_some

/-- The hash of chain i in a signature. -/
def sigH (xs m : List UInt8) (i : Nat) : List UInt8 := onN i 0 (digit m i) (firstH xs i)
theorem sigH_length (xs m : List UInt8) (i : Nat) : (sigH xs m i).length = 32 := onN_length _ _ _ (firstH_length _ _) _
def signL (xs m : List UInt8) : List UInt8 := (List.range 35).flatMap (sigH xs m)
def sigOf (xs m : List UInt8) (pre : List (Fin 35)) : List UInt8 := pre.flatMap fun x => sigH xs m x.val
theorem sigOf_snoc (xs m : List UInt8) (pre : List (Fin 35)) (x : Fin 35) : sigOf xs m (pre ++ [x]) = sigOf xs m pre ++ sigH xs m x.val := by simp [sigOf]
theorem sigOf_all (xs m : List UInt8) (ys : List (Fin 35)) (h : ys.map Fin.val = List.range 35) : sigOf xs m ys = signL xs m := by
  unfold signL sigOf
  rw [← h, List.flatMap_map]
structure ISign (w : World) (n₀ br bd bs : Nat) (D xs m : List UInt8) (pre : List (Fin 35)) (v : Value) (W : World) : Prop where
  s : Lies W bs #[v] 28
  row : RowH n₀ pre.length (sigOf xs m pre) v W
  d : Lies W bd (B8 D) 40
  r : Lies W br #[.slice none 0 0] 28
  below : Below w.heap.size w W
  sz : n₀ ≤ W.heap.size
theorem isign_own (w : World) (n₀ br bd bs : Nat) (D xs m : List UInt8) (k : Nat) (hk : w.heap.size ≤ k) : OwnFrom k (fun pre W => ∃ v, ISign w n₀ br bd bs D xs m pre v W) := by
  rintro pre A B row ⟨v, h⟩ hg hr
  exact ⟨v, lies_own h.s hg (fun r e => (hr r e).2), rowH_own h.row hg (fun r e => (hr r e).2), lies_own h.d hg (fun r e => (hr r e).2), lies_own h.r hg (fun r e => (hr r e).2), h.below.grown hg h.below.size (fun x e => by have := (hr x e).1; omega), Nat.le_trans h.sz hg.size⟩
theorem wp_store22s {o : Oper} {a : Act} {w : World} {K : Act → World → Prop} {Q : Exit → Act → World → Prop} (x y : Operand) (ho : o.op = .store 26 x y) (ad : Addr) (hx : a.eval x = .pointer (some ad)) (g : Addr) (n c : Nat) (hy : a.eval y = .slice (some g) n c)
    (old : Value) (c4 : w.cell? ad = some old) (f4 : w.frozen? ad = false) (h : K (a.put o.dst undef) (w.setCell ad (.slice (some g) n c))) : o.wp Tryz.prog a w K Q := wp_store22 x y ho ad hx g n c hy old c4 f4 h
/-- What a round leaves. -/
theorem sign_fin {w W W2 W4 : World} {n₀ br bd bs Bx : Nat} {D xs m e0 : List UInt8} {pre : List (Fin 35)} {x : Fin 35} {v v' : Value} {ck : Array Value} (hI : ISign w n₀ br bd bs D xs m pre v W) (_hn : w.heap.size ≤ n₀) (hbs : w.heap.size ≤ bs ∧ bs < n₀) (hbd : bd < n₀ ∧ bd ≠ bs) (hbr : br < n₀ ∧ br ≠ bs) (hBx : n₀ ≤ Bx) (hlx : Lies W Bx ck 48)
    (hg2 : W.grownBy W2 (some Bx)) (hrow2 : RowH n₀ pre.length (sigOf xs m pre) v W2) (he0 : e0 = sigH xs m x.val) (hrow4 : RowH n₀ (pre.length + 1) (sigOf xs m pre ++ e0) v' W4) (hg4 : (W2.alloc (.cells (B8 e0) 24)).grownBy W4 v.ownBlock) (k : Nat) :
    KeepsFrom k W (W4.setCell ⟨bs, 0, none⟩ v') ∧ KB n₀ bs W (W4.setCell ⟨bs, 0, none⟩ v') ∧ ISign w n₀ br bd bs D xs m (pre ++ [x]) v' (W4.setCell ⟨bs, 0, none⟩ v') := by
  have hown : ∀ y, v.ownBlock = some y → n₀ ≤ y := fun y hy => (hI.row.block y hy).1
  have keep : ∀ {gq : Nat} {cs : Array Value} {t : TypeId}, Lies W gq cs t → gq < n₀ → Lies W4 gq cs t := fun hl hq => by
    have l2 := hl.grown hg2 (by omega)
    exact (hg4.block _ (l2.alloc (.cells (B8 e0) 24)).lt (fun e => by have := hown _ e.symm; omega)).trans (l2.alloc (.cells (B8 e0) 24))
  have hs4 := keep hI.s hbs.2
  have hd4 := keep hI.d hbd.1
  have hr4 := keep hI.r hbr.1
  have hset := hs4.set 0 v'
  have hgs : W4.grownBy (W4.setCell ⟨bs, 0, none⟩ v') (some bs) := grown_set (grown_refl W4 _) 0 v'
  have hb2 : Below w.heap.size w W2 := hI.below.grown hg2 hI.below.size (fun y e => by have := Option.some.inj e; omega)
  have hba : Below w.heap.size w (W2.alloc (.cells (B8 e0) 24)) := hb2.alloc hb2.size _
  have hb4 : Below w.heap.size w W4 := hba.grown hg4 hba.size (fun y e => by have := hown y e; omega)
  have hb5 : Below w.heap.size w (W4.setCell ⟨bs, 0, none⟩ v') := hb4.grown hgs hb4.size (fun y e => by have := Option.some.inj e; omega)
  have hszW : W.heap.size ≤ (W4.setCell ⟨bs, 0, none⟩ v').heap.size := Nat.le_trans hg2.size (Nat.le_trans (by simp) (Nat.le_trans hg4.size hgs.size))
  refine ⟨?_, ?_, hset, ?_, hd4.grown hgs (by omega), hr4.grown hgs (by omega), hb5, Nat.le_trans hI.sz hszW⟩
  · refine KeepsOthers.from ?_ _
    refine (KeepsOthers.of_grownBy hg2 ?_).trans ((KeepsOthers.alloc _ _).trans ((KeepsOthers.of_grownBy hg4 ?_).trans (KeepsOthers.setCell _ _ _)))
    · intro j o hj ho
      obtain rfl : Bx = j := Option.some.inj hj
      have : o = .cells ck 48 (0, 0) := Option.some.inj (ho.symm.trans hlx)
      rw [this]; rfl
    · intro j o hj ho
      obtain ⟨_, h2, cs, hcs⟩ := hrow2.block j hj
      have : o = .cells cs 24 (0, 0) := Option.some.inj (ho.symm.trans ((Below.heap_alloc W2 _ j h2).trans hcs))
      rw [this]; rfl
  · refine ⟨Nat.le_trans hg2.size (Nat.le_trans (by simp) (Nat.le_trans hg4.size hgs.size)), fun j hj hne => ?_⟩
    have hjW : j < W.heap.size := by have := hlx.lt; omega
    rw [hgs.block j (by have := hg2.size; have := hg4.size; simp at this; omega) (fun e => hne (Option.some.inj e)), hg4.block j (by have := hg2.size; simp; omega) (fun e => by have := hown j e.symm; omega), Below.heap_alloc W2 _ j (by have := hg2.size; omega), hg2.block j hjW (fun e => by have := Option.some.inj e; omega)]
  · rw [sigOf_snoc, ← he0, List.length_append]
    exact hrow4.kept hgs (fun y hy e => by have := (hrow4.block y hy).1; have := Option.some.inj e; omega)
def zero35 : Array Value := #[Value.int .u8 0, .int .u8 0, .int .u8 0, .int .u8 0, .int .u8 0, .int .u8 0, .int .u8 0, .int .u8 0, .int .u8 0, .int .u8 0, .int .u8 0, .int .u8 0, .int .u8 0, .int .u8 0, .int .u8 0, .int .u8 0, .int .u8 0, .int .u8 0, .int .u8 0, .int .u8 0, .int .u8 0, .int .u8 0, .int .u8 0, .int .u8 0, .int .u8 0, .int .u8 0, .int .u8 0, .int .u8 0, .int .u8 0, .int .u8 0, .int .u8 0, .int .u8 0, .int .u8 0, .int .u8 0, .int .u8 0]
theorem store_digits (W : World) (dv : Array Value) (h : dv.size = 35) (h1 : dv.all (·.oneCell') = true) : (storeCells ⟨W.heap.size, 0, none⟩ dv.toList 0).run Tryz.prog (W.alloc (.cells zero35 40)) = .ok () (W.alloc (.cells dv 40)) :=
  run_storeCells_new W 40 zero35 dv (by rw [h]; kernel_rfl) (by rw [h]; rfl) h1
attribute [-go_sem] Instr.build storeCells loadCellsFrom
set_option maxRecDepth 100000 in
set_option maxHeartbeats 2000000 in
theorem sign_any (w : World) (pa : Option Addr) (xs : List UInt8) (pc : Nat) (m : List UInt8) (hm : m.length = 32) (hx : xs.length ≤ 900000) (hg : Good w ⟨pa, xs, pc⟩) (hs : Starts w) (hc : Cubes w) :
    Calls Tryz.prog 5 #[.slice pa xs.length pc, .agg (B8 m)] w fun e w' => ∃ v, e = .returned (.agg #[v]) ∧ RowH (w.heap.size + 1) 35 (signL xs m) v w' ∧ Below w.heap.size w w' := by
  obtain ⟨mv, hmv⟩ : ∃ mv, mv = B8 m := ⟨_, rfl⟩
  have hm32 : mv.size = 32 := by rw [hmv, B8_size, hm]
  rw [← hmv]
  obtain ⟨D, hD⟩ : ∃ D, D = digRow m 35 := ⟨_, rfl⟩
  have HV := Lib.hid (And.intro hmv (And.intro hm32 hD))
  have HF := Lib.hid (And.intro hm (And.intro hx hg))
  have HSC := Lib.hid (And.intro hs hc)
  clear hmv hm32 hD hm hx hg hs hc
  refine (callsIn_wide (n := 6)).1 ?_
  refine callsIn_of_wp_marks Tryz.func5 rfl trivial ?_ rfl
  simp only [Tryz.ntmps5, List.size_toArray, List.length_cons, List.length_nil, Nat.reduceAdd, Nat.reduceSub, Array.replicate_succ, Array.replicate_zero, List.push_toArray, List.append_toArray, List.nil_append, List.cons_append]
  have hld : ∀ V : World, Lies V w.heap.size mv 24 → (loadCellsFrom ⟨w.heap.size, 0, none⟩ 0 32 #[]).run Tryz.prog V = .ok mv V := fun V h => load_whole h 32 HV.out.2.1
  have ld := hld ((w.alloc (.cells mv 24)).alloc (.cells #[.slice none 0 0] 28)) ((Lies.new w mv 24).alloc _)
  gi_wp2
  have hA : Lies ((w.alloc (.cells mv 24)).alloc (.cells #[.slice none 0 0] 28)) (w.heap.size + 1) #[.slice none 0 0] 28 := by
    have := Lies.new (w.alloc (.cells mv 24)) #[.slice none 0 0] 28
    simpa using this
  have hb0 : Below w.heap.size w ((w.alloc (.cells mv 24)).alloc (.cells #[.slice none 0 0] 28)) := ((Below.refl _ _).alloc (Nat.le_refl _) _).alloc (by simp) _
  have hsz0 : ((w.alloc (.cells mv 24)).alloc (.cells #[.slice none 0 0] 28)).heap.size = w.heap.size + 1 + 1 := by simp
  generalize (w.alloc (.cells mv 24)).alloc (.cells #[.slice none 0 0] 28) = W0 at hA hb0 hsz0 ⊢
  clear ld hld
  obtain ⟨dv, hdv⟩ : ∃ dv, dv = B8 D := ⟨_, rfl⟩
  have hd35 : dv.size = 35 := by rw [hdv, B8_size, HV.out.2.2]; exact digRow_length m 35
  have hdig : Calls Tryz.prog 15 #[.agg mv] W0 fun e w' => e = .returned (.agg dv) ∧ Below W0.heap.size W0 w' := by
    rw [HV.out.1, hdv, HV.out.2.2]
    exact digits_any m HF.out.1 W0
  have HDV := Lib.hid hdv
  refine ⟨trivial, (callsIn_wide.2 hdig).mono ?_⟩
  rintro e w2 ⟨rfl, hb2⟩
  have st := store_digits w2 dv hd35 (by rw [hdv]; exact B8_one D)
  simp only [zero35] at st
  have hbA := hb0.trans (hb2.mono hb0.size)
  have H0 := Lib.hid (And.intro (hA.below hb2 hA.lt) (And.intro hbA (And.intro hsz0 hb2.size)))
  clear hdig hdv hA hb0 hbA hb2 hsz0
  gi_wp2
  refine ⟨trivial, (callsIn_wide.2 (seeded_any _ pa xs.length pc)).mono ?_⟩
  rintro e w3 ⟨rfl, rfl⟩
  clear st
  gi_wp2
  obtain ⟨bd, hbd⟩ : ∃ bd, bd = w2.heap.size := ⟨_, rfl⟩
  obtain ⟨bs, hbs⟩ : ∃ bs, bs = w2.heap.size + 1 := ⟨_, rfl⟩
  obtain ⟨bn, hbn⟩ : ∃ bn, bn = w2.heap.size + 1 + 1 := ⟨_, rfl⟩
  have hB1 : Below w2.heap.size w2 (((w2.alloc (.cells dv 40)).alloc (.cells #[.slice none 0 0] 28)).alloc (.cells #[.slice pa xs.length pc] 22)) := (((Below.refl _ _).alloc (Nat.le_refl _) _).alloc (by simp) _).alloc (by simp; omega) _
  have hl1 : Lies (((w2.alloc (.cells dv 40)).alloc (.cells #[.slice none 0 0] 28)).alloc (.cells #[.slice pa xs.length pc] 22)) bd dv 40 := by rw [hbd]; exact ((Lies.new w2 dv 40).alloc _).alloc _
  have hl2 : Lies (((w2.alloc (.cells dv 40)).alloc (.cells #[.slice none 0 0] 28)).alloc (.cells #[.slice pa xs.length pc] 22)) bs #[.slice none 0 0] 28 := by
    rw [hbs]
    have := (Lies.new (w2.alloc (.cells dv 40)) #[.slice none 0 0] 28).alloc (.cells #[.slice pa xs.length pc] 22)
    simpa using this
  have hl3 : Lies (((w2.alloc (.cells dv 40)).alloc (.cells #[.slice none 0 0] 28)).alloc (.cells #[.slice pa xs.length pc] 22)) bn #[.slice pa xs.length pc] 22 := by
    rw [hbn]
    have := Lies.new ((w2.alloc (.cells dv 40)).alloc (.cells #[.slice none 0 0] 28)) #[.slice pa xs.length pc] 22
    simpa using this
  have hsz1 : (((w2.alloc (.cells dv 40)).alloc (.cells #[.slice none 0 0] 28)).alloc (.cells #[.slice pa xs.length pc] 22)).heap.size = w2.heap.size + 1 + 1 + 1 := by simp
  have hr1 := H0.out.1.below hB1 H0.out.1.lt
  have hbw1 := H0.out.2.1.trans (hB1.mono H0.out.2.1.size)
  rw [← hbn, ← hbs, ← hbd]
  generalize ((w2.alloc (.cells dv 40)).alloc (.cells #[.slice none 0 0] 28)).alloc (.cells #[.slice pa xs.length pc] 22) = W1 at hB1 hl1 hl2 hl3 hsz1 hr1 hbw1 ⊢
  have h1n := Lies.lt HSC.out.2
  have hw2 := H0.out.2.1.size
  have hw0 := H0.out.2.2.1
  have hw20 := H0.out.2.2.2
  have hst : Stops 5 30 #[.pointer (some ⟨bn, 0, none⟩)] (firstH xs) (fun _ => 0) W1.heap.size bs W1 :=
    seeded_stops 5 bn W1.heap.size bs pa xs pc HF.out.2.1 W1 (hl3.cell 0 rfl) (by omega) (by omega) (Nat.le_refl _) (good_kb HF.out.2.2 hbw1 _ _ (by omega) (by omega)) (by omega) (by omega) (HSC.out.1.below hbw1 (by omega)) (HSC.out.2.below hbw1 h1n)
  rw [HDV.out] at hl1
  have hI0 : ISign w W1.heap.size (w.heap.size + 1) bd bs D xs m [] (.slice none 0 0) W1 := ⟨hl2, RowH.nil _ _, hl1, hr1, hbw1, Nat.le_refl _⟩
  have q1 : w.heap.size + 1 < bd := by omega
  have q2 : bd < bs := by omega
  have q3 : bs < bn := by omega
  have q4 : bn < W1.heap.size := by omega
  clear hB1 hl1 hl2 hl3 hr1 hbd hbs hbn hsz1 hw0 hw20 hw2
  refine wpIn_rangeFunc_ownH rfl (by omega) (gf := 30) (lb := #[.pointer (some ⟨bn, 0, none⟩)]) rfl trivial enters38 hst KB.trans (KB.put (Nat.le_refl _)) (Below.refl _ _) (fun _ => rfl)
    (fun pre W => ∃ v, ISign w W1.heap.size (w.heap.size + 1) bd bs D xs m pre v W) (fun _ _ _ => False) (isign_own w _ _ _ _ D xs m _ (by omega)) (fun _ _ _ _ _ hs _ _ => hs) ⟨_, hI0⟩
    (fun x a' W => ∃ Bx, W1.heap.size ≤ Bx ∧ Lies W Bx (CH (firstH xs x.val) 0 x.val) 48 ∧ a' = { tmps := #[.slice pa xs.length pc, .agg mv, undef, .pointer (some ⟨w.heap.size, 0, none⟩), .pointer (some ⟨w.heap.size + 1, 0, none⟩), .pointer (some ⟨bd, 0, none⟩), .pointer (some ⟨bs, 0, none⟩), .pointer (some ⟨Bx, 0, none⟩), .agg mv, .agg dv, .slice pa xs.length pc, .func (.func 30) #[] #[.pointer (some ⟨bn, 0, none⟩)], .agg (CH (firstH xs x.val) 0 x.val), undef, undef, undef, undef, undef, undef, undef, undef, undef, undef, undef], defers := [] })
    (fun x a' _ X Y row hs hg hr => by obtain ⟨Bx, h1, h2, h3⟩ := hs; exact ⟨Bx, h1, lies_own h2 hg (fun r e => (hr r e).2), h3⟩)
    ?assign ?body ?done ?stop
  case assign =>
    rintro l pre x W K ⟨v, hI⟩ hK
    dsimp only [encC]
    have hWs : W1.heap.size ≤ W.heap.size := hI.sz
    have h34 : (CH (firstH xs x.val) 0 x.val).size = 34 := CH_size _ _ _ (firstH_length _ _)
    have st := storeCH W (firstH xs x.val) (firstH_length _ _) 0 x.val
    have hl := Lies.new W (CH (firstH xs x.val) 0 x.val) 48
    have ha : Below W.heap.size W (W.alloc (.cells (CH (firstH xs x.val) 0 x.val) 48)) := (Below.refl _ _).alloc (Nat.le_refl _) _
    have hfin := hK { tmps := #[.slice pa xs.length pc, .agg mv, undef, .pointer (some ⟨w.heap.size, 0, none⟩), .pointer (some ⟨w.heap.size + 1, 0, none⟩), .pointer (some ⟨bd, 0, none⟩), .pointer (some ⟨bs, 0, none⟩), .pointer (some ⟨W.heap.size, 0, none⟩), .agg mv, .agg dv, .slice pa xs.length pc, .func (.func 30) #[] #[.pointer (some ⟨bn, 0, none⟩)], .agg (CH (firstH xs x.val) 0 x.val), undef, undef, undef, undef, undef, undef, undef, undef, undef, undef, undef], defers := [] } (W.alloc (.cells (CH (firstH xs x.val) 0 x.val) 48)) ((KeepsOthers.alloc _ _).from _) (KB.below ha hWs)
      ⟨v, hI.s.alloc _, hI.row.kept (World.grownBy_alloc W _ none) (fun _ _ e => by cases e), hI.d.alloc _, hI.r.alloc _, hI.below.alloc hI.below.size _, by simp; omega⟩ ⟨W.heap.size, hWs, hl, rfl⟩
    have hp0 : ((0 : Nat) : Int) = 0 := rfl
    generalize CH (firstH xs x.val) 0 x.val = ck at st hfin h34 ⊢
    simp only [zero34] at st
    clear hK hl ha hp0
    gi_wp2
    exact hfin
  case body =>
    rintro l pre x a' W hl ⟨r, hr⟩ ⟨v, hI⟩ ⟨Bx, hBx, hlx, rfl⟩ hlen
    gi_wp2
    refine round_any (by kernel_rfl) ?_ ?_ ?_
    · rintro ⟨a, w2, h⟩
      exact h
    · intro i o ho c
      rcases i with _ | _ | _ | _ | _ | _ | _ | _ | _ | _ | _ | i <;> simp at ho <;> subst ho <;> simp
    · have hxl := x.isLt
      have hsW : Starts W := HSC.out.1.below hI.below (by omega)
      have hcW : Cubes W := HSC.out.2.below hI.below h1n
      have hBl := hlx.lt
      obtain ⟨dg, hdg⟩ : ∃ dg, dg = digit m x.val := ⟨_, rfl⟩
      have hdg15 : dg ≤ 15 := by rw [hdg]; exact digit_le m _
      have hup := upto_any Bx (firstH xs x.val) (firstH_length _ _) 0 dg x.val (Nat.zero_le _) hdg15 (by omega) W.drew hlx.drew (by omega) hsW.drew hcW.drew
      obtain ⟨e0, he0⟩ : ∃ e0, e0 = sigH xs m x.val := ⟨_, rfl⟩
      have hel : e0.length = 32 := by rw [he0]; exact sigH_length _ _ _
      have hsig : onN x.val 0 (dg - 0) (firstH xs x.val) = e0 := by rw [he0, hdg]; rfl
      rw [hsig] at hup
      have hcall : Calls Tryz.prog 17 #[.pointer (some ⟨Bx, 0, none⟩), .int .u8 (dg : Int)] W.drew fun e w' => ∃ v2, e = .returned v2 ∧ (v2 = .agg (B8 e0) ∧ W.grownBy w' (some Bx)) :=
        hup.mono fun e w' h => ⟨_, h.1, rfl, (grown_trans (grown_drew (grown_refl W (some Bx))) h.2.2)⟩
      have hcv0 := hI.s.drew.cell 0 (v := v) rfl
      have hcx : W.drew.cell? ⟨Bx, 33, none⟩ = some (.int .u8 (x.val : Int)) := hlx.drew.cell 33 (CH_number _ _ _ (firstH_length _ _))
      have hcd : W.drew.cell? ⟨bd, x.val, none⟩ = some (.int .u8 (dg : Int)) := by
        rw [hdg]
        refine hI.d.drew.cell x.val ?_
        rw [HV.out.2.2]
        exact digRow_get m 35 x.val hxl hxl
      have i1 : (0 : Int) ≤ (x.val : Int) := by omega
      have i2 : (x.val : Int) < 35 := by omega
      have hWs : W1.heap.size ≤ W.heap.size := hI.sz
      change wpAny _ _ _ _ 11 _ _ _
      refine wpAny_takeTo (i := 0) (v := .pointer (some ⟨bs, 0, none⟩)) rfl 13 rfl (by kernel_rfl) (by kernel_rfl) (by kernel_rfl) (fun _ _ _ h => h) rfl (by intro w'; unfold execOp; simp [go_sem]) _ rfl ?_
      show wpAny _ _ _ _ _ _ { tmps := #[.slice pa xs.length pc, .agg mv, undef, .pointer (some ⟨w.heap.size, 0, none⟩), .pointer (some ⟨w.heap.size + 1, 0, none⟩), .pointer (some ⟨bd, 0, none⟩), .pointer (some ⟨bs, 0, none⟩), .pointer (some ⟨Bx, 0, none⟩), .agg mv, .agg dv, .slice pa xs.length pc, .func (.func 30) #[] #[.pointer (some ⟨bn, 0, none⟩)], .agg (CH (firstH xs x.val) 0 x.val), .pointer (some ⟨bs, 0, none⟩), undef, undef, undef, undef, undef, undef, undef, undef, undef, undef], defers := [] } _
      refine wpAny_takeTo (i := 2) (v := .pointer (some ⟨Bx, 33, none⟩)) rfl 15 rfl (by kernel_rfl) (by kernel_rfl) (by kernel_rfl) (fun _ _ _ h => h) rfl (by intro w'; unfold execOp; simp [go_sem]) _ rfl ?_
      show wpAny _ _ _ _ _ _ { tmps := #[.slice pa xs.length pc, .agg mv, undef, .pointer (some ⟨w.heap.size, 0, none⟩), .pointer (some ⟨w.heap.size + 1, 0, none⟩), .pointer (some ⟨bd, 0, none⟩), .pointer (some ⟨bs, 0, none⟩), .pointer (some ⟨Bx, 0, none⟩), .agg mv, .agg dv, .slice pa xs.length pc, .func (.func 30) #[] #[.pointer (some ⟨bn, 0, none⟩)], .agg (CH (firstH xs x.val) 0 x.val), .pointer (some ⟨bs, 0, none⟩), undef, .pointer (some ⟨Bx, 33, none⟩), undef, undef, undef, undef, undef, undef, undef, undef], defers := [] } _
      refine wpAny_two (i := 1) (j := 3) (by kernel_rfl) _ _ rfl rfl ?_ ?_
      · refine wpOp_valueTo (v := v) (w' := W.drew) rfl rfl 14 rfl (by unfold execOp; simp [go_sem, hcv0]) ?_
        show wpAny _ _ _ _ _ _ { tmps := #[.slice pa xs.length pc, .agg mv, undef, .pointer (some ⟨w.heap.size, 0, none⟩), .pointer (some ⟨w.heap.size + 1, 0, none⟩), .pointer (some ⟨bd, 0, none⟩), .pointer (some ⟨bs, 0, none⟩), .pointer (some ⟨Bx, 0, none⟩), .agg mv, .agg dv, .slice pa xs.length pc, .func (.func 30) #[] #[.pointer (some ⟨bn, 0, none⟩)], .agg (CH (firstH xs x.val) 0 x.val), .pointer (some ⟨bs, 0, none⟩), v, .pointer (some ⟨Bx, 33, none⟩), undef, undef, undef, undef, undef, undef, undef, undef], defers := [] } _
        refine wpAny_valueTo (i := 3) rfl rfl 16 rfl (by kernel_rfl) _ rfl (.int .u8 (x.val : Int)) W.drew (by unfold execOp; simp [go_sem, hcx]) ?_
        show wpAny _ _ _ _ _ _ { tmps := #[.slice pa xs.length pc, .agg mv, undef, .pointer (some ⟨w.heap.size, 0, none⟩), .pointer (some ⟨w.heap.size + 1, 0, none⟩), .pointer (some ⟨bd, 0, none⟩), .pointer (some ⟨bs, 0, none⟩), .pointer (some ⟨Bx, 0, none⟩), .agg mv, .agg dv, .slice pa xs.length pc, .func (.func 30) #[] #[.pointer (some ⟨bn, 0, none⟩)], .agg (CH (firstH xs x.val) 0 x.val), .pointer (some ⟨bs, 0, none⟩), v, .pointer (some ⟨Bx, 33, none⟩), .int .u8 (x.val : Int), undef, undef, undef, undef, undef, undef, undef], defers := [] } _
        refine wpAny_takeTo (i := 4) (v := .pointer (some ⟨bd, x.val, none⟩)) rfl 17 rfl (by kernel_rfl) (by kernel_rfl) (by kernel_rfl) (fun _ _ _ h => h) rfl (by intro w'; unfold execOp; simp [go_sem, i1, i2]) _ rfl ?_
        show wpAny _ _ _ _ _ _ { tmps := #[.slice pa xs.length pc, .agg mv, undef, .pointer (some ⟨w.heap.size, 0, none⟩), .pointer (some ⟨w.heap.size + 1, 0, none⟩), .pointer (some ⟨bd, 0, none⟩), .pointer (some ⟨bs, 0, none⟩), .pointer (some ⟨Bx, 0, none⟩), .agg mv, .agg dv, .slice pa xs.length pc, .func (.func 30) #[] #[.pointer (some ⟨bn, 0, none⟩)], .agg (CH (firstH xs x.val) 0 x.val), .pointer (some ⟨bs, 0, none⟩), v, .pointer (some ⟨Bx, 33, none⟩), .int .u8 (x.val : Int), .pointer (some ⟨bd, x.val, none⟩), undef, undef, undef, undef, undef, undef], defers := [] } _
        refine wpAny_valueTo (i := 5) rfl rfl 18 rfl (by kernel_rfl) _ rfl (.int .u8 (dg : Int)) W.drew (by unfold execOp; simp [go_sem, hcd]) ?_
        show wpAny _ _ _ _ _ _ { tmps := #[.slice pa xs.length pc, .agg mv, undef, .pointer (some ⟨w.heap.size, 0, none⟩), .pointer (some ⟨w.heap.size + 1, 0, none⟩), .pointer (some ⟨bd, 0, none⟩), .pointer (some ⟨bs, 0, none⟩), .pointer (some ⟨Bx, 0, none⟩), .agg mv, .agg dv, .slice pa xs.length pc, .func (.func 30) #[] #[.pointer (some ⟨bn, 0, none⟩)], .agg (CH (firstH xs x.val) 0 x.val), .pointer (some ⟨bs, 0, none⟩), v, .pointer (some ⟨Bx, 33, none⟩), .int .u8 (x.val : Int), .pointer (some ⟨bd, x.val, none⟩), .int .u8 (dg : Int), undef, undef, undef, undef, undef], defers := [] } _
        refine wpAny_callTo (i := 6) rfl rfl 19 rfl (by kernel_rfl) _ rfl 17 #[.pointer (some ⟨Bx, 0, none⟩), .int .u8 (dg : Int)] (by unfold execOp; simp [go_sem]) _ hcall ?_
        rintro v2 W2 ⟨rfl, hg2⟩
        have hs2 := hI.s.grown hg2 (by omega)
        have hrow2 := hI.row.kept hg2 (fun y hy e => by
          have e1 : Bx = y := Option.some.inj e
          obtain ⟨_, _, cs, hcs⟩ := hI.row.block y hy
          rw [← e1] at hcs
          have := hcs.symm.trans hlx
          cases this)
        have hcv2 := hs2.cell 0 (v := v) rfl
        have hcv3 := (hs2.alloc (.cells (B8 e0) 24)).cell 0 (v := v) rfl
        obtain ⟨v', W4, hrun, hrow4, hg4, hone⟩ := run_moreH (hrow2.kept (World.grownBy_alloc W2 (.cells (B8 e0) 24) none) (fun _ _ e => by cases e)) (by omega) (by have := hg2.size; simp; omega) W2.heap.size e0 hel (Lies.new W2 (B8 e0) 24) 26
        show wpAny _ _ _ _ _ _ { tmps := #[.slice pa xs.length pc, .agg mv, undef, .pointer (some ⟨w.heap.size, 0, none⟩), .pointer (some ⟨w.heap.size + 1, 0, none⟩), .pointer (some ⟨bd, 0, none⟩), .pointer (some ⟨bs, 0, none⟩), .pointer (some ⟨Bx, 0, none⟩), .agg mv, .agg dv, .slice pa xs.length pc, .func (.func 30) #[] #[.pointer (some ⟨bn, 0, none⟩)], .agg (CH (firstH xs x.val) 0 x.val), .pointer (some ⟨bs, 0, none⟩), v, .pointer (some ⟨Bx, 33, none⟩), .int .u8 (x.val : Int), .pointer (some ⟨bd, x.val, none⟩), .int .u8 (dg : Int), .agg (B8 e0), undef, undef, undef, undef], defers := [] } _
        refine wpAny_valueTo (i := 7) rfl rfl 20 rfl (by kernel_rfl) _ rfl (.slice (some ⟨W2.heap.size, 0, none⟩) 1 1) (W2.alloc (.cells (B8 e0) 24)) (exec_oneH _ rfl e0 hel rfl) ?_
        show wpAny _ _ _ _ _ _ { tmps := #[.slice pa xs.length pc, .agg mv, undef, .pointer (some ⟨w.heap.size, 0, none⟩), .pointer (some ⟨w.heap.size + 1, 0, none⟩), .pointer (some ⟨bd, 0, none⟩), .pointer (some ⟨bs, 0, none⟩), .pointer (some ⟨Bx, 0, none⟩), .agg mv, .agg dv, .slice pa xs.length pc, .func (.func 30) #[] #[.pointer (some ⟨bn, 0, none⟩)], .agg (CH (firstH xs x.val) 0 x.val), .pointer (some ⟨bs, 0, none⟩), v, .pointer (some ⟨Bx, 33, none⟩), .int .u8 (x.val : Int), .pointer (some ⟨bd, x.val, none⟩), .int .u8 (dg : Int), .agg (B8 e0), .slice (some ⟨W2.heap.size, 0, none⟩) 1 1, undef, undef, undef], defers := [] } _
        refine wpAny_valueTo (i := 8) rfl rfl 21 rfl (by kernel_rfl) _ rfl v' W4 (exec_moreH (v := v) (g := W2.heap.size) _ _ rfl rfl rfl (by exact hrun)) ?_
        show wpAny _ _ _ _ _ _ { tmps := #[.slice pa xs.length pc, .agg mv, undef, .pointer (some ⟨w.heap.size, 0, none⟩), .pointer (some ⟨w.heap.size + 1, 0, none⟩), .pointer (some ⟨bd, 0, none⟩), .pointer (some ⟨bs, 0, none⟩), .pointer (some ⟨Bx, 0, none⟩), .agg mv, .agg dv, .slice pa xs.length pc, .func (.func 30) #[] #[.pointer (some ⟨bn, 0, none⟩)], .agg (CH (firstH xs x.val) 0 x.val), .pointer (some ⟨bs, 0, none⟩), v, .pointer (some ⟨Bx, 33, none⟩), .int .u8 (x.val : Int), .pointer (some ⟨bd, x.val, none⟩), .int .u8 (dg : Int), .agg (B8 e0), .slice (some ⟨W2.heap.size, 0, none⟩) 1 1, v', undef, undef], defers := [] } _
        refine wpAny_valueTo (i := 9) rfl rfl 22 rfl (by kernel_rfl) _ rfl (.pointer (some ⟨bs, 0, none⟩)) W4 (by unfold execOp; simp [go_sem]) ?_
        show wpAny _ _ _ _ _ _ { tmps := #[.slice pa xs.length pc, .agg mv, undef, .pointer (some ⟨w.heap.size, 0, none⟩), .pointer (some ⟨w.heap.size + 1, 0, none⟩), .pointer (some ⟨bd, 0, none⟩), .pointer (some ⟨bs, 0, none⟩), .pointer (some ⟨Bx, 0, none⟩), .agg mv, .agg dv, .slice pa xs.length pc, .func (.func 30) #[] #[.pointer (some ⟨bn, 0, none⟩)], .agg (CH (firstH xs x.val) 0 x.val), .pointer (some ⟨bs, 0, none⟩), v, .pointer (some ⟨Bx, 33, none⟩), .int .u8 (x.val : Int), .pointer (some ⟨bd, x.val, none⟩), .int .u8 (dg : Int), .agg (B8 e0), .slice (some ⟨W2.heap.size, 0, none⟩) 1 1, v', .pointer (some ⟨bs, 0, none⟩), undef], defers := [] } _
        obtain ⟨g', c', rfl, _⟩ := hrow4.shape (by omega)
        have hsa : Lies (W2.alloc (.cells (B8 e0) 24)) bs #[v] 28 := hs2.alloc _
        have hs4 : Lies W4 bs #[v] 28 := (hg4.block bs hsa.lt (fun e => by have := (hI.row.block bs e.symm).1; omega)).trans hsa
        have hfin := sign_fin hI (by omega) (by omega) (by omega) (by omega) hBx hlx hg2 hrow2 he0 hrow4 hg4 W1.heap.size
        refine wpAny_oneOp (i := 10) (by kernel_rfl) _ rfl (wpOp_wp rfl rfl (wp_store22 _ _ rfl ⟨bs, 0, none⟩ rfl ⟨g', 0, none⟩ (pre.length + 1) c' rfl v (hs4.cell 0 (v := v) rfl) (hs4.free 0) ?_))
        exact ⟨by kernel_rfl, hfin.1, hfin.2.1, _, hfin.2.2⟩
      · refine wpOp_valueTo (v := (.int .u8 (x.val : Int))) (w' := W.drew) rfl rfl 16 rfl (by unfold execOp; simp [go_sem, hcx]) ?_
        show wpAny _ _ _ _ _ _ { tmps := #[.slice pa xs.length pc, .agg mv, undef, .pointer (some ⟨w.heap.size, 0, none⟩), .pointer (some ⟨w.heap.size + 1, 0, none⟩), .pointer (some ⟨bd, 0, none⟩), .pointer (some ⟨bs, 0, none⟩), .pointer (some ⟨Bx, 0, none⟩), .agg mv, .agg dv, .slice pa xs.length pc, .func (.func 30) #[] #[.pointer (some ⟨bn, 0, none⟩)], .agg (CH (firstH xs x.val) 0 x.val), .pointer (some ⟨bs, 0, none⟩), undef, .pointer (some ⟨Bx, 33, none⟩), .int .u8 (x.val : Int), undef, undef, undef, undef, undef, undef, undef], defers := [] } _
        refine wpAny_takeTo (i := 4) (v := .pointer (some ⟨bd, x.val, none⟩)) rfl 17 rfl (by kernel_rfl) (by kernel_rfl) (by kernel_rfl) (fun _ _ _ h => h) rfl (by intro w'; unfold execOp; simp [go_sem, i1, i2]) _ rfl ?_
        show wpAny _ _ _ _ _ _ { tmps := #[.slice pa xs.length pc, .agg mv, undef, .pointer (some ⟨w.heap.size, 0, none⟩), .pointer (some ⟨w.heap.size + 1, 0, none⟩), .pointer (some ⟨bd, 0, none⟩), .pointer (some ⟨bs, 0, none⟩), .pointer (some ⟨Bx, 0, none⟩), .agg mv, .agg dv, .slice pa xs.length pc, .func (.func 30) #[] #[.pointer (some ⟨bn, 0, none⟩)], .agg (CH (firstH xs x.val) 0 x.val), .pointer (some ⟨bs, 0, none⟩), undef, .pointer (some ⟨Bx, 33, none⟩), .int .u8 (x.val : Int), .pointer (some ⟨bd, x.val, none⟩), undef, undef, undef, undef, undef, undef], defers := [] } _
        refine wpAny_two (i := 1) (j := 5) (by kernel_rfl) _ _ rfl rfl ?_ ?_
        · refine wpOp_valueTo (v := v) (w' := W.drew) rfl rfl 14 rfl (by unfold execOp; simp [go_sem, hcv0]) ?_
          show wpAny _ _ _ _ _ _ { tmps := #[.slice pa xs.length pc, .agg mv, undef, .pointer (some ⟨w.heap.size, 0, none⟩), .pointer (some ⟨w.heap.size + 1, 0, none⟩), .pointer (some ⟨bd, 0, none⟩), .pointer (some ⟨bs, 0, none⟩), .pointer (some ⟨Bx, 0, none⟩), .agg mv, .agg dv, .slice pa xs.length pc, .func (.func 30) #[] #[.pointer (some ⟨bn, 0, none⟩)], .agg (CH (firstH xs x.val) 0 x.val), .pointer (some ⟨bs, 0, none⟩), v, .pointer (some ⟨Bx, 33, none⟩), .int .u8 (x.val : Int), .pointer (some ⟨bd, x.val, none⟩), undef, undef, undef, undef, undef, undef], defers := [] } _
          refine wpAny_valueTo (i := 5) rfl rfl 18 rfl (by kernel_rfl) _ rfl (.int .u8 (dg : Int)) W.drew (by unfold execOp; simp [go_sem, hcd]) ?_
          show wpAny _ _ _ _ _ _ { tmps := #[.slice pa xs.length pc, .agg mv, undef, .pointer (some ⟨w.heap.size, 0, none⟩), .pointer (some ⟨w.heap.size + 1, 0, none⟩), .pointer (some ⟨bd, 0, none⟩), .pointer (some ⟨bs, 0, none⟩), .pointer (some ⟨Bx, 0, none⟩), .agg mv, .agg dv, .slice pa xs.length pc, .func (.func 30) #[] #[.pointer (some ⟨bn, 0, none⟩)], .agg (CH (firstH xs x.val) 0 x.val), .pointer (some ⟨bs, 0, none⟩), v, .pointer (some ⟨Bx, 33, none⟩), .int .u8 (x.val : Int), .pointer (some ⟨bd, x.val, none⟩), .int .u8 (dg : Int), undef, undef, undef, undef, undef], defers := [] } _
          refine wpAny_callTo (i := 6) rfl rfl 19 rfl (by kernel_rfl) _ rfl 17 #[.pointer (some ⟨Bx, 0, none⟩), .int .u8 (dg : Int)] (by unfold execOp; simp [go_sem]) _ hcall ?_
          rintro v2 W2 ⟨rfl, hg2⟩
          have hs2 := hI.s.grown hg2 (by omega)
          have hrow2 := hI.row.kept hg2 (fun y hy e => by
            have e1 : Bx = y := Option.some.inj e
            obtain ⟨_, _, cs, hcs⟩ := hI.row.block y hy
            rw [← e1] at hcs
            have := hcs.symm.trans hlx
            cases this)
          have hcv2 := hs2.cell 0 (v := v) rfl
          have hcv3 := (hs2.alloc (.cells (B8 e0) 24)).cell 0 (v := v) rfl
          obtain ⟨v', W4, hrun, hrow4, hg4, hone⟩ := run_moreH (hrow2.kept (World.grownBy_alloc W2 (.cells (B8 e0) 24) none) (fun _ _ e => by cases e)) (by omega) (by have := hg2.size; simp; omega) W2.heap.size e0 hel (Lies.new W2 (B8 e0) 24) 26
          show wpAny _ _ _ _ _ _ { tmps := #[.slice pa xs.length pc, .agg mv, undef, .pointer (some ⟨w.heap.size, 0, none⟩), .pointer (some ⟨w.heap.size + 1, 0, none⟩), .pointer (some ⟨bd, 0, none⟩), .pointer (some ⟨bs, 0, none⟩), .pointer (some ⟨Bx, 0, none⟩), .agg mv, .agg dv, .slice pa xs.length pc, .func (.func 30) #[] #[.pointer (some ⟨bn, 0, none⟩)], .agg (CH (firstH xs x.val) 0 x.val), .pointer (some ⟨bs, 0, none⟩), v, .pointer (some ⟨Bx, 33, none⟩), .int .u8 (x.val : Int), .pointer (some ⟨bd, x.val, none⟩), .int .u8 (dg : Int), .agg (B8 e0), undef, undef, undef, undef], defers := [] } _
          refine wpAny_valueTo (i := 7) rfl rfl 20 rfl (by kernel_rfl) _ rfl (.slice (some ⟨W2.heap.size, 0, none⟩) 1 1) (W2.alloc (.cells (B8 e0) 24)) (exec_oneH _ rfl e0 hel rfl) ?_
          show wpAny _ _ _ _ _ _ { tmps := #[.slice pa xs.length pc, .agg mv, undef, .pointer (some ⟨w.heap.size, 0, none⟩), .pointer (some ⟨w.heap.size + 1, 0, none⟩), .pointer (some ⟨bd, 0, none⟩), .pointer (some ⟨bs, 0, none⟩), .pointer (some ⟨Bx, 0, none⟩), .agg mv, .agg dv, .slice pa xs.length pc, .func (.func 30) #[] #[.pointer (some ⟨bn, 0, none⟩)], .agg (CH (firstH xs x.val) 0 x.val), .pointer (some ⟨bs, 0, none⟩), v, .pointer (some ⟨Bx, 33, none⟩), .int .u8 (x.val : Int), .pointer (some ⟨bd, x.val, none⟩), .int .u8 (dg : Int), .agg (B8 e0), .slice (some ⟨W2.heap.size, 0, none⟩) 1 1, undef, undef, undef], defers := [] } _
          refine wpAny_valueTo (i := 8) rfl rfl 21 rfl (by kernel_rfl) _ rfl v' W4 (exec_moreH (v := v) (g := W2.heap.size) _ _ rfl rfl rfl (by exact hrun)) ?_
          show wpAny _ _ _ _ _ _ { tmps := #[.slice pa xs.length pc, .agg mv, undef, .pointer (some ⟨w.heap.size, 0, none⟩), .pointer (some ⟨w.heap.size + 1, 0, none⟩), .pointer (some ⟨bd, 0, none⟩), .pointer (some ⟨bs, 0, none⟩), .pointer (some ⟨Bx, 0, none⟩), .agg mv, .agg dv, .slice pa xs.length pc, .func (.func 30) #[] #[.pointer (some ⟨bn, 0, none⟩)], .agg (CH (firstH xs x.val) 0 x.val), .pointer (some ⟨bs, 0, none⟩), v, .pointer (some ⟨Bx, 33, none⟩), .int .u8 (x.val : Int), .pointer (some ⟨bd, x.val, none⟩), .int .u8 (dg : Int), .agg (B8 e0), .slice (some ⟨W2.heap.size, 0, none⟩) 1 1, v', undef, undef], defers := [] } _
          refine wpAny_valueTo (i := 9) rfl rfl 22 rfl (by kernel_rfl) _ rfl (.pointer (some ⟨bs, 0, none⟩)) W4 (by unfold execOp; simp [go_sem]) ?_
          show wpAny _ _ _ _ _ _ { tmps := #[.slice pa xs.length pc, .agg mv, undef, .pointer (some ⟨w.heap.size, 0, none⟩), .pointer (some ⟨w.heap.size + 1, 0, none⟩), .pointer (some ⟨bd, 0, none⟩), .pointer (some ⟨bs, 0, none⟩), .pointer (some ⟨Bx, 0, none⟩), .agg mv, .agg dv, .slice pa xs.length pc, .func (.func 30) #[] #[.pointer (some ⟨bn, 0, none⟩)], .agg (CH (firstH xs x.val) 0 x.val), .pointer (some ⟨bs, 0, none⟩), v, .pointer (some ⟨Bx, 33, none⟩), .int .u8 (x.val : Int), .pointer (some ⟨bd, x.val, none⟩), .int .u8 (dg : Int), .agg (B8 e0), .slice (some ⟨W2.heap.size, 0, none⟩) 1 1, v', .pointer (some ⟨bs, 0, none⟩), undef], defers := [] } _
          obtain ⟨g', c', rfl, _⟩ := hrow4.shape (by omega)
          have hsa : Lies (W2.alloc (.cells (B8 e0) 24)) bs #[v] 28 := hs2.alloc _
          have hs4 : Lies W4 bs #[v] 28 := (hg4.block bs hsa.lt (fun e => by have := (hI.row.block bs e.symm).1; omega)).trans hsa
          have hfin := sign_fin hI (by omega) (by omega) (by omega) (by omega) hBx hlx hg2 hrow2 he0 hrow4 hg4 W1.heap.size
          refine wpAny_oneOp (i := 10) (by kernel_rfl) _ rfl (wpOp_wp rfl rfl (wp_store22 _ _ rfl ⟨bs, 0, none⟩ rfl ⟨g', 0, none⟩ (pre.length + 1) c' rfl v (hs4.cell 0 (v := v) rfl) (hs4.free 0) ?_))
          exact ⟨by kernel_rfl, hfin.1, hfin.2.1, _, hfin.2.2⟩
        · refine wpOp_valueTo (v := (.int .u8 (dg : Int))) (w' := W.drew) rfl rfl 18 rfl (by unfold execOp; simp [go_sem, hcd]) ?_
          show wpAny _ _ _ _ _ _ { tmps := #[.slice pa xs.length pc, .agg mv, undef, .pointer (some ⟨w.heap.size, 0, none⟩), .pointer (some ⟨w.heap.size + 1, 0, none⟩), .pointer (some ⟨bd, 0, none⟩), .pointer (some ⟨bs, 0, none⟩), .pointer (some ⟨Bx, 0, none⟩), .agg mv, .agg dv, .slice pa xs.length pc, .func (.func 30) #[] #[.pointer (some ⟨bn, 0, none⟩)], .agg (CH (firstH xs x.val) 0 x.val), .pointer (some ⟨bs, 0, none⟩), undef, .pointer (some ⟨Bx, 33, none⟩), .int .u8 (x.val : Int), .pointer (some ⟨bd, x.val, none⟩), .int .u8 (dg : Int), undef, undef, undef, undef, undef], defers := [] } _
          refine wpAny_two (i := 1) (j := 6) (by kernel_rfl) _ _ rfl rfl ?_ ?_
          · refine wpOp_valueTo (v := v) (w' := W.drew) rfl rfl 14 rfl (by unfold execOp; simp [go_sem, hcv0]) ?_
            show wpAny _ _ _ _ _ _ { tmps := #[.slice pa xs.length pc, .agg mv, undef, .pointer (some ⟨w.heap.size, 0, none⟩), .pointer (some ⟨w.heap.size + 1, 0, none⟩), .pointer (some ⟨bd, 0, none⟩), .pointer (some ⟨bs, 0, none⟩), .pointer (some ⟨Bx, 0, none⟩), .agg mv, .agg dv, .slice pa xs.length pc, .func (.func 30) #[] #[.pointer (some ⟨bn, 0, none⟩)], .agg (CH (firstH xs x.val) 0 x.val), .pointer (some ⟨bs, 0, none⟩), v, .pointer (some ⟨Bx, 33, none⟩), .int .u8 (x.val : Int), .pointer (some ⟨bd, x.val, none⟩), .int .u8 (dg : Int), undef, undef, undef, undef, undef], defers := [] } _
            refine wpAny_callTo (i := 6) rfl rfl 19 rfl (by kernel_rfl) _ rfl 17 #[.pointer (some ⟨Bx, 0, none⟩), .int .u8 (dg : Int)] (by unfold execOp; simp [go_sem]) _ hcall ?_
            rintro v2 W2 ⟨rfl, hg2⟩
            have hs2 := hI.s.grown hg2 (by omega)
            have hrow2 := hI.row.kept hg2 (fun y hy e => by
              have e1 : Bx = y := Option.some.inj e
              obtain ⟨_, _, cs, hcs⟩ := hI.row.block y hy
              rw [← e1] at hcs
              have := hcs.symm.trans hlx
              cases this)
            have hcv2 := hs2.cell 0 (v := v) rfl
            have hcv3 := (hs2.alloc (.cells (B8 e0) 24)).cell 0 (v := v) rfl
            obtain ⟨v', W4, hrun, hrow4, hg4, hone⟩ := run_moreH (hrow2.kept (World.grownBy_alloc W2 (.cells (B8 e0) 24) none) (fun _ _ e => by cases e)) (by omega) (by have := hg2.size; simp; omega) W2.heap.size e0 hel (Lies.new W2 (B8 e0) 24) 26
            show wpAny _ _ _ _ _ _ { tmps := #[.slice pa xs.length pc, .agg mv, undef, .pointer (some ⟨w.heap.size, 0, none⟩), .pointer (some ⟨w.heap.size + 1, 0, none⟩), .pointer (some ⟨bd, 0, none⟩), .pointer (some ⟨bs, 0, none⟩), .pointer (some ⟨Bx, 0, none⟩), .agg mv, .agg dv, .slice pa xs.length pc, .func (.func 30) #[] #[.pointer (some ⟨bn, 0, none⟩)], .agg (CH (firstH xs x.val) 0 x.val), .pointer (some ⟨bs, 0, none⟩), v, .pointer (some ⟨Bx, 33, none⟩), .int .u8 (x.val : Int), .pointer (some ⟨bd, x.val, none⟩), .int .u8 (dg : Int), .agg (B8 e0), undef, undef, undef, undef], defers := [] } _
            refine wpAny_valueTo (i := 7) rfl rfl 20 rfl (by kernel_rfl) _ rfl (.slice (some ⟨W2.heap.size, 0, none⟩) 1 1) (W2.alloc (.cells (B8 e0) 24)) (exec_oneH _ rfl e0 hel rfl) ?_
            show wpAny _ _ _ _ _ _ { tmps := #[.slice pa xs.length pc, .agg mv, undef, .pointer (some ⟨w.heap.size, 0, none⟩), .pointer (some ⟨w.heap.size + 1, 0, none⟩), .pointer (some ⟨bd, 0, none⟩), .pointer (some ⟨bs, 0, none⟩), .pointer (some ⟨Bx, 0, none⟩), .agg mv, .agg dv, .slice pa xs.length pc, .func (.func 30) #[] #[.pointer (some ⟨bn, 0, none⟩)], .agg (CH (firstH xs x.val) 0 x.val), .pointer (some ⟨bs, 0, none⟩), v, .pointer (some ⟨Bx, 33, none⟩), .int .u8 (x.val : Int), .pointer (some ⟨bd, x.val, none⟩), .int .u8 (dg : Int), .agg (B8 e0), .slice (some ⟨W2.heap.size, 0, none⟩) 1 1, undef, undef, undef], defers := [] } _
            refine wpAny_valueTo (i := 8) rfl rfl 21 rfl (by kernel_rfl) _ rfl v' W4 (exec_moreH (v := v) (g := W2.heap.size) _ _ rfl rfl rfl (by exact hrun)) ?_
            show wpAny _ _ _ _ _ _ { tmps := #[.slice pa xs.length pc, .agg mv, undef, .pointer (some ⟨w.heap.size, 0, none⟩), .pointer (some ⟨w.heap.size + 1, 0, none⟩), .pointer (some ⟨bd, 0, none⟩), .pointer (some ⟨bs, 0, none⟩), .pointer (some ⟨Bx, 0, none⟩), .agg mv, .agg dv, .slice pa xs.length pc, .func (.func 30) #[] #[.pointer (some ⟨bn, 0, none⟩)], .agg (CH (firstH xs x.val) 0 x.val), .pointer (some ⟨bs, 0, none⟩), v, .pointer (some ⟨Bx, 33, none⟩), .int .u8 (x.val : Int), .pointer (some ⟨bd, x.val, none⟩), .int .u8 (dg : Int), .agg (B8 e0), .slice (some ⟨W2.heap.size, 0, none⟩) 1 1, v', undef, undef], defers := [] } _
            refine wpAny_valueTo (i := 9) rfl rfl 22 rfl (by kernel_rfl) _ rfl (.pointer (some ⟨bs, 0, none⟩)) W4 (by unfold execOp; simp [go_sem]) ?_
            show wpAny _ _ _ _ _ _ { tmps := #[.slice pa xs.length pc, .agg mv, undef, .pointer (some ⟨w.heap.size, 0, none⟩), .pointer (some ⟨w.heap.size + 1, 0, none⟩), .pointer (some ⟨bd, 0, none⟩), .pointer (some ⟨bs, 0, none⟩), .pointer (some ⟨Bx, 0, none⟩), .agg mv, .agg dv, .slice pa xs.length pc, .func (.func 30) #[] #[.pointer (some ⟨bn, 0, none⟩)], .agg (CH (firstH xs x.val) 0 x.val), .pointer (some ⟨bs, 0, none⟩), v, .pointer (some ⟨Bx, 33, none⟩), .int .u8 (x.val : Int), .pointer (some ⟨bd, x.val, none⟩), .int .u8 (dg : Int), .agg (B8 e0), .slice (some ⟨W2.heap.size, 0, none⟩) 1 1, v', .pointer (some ⟨bs, 0, none⟩), undef], defers := [] } _
            obtain ⟨g', c', rfl, _⟩ := hrow4.shape (by omega)
            have hsa : Lies (W2.alloc (.cells (B8 e0) 24)) bs #[v] 28 := hs2.alloc _
            have hs4 : Lies W4 bs #[v] 28 := (hg4.block bs hsa.lt (fun e => by have := (hI.row.block bs e.symm).1; omega)).trans hsa
            have hfin := sign_fin hI (by omega) (by omega) (by omega) (by omega) hBx hlx hg2 hrow2 he0 hrow4 hg4 W1.heap.size
            refine wpAny_oneOp (i := 10) (by kernel_rfl) _ rfl (wpOp_wp rfl rfl (wp_store22 _ _ rfl ⟨bs, 0, none⟩ rfl ⟨g', 0, none⟩ (pre.length + 1) c' rfl v (hs4.cell 0 (v := v) rfl) (hs4.free 0) ?_))
            exact ⟨by kernel_rfl, hfin.1, hfin.2.1, _, hfin.2.2⟩
          · refine wpOp_callTo rfl rfl 19 rfl 17 #[.pointer (some ⟨Bx, 0, none⟩), .int .u8 (dg : Int)] (by unfold execOp; simp [go_sem]) _ hcall ?_
            rintro v2 W2 ⟨rfl, hg2⟩
            have hs2 := hI.s.grown hg2 (by omega)
            have hrow2 := hI.row.kept hg2 (fun y hy e => by
              have e1 : Bx = y := Option.some.inj e
              obtain ⟨_, _, cs, hcs⟩ := hI.row.block y hy
              rw [← e1] at hcs
              have := hcs.symm.trans hlx
              cases this)
            have hcv2 := hs2.cell 0 (v := v) rfl
            have hcv3 := (hs2.alloc (.cells (B8 e0) 24)).cell 0 (v := v) rfl
            obtain ⟨v', W4, hrun, hrow4, hg4, hone⟩ := run_moreH (hrow2.kept (World.grownBy_alloc W2 (.cells (B8 e0) 24) none) (fun _ _ e => by cases e)) (by omega) (by have := hg2.size; simp; omega) W2.heap.size e0 hel (Lies.new W2 (B8 e0) 24) 26
            show wpAny _ _ _ _ _ _ { tmps := #[.slice pa xs.length pc, .agg mv, undef, .pointer (some ⟨w.heap.size, 0, none⟩), .pointer (some ⟨w.heap.size + 1, 0, none⟩), .pointer (some ⟨bd, 0, none⟩), .pointer (some ⟨bs, 0, none⟩), .pointer (some ⟨Bx, 0, none⟩), .agg mv, .agg dv, .slice pa xs.length pc, .func (.func 30) #[] #[.pointer (some ⟨bn, 0, none⟩)], .agg (CH (firstH xs x.val) 0 x.val), .pointer (some ⟨bs, 0, none⟩), undef, .pointer (some ⟨Bx, 33, none⟩), .int .u8 (x.val : Int), .pointer (some ⟨bd, x.val, none⟩), .int .u8 (dg : Int), .agg (B8 e0), undef, undef, undef, undef], defers := [] } _
            refine wpAny_two (i := 1) (j := 7) (by kernel_rfl) _ _ rfl rfl ?_ ?_
            · refine wpOp_valueTo (v := v) (w' := W2) rfl rfl 14 rfl (by unfold execOp; simp [go_sem, hcv2]) ?_
              show wpAny _ _ _ _ _ _ { tmps := #[.slice pa xs.length pc, .agg mv, undef, .pointer (some ⟨w.heap.size, 0, none⟩), .pointer (some ⟨w.heap.size + 1, 0, none⟩), .pointer (some ⟨bd, 0, none⟩), .pointer (some ⟨bs, 0, none⟩), .pointer (some ⟨Bx, 0, none⟩), .agg mv, .agg dv, .slice pa xs.length pc, .func (.func 30) #[] #[.pointer (some ⟨bn, 0, none⟩)], .agg (CH (firstH xs x.val) 0 x.val), .pointer (some ⟨bs, 0, none⟩), v, .pointer (some ⟨Bx, 33, none⟩), .int .u8 (x.val : Int), .pointer (some ⟨bd, x.val, none⟩), .int .u8 (dg : Int), .agg (B8 e0), undef, undef, undef, undef], defers := [] } _
              refine wpAny_valueTo (i := 7) rfl rfl 20 rfl (by kernel_rfl) _ rfl (.slice (some ⟨W2.heap.size, 0, none⟩) 1 1) (W2.alloc (.cells (B8 e0) 24)) (exec_oneH _ rfl e0 hel rfl) ?_
              show wpAny _ _ _ _ _ _ { tmps := #[.slice pa xs.length pc, .agg mv, undef, .pointer (some ⟨w.heap.size, 0, none⟩), .pointer (some ⟨w.heap.size + 1, 0, none⟩), .pointer (some ⟨bd, 0, none⟩), .pointer (some ⟨bs, 0, none⟩), .pointer (some ⟨Bx, 0, none⟩), .agg mv, .agg dv, .slice pa xs.length pc, .func (.func 30) #[] #[.pointer (some ⟨bn, 0, none⟩)], .agg (CH (firstH xs x.val) 0 x.val), .pointer (some ⟨bs, 0, none⟩), v, .pointer (some ⟨Bx, 33, none⟩), .int .u8 (x.val : Int), .pointer (some ⟨bd, x.val, none⟩), .int .u8 (dg : Int), .agg (B8 e0), .slice (some ⟨W2.heap.size, 0, none⟩) 1 1, undef, undef, undef], defers := [] } _
              refine wpAny_valueTo (i := 8) rfl rfl 21 rfl (by kernel_rfl) _ rfl v' W4 (exec_moreH (v := v) (g := W2.heap.size) _ _ rfl rfl rfl (by exact hrun)) ?_
              show wpAny _ _ _ _ _ _ { tmps := #[.slice pa xs.length pc, .agg mv, undef, .pointer (some ⟨w.heap.size, 0, none⟩), .pointer (some ⟨w.heap.size + 1, 0, none⟩), .pointer (some ⟨bd, 0, none⟩), .pointer (some ⟨bs, 0, none⟩), .pointer (some ⟨Bx, 0, none⟩), .agg mv, .agg dv, .slice pa xs.length pc, .func (.func 30) #[] #[.pointer (some ⟨bn, 0, none⟩)], .agg (CH (firstH xs x.val) 0 x.val), .pointer (some ⟨bs, 0, none⟩), v, .pointer (some ⟨Bx, 33, none⟩), .int .u8 (x.val : Int), .pointer (some ⟨bd, x.val, none⟩), .int .u8 (dg : Int), .agg (B8 e0), .slice (some ⟨W2.heap.size, 0, none⟩) 1 1, v', undef, undef], defers := [] } _
              refine wpAny_valueTo (i := 9) rfl rfl 22 rfl (by kernel_rfl) _ rfl (.pointer (some ⟨bs, 0, none⟩)) W4 (by unfold execOp; simp [go_sem]) ?_
              show wpAny _ _ _ _ _ _ { tmps := #[.slice pa xs.length pc, .agg mv, undef, .pointer (some ⟨w.heap.size, 0, none⟩), .pointer (some ⟨w.heap.size + 1, 0, none⟩), .pointer (some ⟨bd, 0, none⟩), .pointer (some ⟨bs, 0, none⟩), .pointer (some ⟨Bx, 0, none⟩), .agg mv, .agg dv, .slice pa xs.length pc, .func (.func 30) #[] #[.pointer (some ⟨bn, 0, none⟩)], .agg (CH (firstH xs x.val) 0 x.val), .pointer (some ⟨bs, 0, none⟩), v, .pointer (some ⟨Bx, 33, none⟩), .int .u8 (x.val : Int), .pointer (some ⟨bd, x.val, none⟩), .int .u8 (dg : Int), .agg (B8 e0), .slice (some ⟨W2.heap.size, 0, none⟩) 1 1, v', .pointer (some ⟨bs, 0, none⟩), undef], defers := [] } _
              obtain ⟨g', c', rfl, _⟩ := hrow4.shape (by omega)
              have hsa : Lies (W2.alloc (.cells (B8 e0) 24)) bs #[v] 28 := hs2.alloc _
              have hs4 : Lies W4 bs #[v] 28 := (hg4.block bs hsa.lt (fun e => by have := (hI.row.block bs e.symm).1; omega)).trans hsa
              have hfin := sign_fin hI (by omega) (by omega) (by omega) (by omega) hBx hlx hg2 hrow2 he0 hrow4 hg4 W1.heap.size
              refine wpAny_oneOp (i := 10) (by kernel_rfl) _ rfl (wpOp_wp rfl rfl (wp_store22 _ _ rfl ⟨bs, 0, none⟩ rfl ⟨g', 0, none⟩ (pre.length + 1) c' rfl v (hs4.cell 0 (v := v) rfl) (hs4.free 0) ?_))
              exact ⟨by kernel_rfl, hfin.1, hfin.2.1, _, hfin.2.2⟩
            · refine wpOp_valueTo (v := (.slice (some ⟨W2.heap.size, 0, none⟩) 1 1)) (w' := (W2.alloc (.cells (B8 e0) 24))) rfl rfl 20 rfl (exec_oneH _ rfl e0 hel rfl) ?_
              show wpAny _ _ _ _ _ _ { tmps := #[.slice pa xs.length pc, .agg mv, undef, .pointer (some ⟨w.heap.size, 0, none⟩), .pointer (some ⟨w.heap.size + 1, 0, none⟩), .pointer (some ⟨bd, 0, none⟩), .pointer (some ⟨bs, 0, none⟩), .pointer (some ⟨Bx, 0, none⟩), .agg mv, .agg dv, .slice pa xs.length pc, .func (.func 30) #[] #[.pointer (some ⟨bn, 0, none⟩)], .agg (CH (firstH xs x.val) 0 x.val), .pointer (some ⟨bs, 0, none⟩), undef, .pointer (some ⟨Bx, 33, none⟩), .int .u8 (x.val : Int), .pointer (some ⟨bd, x.val, none⟩), .int .u8 (dg : Int), .agg (B8 e0), .slice (some ⟨W2.heap.size, 0, none⟩) 1 1, undef, undef, undef], defers := [] } _
              refine wpAny_valueTo (i := 1) rfl rfl 14 rfl (by kernel_rfl) _ rfl v (W2.alloc (.cells (B8 e0) 24)) (by unfold execOp; simp [go_sem, hcv3]) ?_
              show wpAny _ _ _ _ _ _ { tmps := #[.slice pa xs.length pc, .agg mv, undef, .pointer (some ⟨w.heap.size, 0, none⟩), .pointer (some ⟨w.heap.size + 1, 0, none⟩), .pointer (some ⟨bd, 0, none⟩), .pointer (some ⟨bs, 0, none⟩), .pointer (some ⟨Bx, 0, none⟩), .agg mv, .agg dv, .slice pa xs.length pc, .func (.func 30) #[] #[.pointer (some ⟨bn, 0, none⟩)], .agg (CH (firstH xs x.val) 0 x.val), .pointer (some ⟨bs, 0, none⟩), v, .pointer (some ⟨Bx, 33, none⟩), .int .u8 (x.val : Int), .pointer (some ⟨bd, x.val, none⟩), .int .u8 (dg : Int), .agg (B8 e0), .slice (some ⟨W2.heap.size, 0, none⟩) 1 1, undef, undef, undef], defers := [] } _
              refine wpAny_valueTo (i := 8) rfl rfl 21 rfl (by kernel_rfl) _ rfl v' W4 (exec_moreH (v := v) (g := W2.heap.size) _ _ rfl rfl rfl (by exact hrun)) ?_
              show wpAny _ _ _ _ _ _ { tmps := #[.slice pa xs.length pc, .agg mv, undef, .pointer (some ⟨w.heap.size, 0, none⟩), .pointer (some ⟨w.heap.size + 1, 0, none⟩), .pointer (some ⟨bd, 0, none⟩), .pointer (some ⟨bs, 0, none⟩), .pointer (some ⟨Bx, 0, none⟩), .agg mv, .agg dv, .slice pa xs.length pc, .func (.func 30) #[] #[.pointer (some ⟨bn, 0, none⟩)], .agg (CH (firstH xs x.val) 0 x.val), .pointer (some ⟨bs, 0, none⟩), v, .pointer (some ⟨Bx, 33, none⟩), .int .u8 (x.val : Int), .pointer (some ⟨bd, x.val, none⟩), .int .u8 (dg : Int), .agg (B8 e0), .slice (some ⟨W2.heap.size, 0, none⟩) 1 1, v', undef, undef], defers := [] } _
              refine wpAny_valueTo (i := 9) rfl rfl 22 rfl (by kernel_rfl) _ rfl (.pointer (some ⟨bs, 0, none⟩)) W4 (by unfold execOp; simp [go_sem]) ?_
              show wpAny _ _ _ _ _ _ { tmps := #[.slice pa xs.length pc, .agg mv, undef, .pointer (some ⟨w.heap.size, 0, none⟩), .pointer (some ⟨w.heap.size + 1, 0, none⟩), .pointer (some ⟨bd, 0, none⟩), .pointer (some ⟨bs, 0, none⟩), .pointer (some ⟨Bx, 0, none⟩), .agg mv, .agg dv, .slice pa xs.length pc, .func (.func 30) #[] #[.pointer (some ⟨bn, 0, none⟩)], .agg (CH (firstH xs x.val) 0 x.val), .pointer (some ⟨bs, 0, none⟩), v, .pointer (some ⟨Bx, 33, none⟩), .int .u8 (x.val : Int), .pointer (some ⟨bd, x.val, none⟩), .int .u8 (dg : Int), .agg (B8 e0), .slice (some ⟨W2.heap.size, 0, none⟩) 1 1, v', .pointer (some ⟨bs, 0, none⟩), undef], defers := [] } _
              obtain ⟨g', c', rfl, _⟩ := hrow4.shape (by omega)
              have hsa : Lies (W2.alloc (.cells (B8 e0) 24)) bs #[v] 28 := hs2.alloc _
              have hs4 : Lies W4 bs #[v] 28 := (hg4.block bs hsa.lt (fun e => by have := (hI.row.block bs e.symm).1; omega)).trans hsa
              have hfin := sign_fin hI (by omega) (by omega) (by omega) (by omega) hBx hlx hg2 hrow2 he0 hrow4 hg4 W1.heap.size
              refine wpAny_oneOp (i := 10) (by kernel_rfl) _ rfl (wpOp_wp rfl rfl (wp_store22 _ _ rfl ⟨bs, 0, none⟩ rfl ⟨g', 0, none⟩ (pre.length + 1) c' rfl v (hs4.cell 0 (v := v) rfl) (hs4.free 0) ?_))
              exact ⟨by kernel_rfl, hfin.1, hfin.2.1, _, hfin.2.2⟩
  case done =>
    rintro DD ys W hD hys ⟨v, hI⟩ hK
    have hlen : ys.length = 35 := by have := congrArg List.length hys; simpa using this
    have hrow := hI.row
    rw [hlen, sigOf_all xs m ys hys] at hrow
    obtain ⟨gv, cv, rfl, _⟩ := hrow.shape (by omega)
    have ld1 := load_whole hI.s 1 rfl
    have st1 : (storeCells ⟨w.heap.size + 1, 0, none⟩ [.slice (some ⟨gv, 0, none⟩) 35 cv] 0).run Tryz.prog W = .ok () (W.setRow (w.heap.size + 1) #[.slice (some ⟨gv, 0, none⟩) 35 cv]) :=
      run_storeCells_from (P := Tryz.prog) (w.heap.size + 1) 28 [.slice (some ⟨gv, 0, none⟩) 35 cv] 0 #[.slice none 0 0] W hI.r rfl (fun u (hu : u ∈ [_]) => by rw [List.mem_singleton] at hu; rw [hu]; rfl)
    gi_wp2
    have hK5 : (W.setRow (w.heap.size + 1) #[.slice (some ⟨gv, 0, none⟩) 35 cv]).heap[DD]? = some (.deferred (some [])) := by
      rw [setRow_other W (w.heap.size + 1) DD _ (by omega)]; exact hK
    have hr5 : Lies (W.setRow (w.heap.size + 1) #[.slice (some ⟨gv, 0, none⟩) 35 cv]) (w.heap.size + 1) #[.slice (some ⟨gv, 0, none⟩) 35 cv] 28 := hI.r.setRow _
    have hgs : W.grownBy (W.setRow (w.heap.size + 1) #[.slice (some ⟨gv, 0, none⟩) 35 cv]) (some (w.heap.size + 1)) := ⟨rfl, rfl, rfl, by rw [size_setRow]; exact Nat.le_refl _, fun k _ hne => setRow_other W _ k _ (fun e => hne (by rw [e]))⟩
    have hrow5 : RowH W1.heap.size 35 (signL xs m) (.slice (some ⟨gv, 0, none⟩) 35 cv) (W.setRow (w.heap.size + 1) #[.slice (some ⟨gv, 0, none⟩) 35 cv]) := hrow.kept hgs (fun y hy e => by have := (hrow.block y hy).1; have := Option.some.inj e; omega)
    have hb5 : Below w.heap.size w (W.setRow (w.heap.size + 1) #[.slice (some ⟨gv, 0, none⟩) 35 cv]) := below_setRow hI.below _ _ (by omega)
    clear st1 ld1
    generalize W.setRow (w.heap.size + 1) #[.slice (some ⟨gv, 0, none⟩) 35 cv] = W5 at hK5 hr5 hrow5 hb5 ⊢
    refine ⟨by simp, .inl ⟨_, _, rfl, run_takeDeferred hK5, ?_⟩⟩
    have hput := grownBy_putObj' W5 DD (.deferred none)
    have hr6 := lies_own hr5 hput (fun r e => by cases e; exact ⟨_, hK5, rfl⟩)
    have hrow6 := rowH_own hrow5 hput (fun r e => by cases e; exact ⟨_, hK5, rfl⟩)
    have hb6 := hb5.grown hput hb5.size (fun y e => by have := Option.some.inj e; omega)
    refine ⟨_, results_cell_row (p := 4) (ty := 28) (by kernel_rfl) _ _ (w.heap.size + 1) 28 #[.slice (some ⟨gv, 0, none⟩) 35 cv] (0, 0) _ rfl hr6 Tryz.underlying28 rfl (by kernel_rfl), _, rfl, ⟨hrow6.1, ?_⟩, hb6⟩
    rcases hrow6.2 with h | ⟨g', cap', cur', h1', h2', h3'⟩
    · exact .inl h
    · exact .inr ⟨g', cap', cur', h1', by omega, h3'⟩
  case stop =>
    rintro DD c pre W _ _ h _
    exact h.elim
end Go.Proofs.YtgempifedhiknaaGreatDoor
