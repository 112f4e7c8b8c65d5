/-
  Two rows of 35 hashes, in two blocks of the call's own, lie apart (41).
-/
import Derived.Test.YtgempifedhiknaaGreatDoorAph
import Derived.Deep.DeepMust
import Derived.Deep.Cut
import Derived.Lib.QuietBelow
import Derived.BigQuiet
namespace Go.Proofs.YtgempifedhiknaaGreatDoor
open Go.RowKit Go.Shelf Sha Go.Sort

/-- Two hashes that are one: told so, in a region that only reads. -/
theorem wpQuiet_same24 {ops : Array Oper} {rest : List Oper} {o : Oper} {a : Act} {C : World → Prop} {Q : Act → Prop} (hw : Region.wanted o (yielded ops a.tmps) = true) (x y : Operand) (ho : o.op = .binOp .eql 24 x y 24)
    (l : List UInt8) (hl : l.length = 32) (hx : a.eval x = .agg (B8 l)) (hy : a.eval y = .agg (B8 l))
    (h : wpQuiet Tryz.prog ops C Q rest (a.put o.dst (.bool true))) : wpQuiet Tryz.prog ops C Q (o :: rest) a := by
  have heq := equal_same l hl
  have hgu := guard26
  unfold wpQuiet
  rw [if_pos hw]
  refine ⟨.bool true, fun w' _ => ?_, h⟩
  unfold Oper.quietAt execOp
  generalize a.eval = ρ at hx hy
  generalize B8 l = X at hx hy heq
  simp [ho, hx, hy, go_sem, heq, hgu]
theorem wpOp_storeMid {ops : Array Oper} {Q : Exit → Act → World → Prop} {i : Nat} {o : Oper} {a : Act} {w : World} {K : Act → World → Prop} (hi : ops[i]? = some o) (hg : o.guard = none) (hd : o.dst = none) (x y : Operand) (ho : o.op = .store 24 x y)
    (b off : Nat) (l : List UInt8) (hl : l.length = 32) (hx : a.eval x = .pointer (some ⟨b, off, none⟩)) (hy : a.eval y = .agg (B8 l)) (ht : w.there b off 32) (h : K a (w.setCells b off (B8 l).toList)) : wpOp Tryz.prog ops Q i K a w := by
  refine wpOp_wp hi hg (wp_store_mid 24 x y ho b off (B8 l) hx hy (by rw [B8_size, hl]; exact ht) (by rw [B8_size, hl]; exact info24z) (B8_one _) ?_)
  rw [hd]
  exact h
theorem wpList_storeMid {ops : Array Oper} {rest : List Oper} {Q : Exit → Act → World → Prop} {o : Oper} {a : Act} {w : World} (hg : o.guard = none) (x y : Operand) (ho : o.op = .store 24 x y)
    (b off : Nat) (l : List UInt8) (hl : l.length = 32) (hx : a.eval x = .pointer (some ⟨b, off, none⟩)) (hy : a.eval y = .agg (B8 l)) (ht : w.there b off 32) (h : wpList Tryz.prog ops Q rest (a.put o.dst undef) (w.setCells b off (B8 l).toList)) : wpList Tryz.prog ops Q (o :: rest) a w :=
  wpList_store_mid hg 24 x y ho b off (B8 l) hx hy (by rw [B8_size, hl]; exact ht) (by rw [B8_size, hl]; exact info24z) (B8_one _) h
theorem hash_has {W : World} {g n : Nat} {f : Nat → List UInt8} (h : Has W g n f) (hf : ∀ i, (f i).length = 32) (hg : g < W.heap.size) (i : Nat) (hi : i < n) : HashAt W g (i * 32) (f i) := ⟨hf i, h i hi, hg⟩
set_option maxRecDepth 100000 in
set_option maxHeartbeats 8000000 in
theorem flat41 (w : World) (L cL B : Nat) (G C : Nat → Nat) (hs : Stt w L B G C) (hb : ∀ k, k < 2 → Blk w (G k) (C k)) :
    Calls Tryz.prog 41 #[.slice (some ⟨L, 0, none⟩) 2 cL] w fun e w' => e = .returned (.bool true) ∧ Below B w w' ∧ ∀ g, g < w.heap.size → g ≠ G 0 → g ≠ G 1 → w'.heap[g]? = w.heap[g]? := by
  have HS := Lib.hid hs
  have hbs0 : Bs w w L B G C := ⟨Below.refl _ _, fun _ _ _ _ => rfl, hb⟩
  have HB0 := Lib.hid hbs0
  clear hs hb hbs0
  go_enter Tryz.func41, Tryz.ntmps41
  go_wp2_with fail
  go_loopw [3] (fun i W => ∃ k : Nat, k ≤ 2 ∧ i = .int .i64 k ∧ Bs w W L B G C ∧ ∀ i, i < k → Has W (G i) 35 (mkH i)) (fun i _ => 2 - (intOf i).toNat)
  case atStart => exact ⟨0, by omega, rfl, HB0.out, fun i hi => absurd hi (by omega)⟩
  case round =>
    obtain ⟨k, hk, rfl, hbs, hhas⟩ := hrel
    have HBS := Lib.hid (And.intro hbs hhas)
    clear hbs hhas
    by_cases hlt : k < 2
    · as_aux_lemma =>
      have m1 : (k : Int) < 2 := by omega
      have m0 : (0 : Int) ≤ (k : Int) := by omega
      have HLT := Lib.hid hlt
      clear hlt hk
      go_wp2_with fail
      go_loopw [4] (fun i W => ∃ j : Nat, j ≤ 35 ∧ i = .int .i64 j ∧ Bs w W L B G C ∧ (∀ i, i < k → Has W (G i) 35 (mkH i)) ∧ Has W (G k) j (mkH k)) (fun i _ => 35 - (intOf i).toNat)
      case atStart => exact ⟨0, by omega, rfl, HBS.out.1, HBS.out.2, Has.zero _ _ _⟩
      case round =>
        obtain ⟨j, hj, rfl, hbs, hhas, hcur0⟩ := hrel
        have c1 := hbs.cell HS.out k HLT.out
        by_cases hlt : j < 35
        · have m2 : (j : Int) < 35 := by omega
          have m3 : (0 : Int) ≤ (j : Int) := by omega
          have hmk := mkH_any k j (by have := HLT.out; omega) (by omega) wr.drew
          have HR := Lib.hid (And.intro hbs (And.intro hhas (And.intro hcur0 hlt)))
          have HMK := Lib.hid hmk
          clear hbs hhas hcur0 hlt hj hmk
          go_upto_region 7 with fail
          refine wp_region_held (S := fun V => V.cell? ⟨L, k, none⟩ = some (.slice (some ⟨G k, 0, none⟩) 35 (C k))) (by kernel_rfl) ?_
          change wpAnyH _ _ _ _ _ 10 _ _ (World.drew wr)
          have hcur : wr.drew.cell? ⟨L, k, none⟩ = some (.slice (some ⟨G k, 0, none⟩) 35 (C k)) := c1
          have hmk := HMK.out
          refine held_take (i := 0) (v := .slice (some ⟨L, 0, none⟩) 2 cL) rfl 31 rfl (by kernel_rfl) (by kernel_rfl) (by kernel_rfl) (fun _ _ _ h => h) (by rfl) (by intro w' hS'; unfold execOp; simp [go_sem]) hcur _ rfl ?_
          simp only [Act.put, List.setIfInBounds_toArray, List.set_cons_zero, List.set_cons_succ]
          refine held_take (i := 1) (v := .int .i64 k) rfl 32 rfl (by kernel_rfl) (by kernel_rfl) (by kernel_rfl) (fun _ _ _ h => h) (by rfl) (by intro w' hS'; unfold execOp; simp [go_sem]) hcur _ rfl ?_
          simp only [Act.put, List.setIfInBounds_toArray, List.set_cons_zero, List.set_cons_succ]
          refine held_take (i := 2) (v := .pointer (some ⟨L, k, none⟩)) rfl 33 rfl (by kernel_rfl) (by kernel_rfl) (by kernel_rfl) (fun _ _ _ h => h) (by rfl) (by intro w' hS'; unfold execOp; simp [go_sem, m0, m1]) hcur _ rfl ?_
          simp only [Act.put, List.setIfInBounds_toArray, List.set_cons_zero, List.set_cons_succ]
          refine held_take (i := 3) (v := .slice (some ⟨G k, 0, none⟩) 35 (C k)) rfl 34 rfl (by kernel_rfl) (by kernel_rfl) (by kernel_rfl) (fun _ _ _ h => h) (by rfl) (by intro w' hS'; have h1 : w'.cell? ⟨L, k, none⟩ = some (.slice (some ⟨G k, 0, none⟩) 35 (C k)) := hS'; unfold execOp; simp [go_sem, h1]) hcur _ rfl ?_
          simp only [Act.put, List.setIfInBounds_toArray, List.set_cons_zero, List.set_cons_succ]
          refine held_take (i := 4) (v := .int .i64 j) rfl 35 rfl (by kernel_rfl) (by kernel_rfl) (by kernel_rfl) (fun _ _ _ h => h) (by rfl) (by intro w' hS'; unfold execOp; simp [go_sem]) hcur _ rfl ?_
          simp only [Act.put, List.setIfInBounds_toArray, List.set_cons_zero, List.set_cons_succ]
          refine held_take (i := 5) (v := .int .i64 k) rfl 36 rfl (by kernel_rfl) (by kernel_rfl) (by kernel_rfl) (fun _ _ _ h => h) (by rfl) (by intro w' hS'; unfold execOp; simp [go_sem]) hcur _ rfl ?_
          simp only [Act.put, List.setIfInBounds_toArray, List.set_cons_zero, List.set_cons_succ]
          refine held_take (i := 6) (v := .int .i64 j) rfl 37 rfl (by kernel_rfl) (by kernel_rfl) (by kernel_rfl) (fun _ _ _ h => h) (by rfl) (by intro w' hS'; unfold execOp; simp [go_sem]) hcur _ rfl ?_
          simp only [Act.put, List.setIfInBounds_toArray, List.set_cons_zero, List.set_cons_succ]
          refine held_one (i := 7) (by kernel_rfl) _ rfl (wpOp_callTo rfl rfl 38 rfl 72 #[.int .i64 k, .int .i64 j] (by unfold execOp; simp [go_sem]) (fun v w' => v = .agg (B8 (mkH k j)) ∧ Below wr.drew.heap.size wr.drew w') (hmk.mono fun e w' hh => ⟨_, hh.1, rfl, hh.2⟩) ?_)
          rintro v5 w5 ⟨rfl, hb5⟩
          have hb5' : Below wr.heap.size wr w5 := ⟨hb5.os, hb5.tape, hb5.output, hb5.size, hb5.block⟩
          have hbs5 : Bs w w5 L B G C := HR.out.1.calls HS.out hb5'
          have hcur5 := hbs5.cell HS.out k HLT.out
          refine ⟨hcur5, ?_⟩
          simp only [Act.put, List.setIfInBounds_toArray, List.set_cons_zero, List.set_cons_succ]
          refine held_take (i := 8) (v := .pointer (some ⟨G k, j * 32, none⟩)) rfl 39 rfl (by kernel_rfl) (by kernel_rfl) (by kernel_rfl) (fun _ _ _ h => h) (by rfl) (by intro w' hS'; unfold execOp; simp [go_sem, m2, m3]) hcur5 _ rfl ?_
          simp only [Act.put, List.setIfInBounds_toArray, List.set_cons_zero, List.set_cons_succ]
          have hbs7 : Bs w (w5.setCells (G k) (j * 32) (B8 (mkH k j)).toList) L B G C := hbs5.mark HS.out HLT.out _ _
          refine held_one (i := 9) (by kernel_rfl) _ rfl (wpOp_storeMid rfl rfl rfl (.tmp 39) (.tmp 38) rfl (G k) (j * 32) (mkH k j) (mkH_length k j) rfl rfl (hbs5.there HS.out HLT.out HR.out.2.2.2) ⟨hbs7.cell HS.out k HLT.out, ?_⟩)
          refine wpAnyH_done (by kernel_rfl) ?_ _
          have H7 := Lib.hid (show Bs w (w5.setCells (G k) (j * 32) (B8 (mkH k j)).toList) L B G C ∧ (∀ i, i < k → Has (w5.setCells (G k) (j * 32) (B8 (mkH k j)).toList) (G i) 35 (mkH i)) ∧ Has (w5.setCells (G k) (j * 32) (B8 (mkH k j)).toList) (G k) (j + 1) (mkH k) from
            ⟨hbs7, fun i hi => ((HR.out.2.1 i hi).below hb5' (HR.out.1.blk i (by have := HLT.out; omega)).lt).setOther (HS.out.apart (by have := HLT.out; omega) HLT.out (by omega)) _ _,
             (HR.out.2.2.1.below hb5' (HR.out.1.blk k HLT.out).lt).step (hbs5.blk k HLT.out) (by have := HR.out.2.2.2; have := (HS.out.cap k HLT.out).1; omega) (mkH_length k)⟩)
          generalize w5.setCells (G k) (j * 32) (B8 (mkH k j)).toList = W7 at H7 ⊢
          clear hbs7 hbs5 hcur5 hb5 hb5' hcur hmk c1
          go_wp2_with fail
          refine ⟨⟨j + 1, by have := HR.out.2.2.2; omega, by go_num, H7.out⟩, ?_⟩
          have := HR.out.2.2.2
          simp [intOf]; omega
        · have hj2 : j = 35 := by omega
          rw [hj2] at hcur0
          have m2 : decide ((j : Int) < 35) = false := by simp; omega
          have HX := Lib.hid (And.intro hbs (And.intro hhas hcur0))
          clear hbs hhas hcur0 hlt hj2 hj
          go_wp2_with fail
          refine ⟨⟨k + 1, by have := HLT.out; omega, by go_num, HX.out.1, fun i hi => ?_⟩, ?_⟩
          · by_cases e : i = k
            · rw [e]; exact HX.out.2.2
            · exact HX.out.2.1 i (by omega)
          · have := HLT.out
            simp [intOf]; omega
    · as_aux_lemma =>
      obtain rfl : k = 2 := by omega
      rw [show ((2 : Nat) : Int) = 2 from rfl]
      have m1 : decide ((2 : Int) < 2) = false := by decide
      clear hlt hk
      have hms : (Instr.makeSlice 33 (.int .i64 2) (.int .i64 2)).run Tryz.prog wr = .ok (.slice (some ⟨wr.heap.size, 0, none⟩) 2 2) (wr.alloc (.cells #[.slice none 0 0, .slice none 0 0] 26)) := by kernel_rfl
      have hbW : Below wr.heap.size wr (wr.alloc (.cells #[.slice none 0 0, .slice none 0 0] 26)) := (Below.refl _ _).alloc (Nat.le_refl _) _
      have hp0 : Ph w (wr.alloc (.cells #[.slice none 0 0, .slice none 0 0] 26)) L B wr.heap.size 99 G C (fun _ => 0) (fun _ => 0) (fun _ => .slice none 0 0) 0 :=
        ⟨HBS.out.1.calls HS.out hbW, fun i hi => (HBS.out.2 i hi).below hbW (HBS.out.1.blk i hi).lt, by simpa [rowS, cellS] using Lies.new wr #[.slice none 0 0, .slice none 0 0] 26, fun i hi => absurd hi (by omega)⟩
      have hSW : w.heap.size ≤ wr.heap.size := HBS.out.1.size
      have hSG : ∀ i, i < 2 → wr.heap.size ≠ G i := fun i hi => by have := (HBS.out.1.blk i hi).lt; omega
      go_upto_region 9 with fail
      generalize wr.alloc (.cells #[.slice none 0 0, .slice none 0 0] 26) = W1 at hp0 ⊢
      clear hms hbW
      obtain ⟨S, hS⟩ : ∃ S, S = wr.heap.size := ⟨_, rfl⟩
      rw [← hS] at hp0 hSW hSG ⊢
      have HSF := Lib.hid (And.intro hSW hSG)
      have HP0 := Lib.hid hp0
      clear hp0 hSW hSG hS HBS
      go_wp2_with fail
      go_loopw [6] (fun i W => ∃ k : Nat, k ≤ 2 ∧ i = .int .i64 k ∧ ∃ H D, Ph w W L B S 99 G C H D (fun _ => .slice none 0 0) k) (fun i _ => 2 - (intOf i).toNat)
      case atStart => exact ⟨0, by omega, rfl, _, _, HP0.out⟩
      case round =>
        obtain ⟨k, hk, rfl, H, D, hp⟩ := hrel
        by_cases hlt : k < 2
        · as_aux_lemma =>
          have m1 : (k : Int) < 2 := by omega
          have m0 : (0 : Int) ≤ (k : Int) := by omega
          have c1 := hp.bs.cell HS.out k hlt
          have HLT := Lib.hid hlt
          have HP := Lib.hid hp
          clear hlt hk hp
          go_wp2_with fail
          go_loopw [7, 8] (fun g i W => ∃ j h d : Nat, j ≤ 64 ∧ i = .int .i64 j ∧ g = .slice (some ⟨h, 0, none⟩) (35 + j) d ∧ Gr w W L B S G C H D (fun _ => .slice none 0 0) k j h d) (fun _ i _ => 64 - (intOf i).toNat)
          case atStart => exact ⟨0, G k, C k, by omega, rfl, rfl, Gr.start HP.out HS.out HLT.out HSF.out.2⟩
          case round =>
            clear c1
            obtain ⟨j, h, d, hj, rfl, rfl, hgr⟩ := hrel
            by_cases hlt : j < 64
            · have m2 : (j : Int) < 64 := by omega
              have c1 := hgr.ph.bs.cell HS.out k HLT.out
              have e35 : IntKind.i64.wrap (35 + (j : Int)) = ((35 + j : Nat) : Int) := by rw [IntWalk.i64_in _ (by omega)]; omega
              have hmk := mkH_any k (35 + j) (by have := HLT.out; omega) (by omega) wr
              have HG := Lib.hid (And.intro hgr hlt)
              have HMK := Lib.hid hmk
              clear hgr hmk hlt hj
              go_wp2_with (first
                | (go_at_call 72; refine HMK.out.mono ?_; rintro e w5 ⟨rfl, hb5⟩
                   have hb6 : Below wr.heap.size wr (w5.alloc (.cells (B8 (mkH k (35 + j))) 24)) := hb5.alloc hb5.size _
                   have hg6 := HG.out.1.calls HS.out hb6
                   have H6 := Lib.hid hg6
                   have HSZ := Lib.hid (show B ≤ (w5.alloc (.cells (B8 (mkH k (35 + j))) 24)).heap.size from Nat.le_trans HS.out.bb hg6.ph.bs.size)
                   have HSRC := Lib.hid (src_new w5 (mkH k (35 + j)))
                   clear hb5 hb6 hg6)
                | (refine wpList_oneM rfl _ rfl (mkH k (35 + j)) (mkH_length _ _) rfl ?_)
                | (at_builtin; go_must (refine wpList_moreM rfl _ _ rfl H6.out.row (by have := HG.out.2; omega) HSZ.out w5.heap.size 1 1 (mkH k (35 + j)) (mkH_length _ _) (by omega) HSRC.out rfl rfl ?_)
                   intro g' c' w7 hrow hch
                   have H7 := Lib.hid (H6.out.step HS.out HLT.out hrow hch)
                   clear hrow hch))
              refine ⟨⟨j + 1, g', c', by have := HG.out.2; omega, by go_num, rfl, H7.out⟩, ?_⟩
              have := HG.out.2
              simp [intOf]; omega
            · obtain rfl : j = 64 := by omega
              have m2 : decide (((64 : Nat) : Int) < 64) = false := by decide
              have hl := hgr.ph.lies
              have hkl := HLT.out
              have cS : wr.cell? ⟨S, k, none⟩ = some (cellS H D (fun _ => .slice none 0 0) k k) := hl.cell k (by
                have : k = 0 ∨ k = 1 := by omega
                rcases this with rfl | rfl <;> rfl)
              have fS := hl.free k
              have hst := hgr.ph.store HS.out HSF.out.1 HSF.out.2 HLT.out (has_row (mkH_length k) hgr.row) (blk_row hgr.row).1.lt hgr.nS hgr.nG (d := d)
              have HX := Lib.hid hst
              clear hgr hl hst hlt hj
              rw [show 35 + 64 = 99 from rfl]
              go_wp2_with fail
              refine ⟨⟨k + 1, by have := HLT.out; omega, by go_num, _, _, HX.out⟩, ?_⟩
              have := HLT.out
              simp [intOf]; omega
        · as_aux_lemma =>
          obtain rfl : k = 2 := by omega
          rw [show ((2 : Nat) : Int) = 2 from rfl]
          have m1 : decide ((2 : Int) < 2) = false := by decide
          have HP := Lib.hid hp
          obtain ⟨W2, hW2⟩ : ∃ W2, W2 = wr := ⟨_, rfl⟩
          have hb2 : Below W2.heap.size W2 wr := by rw [hW2]; exact Below.refl _ _
          rw [← hW2] at HP
          have HB2 := Lib.hid hb2
          clear hlt hk hp hW2 hb2
          go_wp2_with fail
          go_loopw [9] (fun i W => ∃ k : Nat, k ≤ 2 ∧ i = .int .i64 k ∧ Below W2.heap.size W2 W) (fun i _ => 2 - (intOf i).toNat)
          case atStart => exact ⟨0, by omega, rfl, HB2.out⟩
          case round =>
            clear HB2
            obtain ⟨k, hk, rfl, hb⟩ := hrel
            by_cases hlt : k < 2
            · as_aux_lemma =>
              have m1 : (k : Int) < 2 := by omega
              have m0 : (0 : Int) ≤ (k : Int) := by omega
              have HLT := Lib.hid hlt
              clear hlt hk
              have HB := Lib.hid hb
              clear hb
              go_wp2_with fail
              go_loopw [10] (fun i W => ∃ j : Nat, j ≤ 99 ∧ i = .int .i64 j ∧ Below W2.heap.size W2 W) (fun i _ => 99 - (intOf i).toNat)
              case atStart => exact ⟨0, by omega, rfl, HB.out⟩
              case round =>
                clear HB
                obtain ⟨j, hj, rfl, hb⟩ := hrel
                have hp := HP.out.calls HS.out hb
                have cS := hp.cell k HLT.out
                by_cases hlt : j < 99
                · have cL := hp.bs.cell HS.out k HLT.out
                  have m2 : (j : Int) < 99 := by omega
                  have m3 : (0 : Int) ≤ (j : Int) := by omega
                  have h1 := hash_has (hp.got k HLT.out).1 (mkH_length k) (hp.got k HLT.out).2.1 j hlt
                  have hmk := fun W => mkH_any k j (by have := HLT.out; omega) (by omega) W
                  have rS := fun d os => cell_regrown cS d os
                  have rL := fun d os => cell_regrown cL d os
                  by_cases hl : j < 35
                  · as_aux_lemma =>
                    have h2 := hash_has (hp.has k HLT.out) (mkH_length k) (hp.bs.blk k HLT.out).lt j hl
                    have m4 : (j : Int) < 35 := by omega
                    generalize mkH k j = X at h1 h2 hmk
                    have X1 := Lib.hid h1
                    have X2 := Lib.hid h2
                    have HMK := Lib.hid hmk
                    have HB := Lib.hid (And.intro hb hlt)
                    clear h1 h2 hmk hb hp hl hlt hj
                    go_upto_region 24 with fail
                    refine wp_region_quiet_below (by kernel_rfl) (by kernel_rfl) ?_
                    iterate 6 (first | go_big_quiet_step (fail) | quiet_step (fail))
                    refine wpQuiet_load26 (by rfl) _ rfl (H k) (j * 32) rfl X X1.out ?_
                    iterate 2 (first | go_big_quiet_step (fail) | quiet_step (fail))
                    quiet_step ((go_at_call 72; with_reducible exact Calls.regrown_of (HMK.out _)))
                    refine wpQuiet_same24 (by rfl) _ _ rfl X X1.out.1 rfl rfl ?_
                    iterate 16 (first | go_big_quiet_step (fail) | quiet_step (fail))
                    refine wpQuiet_load26 (by rfl) _ rfl (G k) (j * 32) rfl X X2.out ?_
                    iterate 2 (first | go_big_quiet_step (fail) | quiet_step (fail))
                    quiet_step ((go_at_call 72; with_reducible exact Calls.regrown_of (HMK.out _)))
                    refine wpQuiet_same24 (by rfl) _ _ rfl X X1.out.1 rfl rfl ?_
                    iterate 3 (first | go_big_quiet_step (fail) | quiet_step (fail))
                    refine wpQuiet_nil ?_
                    rintro w5 ⟨p, hw5⟩
                    have HB5 : Hid (Below W2.heap.size W2 w5) := Lib.hid (by rw [hw5]; exact HB.out.1.trans ((below_regrown wr p.d p.os).mono HB.out.1.size))
                    clear hw5 X1 X2
                    go_wp2_with fail
                    refine ⟨⟨j + 1, by have := HB.out.2; omega, by go_num, HB5.out⟩, ?_⟩
                    have := HB.out.2
                    simp [intOf]; omega
                  · as_aux_lemma =>
                    have m4 : decide (j < 35) = false := by simp; omega
                    have m5 : decide ((j : Int) < 35) = false := by simp; omega
                    generalize mkH k j = X at h1 hmk
                    have X1 := Lib.hid h1
                    have HMK := Lib.hid hmk
                    have HB := Lib.hid (And.intro hb hlt)
                    clear h1 hmk hb hp hl hlt hj
                    go_upto_region 24 with fail
                    refine wp_region_quiet_below (by kernel_rfl) (by kernel_rfl) ?_
                    iterate 6 (first | go_big_quiet_step (fail) | quiet_step (fail))
                    refine wpQuiet_load26 (by rfl) _ rfl (H k) (j * 32) rfl X X1.out ?_
                    iterate 2 (first | go_big_quiet_step (fail) | quiet_step (fail))
                    quiet_step ((go_at_call 72; with_reducible exact Calls.regrown_of (HMK.out _)))
                    refine wpQuiet_same24 (by rfl) _ _ rfl X X1.out.1 rfl rfl ?_
                    iterate 24 (first | go_big_quiet_step (fail) | quiet_step (fail))
                    refine wpQuiet_nil ?_
                    rintro w5 ⟨p, hw5⟩
                    have HB5 : Hid (Below W2.heap.size W2 w5) := Lib.hid (by rw [hw5]; exact HB.out.1.trans ((below_regrown wr p.d p.os).mono HB.out.1.size))
                    clear hw5 X1
                    go_wp2_with fail
                    refine ⟨⟨j + 1, by have := HB.out.2; omega, by go_num, HB5.out⟩, ?_⟩
                    have := HB.out.2
                    simp [intOf]; omega
                · obtain rfl : j = 99 := by omega
                  have m2 : decide (((99 : Nat) : Int) < 99) = false := by decide
                  have HB := Lib.hid hb
                  clear hb hp hlt hj
                  go_wp2_with fail
                  refine ⟨⟨k + 1, by have := HLT.out; omega, by go_num, HB.out⟩, ?_⟩
                  have := HLT.out
                  simp [intOf]; omega
            · as_aux_lemma =>
              obtain rfl : k = 2 := by omega
              rw [show ((2 : Nat) : Int) = 2 from rfl]
              have m1 : decide ((2 : Int) < 2) = false := by decide
              have HPB := Lib.hid ((HP.out.calls HS.out hb).again 35 (fun _ => 0) (fun _ => 0))
              clear hlt hk hb
              go_wp2_with fail
              go_loopw [11] (fun i W => ∃ k : Nat, k ≤ 2 ∧ i = .int .i64 k ∧ ∃ H' D', Ph w W L B S 35 G C H' D' (fun i => .slice (some ⟨H i, 0, none⟩) 99 (D i)) k) (fun i _ => 2 - (intOf i).toNat)
              case atStart => exact ⟨0, by omega, rfl, _, _, HPB.out⟩
              case round =>
                clear HPB
                obtain ⟨k, hk, rfl, H', D', hp⟩ := hrel
                by_cases hlt : k < 2
                · as_aux_lemma =>
                  have m1 : (k : Int) < 2 := by omega
                  have m0 : (0 : Int) ≤ (k : Int) := by omega
                  have HLT := Lib.hid hlt
                  obtain ⟨V, hV⟩ : ∃ V, V = wr := ⟨_, rfl⟩
                  have hq : Ph w V L B S 35 G C H' D' (fun i => .slice (some ⟨H i, 0, none⟩) 99 (D i)) k := by rw [hV]; exact hp
                  have HQ := Lib.hid hq
                  clear hlt hk hp hq
                  obtain ⟨cs, hcs, hmk⟩ := make64h wr
                  have hb4 : Below wr.heap.size V (wr.alloc (.cells cs 24)) := by rw [hV]; exact (Below.refl _ _).alloc (Nat.le_refl _) _
                  have hblk : Blk (wr.alloc (.cells cs 24)) wr.heap.size 64 := ⟨cs, Lies.new _ _ _, hcs⟩
                  have H4 := Lib.hid (And.intro hb4 (And.intro hblk (Has.zero (wr.alloc (.cells cs 24)) wr.heap.size (mkH (k + 2)))))
                  clear hcs hb4 hblk
                  go_upto_region 30 with fail
                  clear hmk
                  generalize wr.alloc (.cells cs 24) = W4 at H4 ⊢
                  obtain ⟨M, hM⟩ : ∃ M, M = wr.heap.size := ⟨_, rfl⟩
                  rw [← hM] at H4 ⊢
                  have HM := Lib.hid (show M = V.heap.size by rw [hV]; exact hM)
                  clear hM hV
                  go_wp2_with fail
                  go_loopw [13] (fun i W => ∃ j : Nat, j ≤ 64 ∧ i = .int .i64 j ∧ Below M V W ∧ Blk W M 64 ∧ Has W M j (mkH (k + 2))) (fun i _ => 64 - (intOf i).toNat)
                  case atStart => exact ⟨0, by omega, rfl, H4.out⟩
                  case round =>
                    clear H4
                    obtain ⟨j, hj, rfl, hb, hbl, hhas⟩ := hrel
                    by_cases hlt : j < 64
                    · as_aux_lemma =>
                      have m2 : (j : Int) < 64 := by omega
                      have m3 : (0 : Int) ≤ (j : Int) := by omega
                      have e2 : IntKind.i64.wrap ((k : Int) + 2) = ((k + 2 : Nat) : Int) := by rw [IntWalk.i64_in _ (by omega)]; omega
                      have hmk := mkH_any (k + 2) j (by have := HLT.out; omega) (by omega) wr
                      have HG := Lib.hid (And.intro hb (And.intro hbl (And.intro hhas hlt)))
                      have HMK := Lib.hid hmk
                      clear hb hbl hhas hmk hlt hj
                      go_wp2_with (first
                        | (go_at_call 72; refine HMK.out.mono ?_; rintro e w5 ⟨rfl, hb5⟩
                           have H5 := Lib.hid (show Below M V w5 ∧ Blk w5 M 64 ∧ Has w5 M j (mkH (k + 2)) from ⟨HG.out.1.trans (hb5.mono (Nat.le_of_lt HG.out.2.1.lt)), HG.out.2.1.below hb5 HG.out.2.1.lt, HG.out.2.2.1.below hb5 HG.out.2.1.lt⟩)
                           clear hb5)
                        | (refine wpList_storeMid rfl _ _ rfl M (j * 32) (mkH (k + 2) j) (mkH_length _ _) rfl rfl (H5.out.2.1.there j HG.out.2.2.2) ?_
                           have H7 := Lib.hid (show Below M V (w5.setCells M (j * 32) (B8 (mkH (k + 2) j)).toList) ∧ Blk (w5.setCells M (j * 32) (B8 (mkH (k + 2) j)).toList) M 64 ∧ Has (w5.setCells M (j * 32) (B8 (mkH (k + 2) j)).toList) M (j + 1) (mkH (k + 2)) from
                             ⟨below_setCellsA (Nat.le_refl _) _ _ _ H5.out.1, H5.out.2.1.setCells _ _, H5.out.2.2.step H5.out.2.1 HG.out.2.2.2 (mkH_length _)⟩)
                           generalize w5.setCells M (j * 32) (B8 (mkH (k + 2) j)).toList = w7 at H7 ⊢))
                      refine ⟨⟨j + 1, by have := HG.out.2.2.2; omega, by go_num, H7.out⟩, ?_⟩
                      have := HG.out.2.2.2
                      simp [intOf]; omega
                    · as_aux_lemma =>
                      obtain rfl : j = 64 := by omega
                      have m2 : decide (((64 : Nat) : Int) < 64) = false := by decide
                      have hpw := HQ.out.calls HS.out (by rw [← HM.out]; exact hb)
                      have c1 := hpw.bs.cell HS.out k HLT.out
                      have HX := Lib.hid (And.intro hpw (src_has (mkH_length (k + 2)) hhas))
                      have hrow := Lib.hid (row_has (B := B) (mkH_length k) (hpw.bs.blk k HLT.out) (hpw.has k HLT.out) (HS.out.base k HLT.out).1 (HS.out.cap k HLT.out).1 (HS.out.cap k HLT.out).2)
                      have HSZ := Lib.hid (show B ≤ wr.heap.size from Nat.le_trans HS.out.bb hpw.bs.size)
                      clear hpw hb hbl hhas hlt hj
                      go_wp2_with (first
                        | (at_builtin; go_must (refine wpList_moreM rfl _ _ rfl hrow.out (by omega) HSZ.out M 64 64 (flatF (mkH (k + 2)) 64) (flatF_length (mkH_length _) 64) (by omega) HX.out.2 rfl rfl ?_)
                           intro g' c' w7 hr7 hch
                           have hgr := HX.out.1.grow HS.out HSF.out.2 HLT.out (mkH_length _) hr7 hch
                           have hkl := HLT.out
                           have cS : w7.cell? ⟨S, k, none⟩ = some (cellS H' D' (fun i => .slice (some ⟨H i, 0, none⟩) 99 (D i)) k k) := hgr.1.lies.cell k (by
                             have : k = 0 ∨ k = 1 := by omega
                             rcases this with rfl | rfl <;> rfl)
                           have fS := hgr.1.lies.free k
                           have hst := hgr.1.store HS.out HSF.out.1 HSF.out.2 HLT.out hgr.2.1 hgr.2.2.1 hgr.2.2.2.1 hgr.2.2.2.2 (d := c')
                           have H9 := Lib.hid hst
                           clear hgr hst hr7 hch hkl))
                      refine ⟨⟨k + 1, by have := HLT.out; omega, by go_num, _, _, H9.out⟩, ?_⟩
                      have := HLT.out
                      simp [intOf]; omega
                · as_aux_lemma =>
                  obtain rfl : k = 2 := by omega
                  rw [show ((2 : Nat) : Int) = 2 from rfl]
                  have m1 : decide ((2 : Int) < 2) = false := by decide
                  have HQ := Lib.hid hp
                  obtain ⟨W6, hW6⟩ : ∃ W6, W6 = wr := ⟨_, rfl⟩
                  have hb6 : Below W6.heap.size W6 wr := by rw [hW6]; exact Below.refl _ _
                  rw [← hW6] at HQ
                  have HB6 := Lib.hid hb6
                  clear hlt hk hp hW6 hb6
                  go_wp2_with fail
                  go_loopw [14] (fun i W => ∃ k : Nat, k ≤ 2 ∧ i = .int .i64 k ∧ Below W6.heap.size W6 W) (fun i _ => 2 - (intOf i).toNat)
                  case atStart => exact ⟨0, by omega, rfl, HB6.out⟩
                  case round =>
                    clear HB6
                    obtain ⟨k, hk, rfl, hb⟩ := hrel
                    by_cases hlt : k < 2
                    · as_aux_lemma =>
                      have m1 : (k : Int) < 2 := by omega
                      have m0 : (0 : Int) ≤ (k : Int) := by omega
                      have HLT := Lib.hid hlt
                      clear hlt hk
                      have HB := Lib.hid hb
                      clear hb
                      go_wp2_with fail
                      go_loopw [15] (fun i W => ∃ j : Nat, j ≤ 35 ∧ i = .int .i64 j ∧ Below W6.heap.size W6 W) (fun i _ => 35 - (intOf i).toNat)
                      case atStart => exact ⟨0, by omega, rfl, HB.out⟩
                      case round =>
                        clear HB
                        obtain ⟨j, hj, rfl, hb⟩ := hrel
                        have hp := HQ.out.calls HS.out hb
                        have cS := hp.cell k HLT.out
                        have cL := hp.bs.cell HS.out k HLT.out
                        by_cases hlt : j < 35
                        · as_aux_lemma =>
                          have m2 : (j : Int) < 35 := by omega
                          have m4 : (j : Int) < 99 := by omega
                          have m3 : (0 : Int) ≤ (j : Int) := by omega
                          have h1 := hash_has (hp.got k HLT.out).1 (mkH_length k) (hp.got k HLT.out).2.1 j hlt
                          have hmk := fun W => mkH_any k j (by have := HLT.out; omega) (by omega) W
                          have rS := fun d os => cell_regrown cS d os
                          have rL := fun d os => cell_regrown cL d os
                          have h2 := hash_has (hp.has k HLT.out) (mkH_length k) (hp.bs.blk k HLT.out).lt j hlt
                          generalize mkH k j = X at h1 h2 hmk
                          have X1 := Lib.hid h1
                          have X2 := Lib.hid h2
                          have HMK := Lib.hid hmk
                          have HB := Lib.hid (And.intro hb hlt)
                          clear h1 h2 hmk hb hp hlt hj
                          go_upto_region 41 with fail
                          refine wp_region_quiet_below (by kernel_rfl) (by kernel_rfl) ?_
                          iterate 6 (first | go_big_quiet_step (fail) | quiet_step (fail))
                          refine wpQuiet_load26 (by rfl) _ rfl (G k) (j * 32) rfl X X2.out ?_
                          iterate 2 (first | go_big_quiet_step (fail) | quiet_step (fail))
                          quiet_step ((go_at_call 72; with_reducible exact Calls.regrown_of (HMK.out _)))
                          refine wpQuiet_same24 (by rfl) _ _ rfl X X1.out.1 rfl rfl ?_
                          iterate 8 (first | go_big_quiet_step (fail) | quiet_step (fail))
                          refine wpQuiet_load26 (by rfl) _ rfl (H' k) (j * 32) rfl X X1.out ?_
                          iterate 2 (first | go_big_quiet_step (fail) | quiet_step (fail))
                          quiet_step ((go_at_call 72; with_reducible exact Calls.regrown_of (HMK.out _)))
                          refine wpQuiet_same24 (by rfl) _ _ rfl X X1.out.1 rfl rfl ?_
                          iterate 2 (first | go_big_quiet_step (fail) | quiet_step (fail))
                          refine wpQuiet_nil ?_
                          rintro w5 ⟨p, hw5⟩
                          have HB5 : Hid (Below W6.heap.size W6 w5) := Lib.hid (by rw [hw5]; exact HB.out.1.trans ((below_regrown wr p.d p.os).mono HB.out.1.size))
                          clear hw5 X1 X2
                          go_wp2_with fail
                          refine ⟨⟨j + 1, by have := HB.out.2; omega, by go_num, HB5.out⟩, ?_⟩
                          have := HB.out.2
                          simp [intOf]; omega
                        · obtain rfl : j = 35 := by omega
                          have m2 : decide (((35 : Nat) : Int) < 35) = false := by decide
                          have HB := Lib.hid hb
                          clear hb hp hlt hj
                          go_wp2_with fail
                          refine ⟨⟨k + 1, by have := HLT.out; omega, by go_num, HB.out⟩, ?_⟩
                          have := HLT.out
                          simp [intOf]; omega
                    · as_aux_lemma =>
                      obtain rfl : k = 2 := by omega
                      have m1 : decide (((2 : Nat) : Int) < 2) = false := by decide
                      have HE := Lib.hid (HQ.out.calls HS.out hb).bs
                      clear hlt hk hb
                      go_wp2_with fail
                      go_ret
                      exact ⟨rfl, HE.out.below, HE.out.rest⟩
end Go.Proofs.YtgempifedhiknaaGreatDoor
