/-
  TermTree's walk (5).
  The document's own: Right (33); KeptNodes (36), KeptTerm (11).
  KeptTerm (11), tells (10).
-/
import Derived.Test.YtieoiklgoeclaaaGreatTkg
import Derived.Test.YtieoiklgoeclaaaGreatRlp
import Derived.Lib.QuietBelow
import Derived.Test.YtieoiklgoeclaaaGreatRh
namespace Go.Proofs.YtieoiklgoeclaaaGreat
open Go.RowKit

theorem deepT_any (w : World) (a : Option Addr) (nc : Nat) (xs : List Nd) (h : TAt w a xs) :
    Calls Tryz.prog 23 #[.agg #[.slice a xs.length nc]] w fun e w' => e = .returned (.int .i64 (deepT xs)) ∧ Below w.heap.size w w' :=
  deep_any w a xs.length nc (ksOf xs) h.2.1 h.ks
theorem right_in {xs : List Nd} (h : inO xs = false) : rightB xs = false := by
  unfold rightB fitsB
  rw [h]; simp
theorem same_bad {xs : List Nd} (h : inO xs = false) : sameT xs xs = false := by
  unfold sameT
  rw [h]; rfl
theorem mem_flat_len : ∀ (L : List (List Nd)) (ys : List Nd), ys ∈ L → ys.length ≤ L.flatten.length
  | z :: L, ys, h => by
    rw [List.flatten_cons, List.length_append]
    rcases List.mem_cons.1 h with rfl | h
    · omega
    · have := mem_flat_len L ys h; omega
theorem wrap_small (x : Int) (h0 : 0 ≤ x) (h1 : x ≤ 1000) : IntKind.i64.wrap x = x := by
  first
    | (rw [IntKind.wrap_i64]; unfold wrap64; omega)
    | (rw [IntKind.wrap_i64]; omega)
    | (unfold IntKind.wrap; simp [IntKind.bits, IntKind.signed]; omega)
    | (simp [go_sem]; omega)
theorem dep_len : ∀ f : Fo, f.dep ≤ f.len
  | .nil => Nat.le_refl _
  | .cons n k r => by
    have h1 := dep_len k
    have h2 := dep_len r
    simp only [Fo.dep, Fo.len]
    omega
theorem kidsFo_pos : ∀ (f : Fo) (ys : List Nd), ys ∈ kidsFo f → 0 < ys.length
  | .cons n k r, ys, h => by
    simp only [kidsFo, List.mem_cons] at h
    rcases h with rfl | h
    · simp [Fo.flat]
    · exact kidsFo_pos r ys h
end Go.Proofs.YtieoiklgoeclaaaGreat
namespace Go.Proofs.YtieoiklgoeclaaaGreat
open Go.RowKit

set_option maxRecDepth 100000 in
theorem rright_any' (w : World) (a : Option Addr) (nc : Nat) (xs : List Nd) (hx : TW w a xs) :
    Calls Tryz.prog 22 #[.agg #[.slice a xs.length nc]] w fun e w' => e = .returned (.bool (rightB xs)) ∧ Below w.heap.size w w' := by
  have hb : Below w.heap.size w (w.alloc (.cells #[.slice a xs.length nc] 27)) := (Below.refl _ _).alloc (Nat.le_refl _) _
  have h := rfits_any (w.alloc (.cells #[.slice a xs.length nc] 27)) a nc xs 100 16 (hx.below hb)
  obtain ⟨z, hz⟩ : ∃ z, z = rightB xs := ⟨_, rfl⟩
  have h' := h
  rw [show fitsB xs 100 16 = z from hz.symm] at h'
  rw [← hz]
  have H := Lib.hid (And.intro h' hb)
  obtain ⟨n, hn⟩ : ∃ n, n = xs.length := ⟨_, rfl⟩
  rw [← hn] at H ⊢
  clear h h' hb hx hz hn
  go_enter Tryz.func22, Tryz.ntmps22
  go_wp2_with fail
  refine H.out.1.mono ?_
  rintro e w2 ⟨rfl, hb2⟩
  have HB := Lib.hid (H.out.2.trans (hb2.mono H.out.2.size))
  clear hb2
  go_wp2_with fail
  go_ret
  exact ⟨rfl, HB.out⟩
theorem eqN_refl (x : Nd) : eqN x x = true := by simp [eqN]
theorem eq_self (W : World) (x : Nd) : (binOp .eql 36 (.agg x.cells) (.agg x.cells)).run Tryz.prog W = .ok (.bool true) W := by
  obtain ⟨k, n1, b1, t1, d1⟩ := x
  have := eq_nodes W k n1 n1 b1 b1 t1 t1 d1 d1
  rw [show justB ⟨k, n1, b1, t1, d1⟩ ⟨k, n1, b1, t1, d1⟩ = true by simp [justB]] at this
  exact this
end Go.Proofs.YtieoiklgoeclaaaGreat
namespace Go.Proofs.YtieoiklgoeclaaaGreat
open Go.RowKit

theorem marks_kids : ∀ x ∈ marksL 12, x.kids ≤ 9223372036854775807 := fun x hx => by
  simp only [marksL, List.mem_map, List.mem_range] at hx
  obtain ⟨y, hy, rfl⟩ := hx
  simp only [markN]
  omega
theorem LentV.at_ {w : World} {a : Option Addr} {n c : Nat} {xs : List Nd} (h : LentV w (.slice a n c) xs) (hl : xs.length ≤ 900000) (hk : ∀ x ∈ xs, x.kids ≤ 9223372036854775807) : n = xs.length ∧ xs.length + 12 ≤ c ∧ TAt w a (xs ++ marksL 12) := by
  obtain ⟨a', c', h1, h2, h3⟩ := h
  cases h1
  refine ⟨rfl, h2, ?_⟩
  exact (h3.tat (by rw [List.length_append, marksL_len]; omega) (fun x hx => by
    rcases List.mem_append.1 hx with hx | hx
    · exact hk x hx
    · exact marks_kids x hx)).1
theorem TAt.front {w : World} {a : Option Addr} {xs ys : List Nd} (h : TAt w a (xs ++ ys)) : TAt w a xs := by
  refine ⟨fun h0 => ?_, ?_, fun x hx => h.2.2 x (List.mem_append_left _ hx)⟩
  · obtain ⟨g, off, h1, h2, h3⟩ := h.1 (by rw [List.length_append]; omega)
    refine ⟨g, off, h1, h2, fun j hj i v hv => h3 j (by rw [List.length_append]; omega) i v ?_⟩
    rw [List.getElem_append_left hj]
    exact hv
  · have := h.2.1
    rw [List.length_append] at this
    omega
theorem wrap_near (n : Nat) (i : Int) (h : n ≤ 1000000) (h0 : -1 ≤ i) (h1 : i ≤ 1) : IntKind.i64.wrap ((n : Int) + i) = (n : Int) + i := by
  rw [IntKind.wrap_i64]
  omega
set_option maxRecDepth 100000 in
set_option maxHeartbeats 4000000 in
theorem tells_any (w : World) (a b : Option Addr) (c1 c2 : Nat) (xs ys : List Nd) (hx : TW w a xs) (hy : TW w b ys) (hc1 : xs.length ≤ c1) :
    Calls Tryz.prog 6 #[.agg #[.slice a xs.length c1], .agg #[.slice b ys.length c2]] w fun e w' => e = .returned (.bool true) ∧ Below w.heap.size w w' := by
  have hA : Lies ((w.alloc (.cells #[.slice a xs.length c1] 27)).alloc (.cells #[.slice b ys.length c2] 27)) w.heap.size #[.slice a xs.length c1] 27 := (Lies.new _ _ _).alloc _
  have hB : Lies ((w.alloc (.cells #[.slice a xs.length c1] 27)).alloc (.cells #[.slice b ys.length c2] 27)) (w.heap.size + 1) #[.slice b ys.length c2] 27 := by
    have := Lies.new (w.alloc (.cells #[.slice a xs.length c1] 27)) #[.slice b ys.length c2] 27
    simpa using this
  have hb0 : Below w.heap.size w ((w.alloc (.cells #[.slice a xs.length c1] 27)).alloc (.cells #[.slice b ys.length c2] 27)) := ((Below.refl _ _).alloc (Nat.le_refl _) _).alloc (by simp) _
  have hTx : ∀ V, Below w.heap.size w V → TW V a xs := fun V hV => hx.below hV
  have hTy : ∀ V, Below w.heap.size w V → TW V b ys := fun V hV => hy.below hV
  have k31 : ∀ V, Below w.heap.size w V → ∀ m d : Int, Calls Tryz.prog 20 #[.agg #[.slice a xs.length c1], .int .i64 m, .int .i64 d] V fun e w' => e = .returned (.bool (fitsB xs m d)) ∧ Below V.heap.size V w' := fun V hV m d => fits_any V a c1 xs m d (hTx V hV).tat hc1
  have k32 : ∀ V, Below w.heap.size w V → ∀ m d : Int, Calls Tryz.prog 21 #[.agg #[.slice a xs.length c1], .int .i64 m, .int .i64 d] V fun e w' => e = .returned (.bool (fitsB xs m d)) ∧ Below V.heap.size V w' := fun V hV m d => rfits_any V a c1 xs m d (hTx V hV)
  have k14 : ∀ V, Below w.heap.size w V → Calls Tryz.prog 8 #[.agg #[.slice a xs.length c1]] V fun e w' => e = .returned (.bool (rightB xs)) ∧ Below V.heap.size V w' := fun V hV => rightT_any V a c1 xs (hTx V hV).tat hc1
  have k33 : ∀ V, Below w.heap.size w V → Calls Tryz.prog 22 #[.agg #[.slice a xs.length c1]] V fun e w' => e = .returned (.bool (rightB xs)) ∧ Below V.heap.size V w' := fun V hV => rright_any' V a c1 xs (hTx V hV)
  have k16 : ∀ V, Below w.heap.size w V → Calls Tryz.prog 23 #[.agg #[.slice a xs.length c1]] V fun e w' => e = .returned (.int .i64 (deepT xs)) ∧ Below V.heap.size V w' := fun V hV => deepT_any V a c1 xs (hTx V hV).tat
  have k30 : ∀ V, Below w.heap.size w V → Calls Tryz.prog 19 #[.agg #[.slice a xs.length c1]] V fun e w' => e = .returned (.int .i64 (deepT xs)) ∧ Below V.heap.size V w' := fun V hV => rdeep_any V a xs.length c1 (ksOf xs) (hTx V hV).tat.2.1 (hTx V hV).tat.ks
  have k13 : ∀ V, Below w.heap.size w V → Calls Tryz.prog 5 #[.agg #[.slice a xs.length c1], .agg #[.slice b ys.length c2]] V fun e w' => e = .returned (.int .i64 (ordT xs ys)) ∧ Below V.heap.size V w' := fun V hV => orderT_any V a b c1 c2 xs ys (hTx V hV).tat (hTy V hV).tat
  have k34 : ∀ V, Below w.heap.size w V → Calls Tryz.prog 24 #[.agg #[.slice a xs.length c1], .agg #[.slice b ys.length c2]] V fun e w' => e = .returned (.int .i64 (ordT xs ys)) ∧ Below V.heap.size V w' := fun V hV => rOrder_any V a b c1 c2 xs ys (hTx V hV) (hTy V hV)
  have k17 : ∀ V, Below w.heap.size w V → Calls Tryz.prog 25 #[.agg #[.slice a xs.length c1], .agg #[.slice b ys.length c2]] V fun e w' => e = .returned (.bool (sameT xs ys)) ∧ Below V.heap.size V w' := fun V hV => sameT_any V a b c1 c2 xs ys (hTx V hV).tat (hTy V hV).tat
  have k35 : ∀ V, Below w.heap.size w V → Calls Tryz.prog 26 #[.agg #[.slice a xs.length c1], .agg #[.slice b ys.length c2]] V fun e w' => e = .returned (.bool (sameT xs ys)) ∧ Below V.heap.size V w' := fun V hV => rSame_any V a b c1 c2 xs ys (hTx V hV) (hTy V hV)
  have hdl : deepT xs ≤ 1000000 := by
    have h1 := hx.tat.2.1
    cases hin : inO xs with
    | false => rw [deep_none hin]; omega
    | true =>
      obtain ⟨f, f1, f2⟩ := fo_inO hin
      rw [← f2, deep_fo f f1]
      rw [← f2, Fo.flat_len] at h1
      have := dep_len f
      omega
  have hnl : xs.length ≤ 1000000 := hx.tat.2.1
  obtain ⟨n, hn⟩ : ∃ n, n = xs.length := ⟨_, rfl⟩
  obtain ⟨m, hm⟩ : ∃ n, n = ys.length := ⟨_, rfl⟩
  obtain ⟨d, hd⟩ : ∃ d, d = deepT xs := ⟨_, rfl⟩
  obtain ⟨o, ho⟩ : ∃ o, o = ordT xs ys := ⟨_, rfl⟩
  obtain ⟨s, hs⟩ : ∃ s, s = sameT xs ys := ⟨_, rfl⟩
  obtain ⟨r, hr⟩ : ∃ r, r = rightB xs := ⟨_, rfl⟩
  simp only [← hn, ← hm, ← hd, ← ho, ← hs, ← hr] at hA hB hb0 k31 k32 k14 k33 k16 k30 k13 k34 k17 k35 hdl hnl ⊢
  have H := Lib.hid (And.intro hA (And.intro hB hb0))
  have K := Lib.hid (And.intro k31 (And.intro k32 (And.intro k14 (And.intro k33 (And.intro k16 (And.intro k30 (And.intro k13 (And.intro k34 (And.intro k17 k35)))))))))
  have q1 : (n : Int) ≤ 1000000 := by omega
  have q2 : (d : Int) ≤ 1000000 := by omega
  have q3 : (0 : Int) ≤ (n : Int) := by omega
  have q4 : (0 : Int) ≤ (d : Int) := by omega
  have HL := Lib.hid (And.intro hnl hdl)
  clear hA hB hb0 k31 k32 k14 k33 k16 k30 k13 k34 k17 k35 hx hy hc1 hTx hTy hn hm hd ho hs hr hdl hnl
  go_enter Tryz.func6, Tryz.ntmps6
  go_upto_region 1 with fail
  generalize (w.alloc (.cells #[.slice a n c1] 27)).alloc (.cells #[.slice b m c2] 27) = W0 at H ⊢
  have hcell : ∀ V, Below W0.heap.size W0 V → V.cell? ⟨w.heap.size, 0, none⟩ = some (.slice a n c1) ∧ V.cell? ⟨w.heap.size + 1, 0, none⟩ = some (.slice b m c2) ∧ Below w.heap.size w V := fun V hV =>
    ⟨(H.out.1.below hV H.out.1.lt).cell 0 rfl, (H.out.2.1.below hV H.out.2.1.lt).cell 0 rfl, H.out.2.2.trans (hV.mono H.out.2.2.size)⟩
  have HS := Lib.hid hcell
  obtain ⟨s0, s1, hbw⟩ := hcell W0 (Below.refl _ _)
  clear hcell
  have HB := Lib.hid hbw
  have fin : ∀ w9, (∃ p : Regrown, w9 = Sort.grow (redrawn W0 p.d) p.os) → Below W0.heap.size W0 w9 := fun w9 ⟨p, hp⟩ => by rw [hp]; exact below_regrown _ _ _
  have FIN := Lib.hid fin
  clear fin hbw
  have r0 := fun d os => cell_regrown s0 d os
  have r1 := fun d os => cell_regrown s1 d os
  refine wp_region_quiet_below (by kernel_rfl) (by kernel_rfl) ?_
  iterate 7 (first | go_big_quiet_step (first | (go_at_call 19; exact Calls.regrown_of (K.out.2.2.2.2.2.1 _ (HB.out.trans ((below_regrown _ _ _).mono HB.out.size))))) | quiet_step (first | (go_at_call 19; exact Calls.regrown_of (K.out.2.2.2.2.2.1 _ (HB.out.trans ((below_regrown _ _ _).mono HB.out.size))))))
  refine wpQuiet_nil ?_
  intro w1 hw1
  have B1 := Lib.hid (FIN.out w1 hw1)
  clear hw1 r0 r1 s0 s1
  go_upto_region 3 with fail
  go_loopw [7] (fun v W => ∃ i : Int, -1 ≤ i ∧ i ≤ 2 ∧ v = .int .i64 i ∧ Below W0.heap.size W0 W) (fun v _ => (2 - intOf v).toNat)
  case atStart => exact ⟨-1, by omega, by omega, rfl, B1.out⟩
  case round =>
    obtain ⟨i, hi0, hi1, rfl, hbr⟩ := hrel
    obtain ⟨s0, s1, hbw⟩ := HS.out wr hbr
    have HR := Lib.hid (And.intro hbr hbw)
    clear hbr hbw
    have fin : ∀ w9, (∃ p : Regrown, w9 = Sort.grow (redrawn wr p.d) p.os) → Below W0.heap.size W0 w9 := fun w9 ⟨p, hp⟩ => by rw [hp]; exact HR.out.1.trans ((below_regrown _ _ _).mono HR.out.1.size)
    have FIN2 := Lib.hid fin
    clear fin
    have hup : ∀ dd os, Below w.heap.size w (Sort.grow (redrawn wr dd) os) := fun dd os => HR.out.2.trans ((below_regrown _ _ _).mono HR.out.2.size)
    have UP := Lib.hid hup
    clear hup
    have r0 := fun d os => cell_regrown s0 d os
    have r1 := fun d os => cell_regrown s1 d os
    by_cases hlt : i < 2
    · have e1 := wrap_near n i HL.out.1 hi0 (by omega)
      have e2 := wrap_near d i HL.out.2 hi0 (by omega)
      have x1 : ∀ u v : Int, (fitsB xs u v != fitsB xs u v) = false := fun u v => by simp
      go_upto_region 5 with fail
      refine wp_region_quiet_below (by kernel_rfl) (by kernel_rfl) ?_
      iterate 28 (first | go_big_quiet_step (first | (go_at_call 20; exact Calls.regrown_of (K.out.1 _ (UP.out _ _) _ _)) | (go_at_call 21; exact Calls.regrown_of (K.out.2.1 _ (UP.out _ _) _ _))) | quiet_step (first | (go_at_call 20; exact Calls.regrown_of (K.out.1 _ (UP.out _ _) _ _)) | (go_at_call 21; exact Calls.regrown_of (K.out.2.1 _ (UP.out _ _) _ _))))
      refine wpQuiet_nil ?_
      intro w9 hw9
      have F9 := Lib.hid (FIN2.out w9 hw9)
      clear hw9 e1 e2 x1 r0 r1 s0 s1
      go_wp2_with fail
      exact ⟨⟨i + 1, by omega, by omega, rfl, F9.out⟩, by simp [intOf]; omega⟩
    · have x1 : (r == r) = true := by simp
      have x2 : (((d : Int) == (d : Int)) : Bool) = true := by simp
      have x3 : ((o == o) : Bool) = true := by simp
      have x4 : (s == s) = true := by simp
      go_upto_region 7 with fail
      refine wp_region_quiet_below (by kernel_rfl) (by kernel_rfl) ?_
      iterate 31 (first | go_big_quiet_step (first | (go_at_call 8; exact Calls.regrown_of (K.out.2.2.1 _ (UP.out _ _))) | (go_at_call 22; exact Calls.regrown_of (K.out.2.2.2.1 _ (UP.out _ _))) | (go_at_call 23; exact Calls.regrown_of (K.out.2.2.2.2.1 _ (UP.out _ _))) | (go_at_call 19; exact Calls.regrown_of (K.out.2.2.2.2.2.1 _ (UP.out _ _))) | (go_at_call 5; exact Calls.regrown_of (K.out.2.2.2.2.2.2.1 _ (UP.out _ _))) | (go_at_call 24; exact Calls.regrown_of (K.out.2.2.2.2.2.2.2.1 _ (UP.out _ _))) | (go_at_call 25; exact Calls.regrown_of (K.out.2.2.2.2.2.2.2.2.1 _ (UP.out _ _))) | (go_at_call 26; exact Calls.regrown_of (K.out.2.2.2.2.2.2.2.2.2 _ (UP.out _ _)))) | quiet_step (first | (go_at_call 8; exact Calls.regrown_of (K.out.2.2.1 _ (UP.out _ _))) | (go_at_call 22; exact Calls.regrown_of (K.out.2.2.2.1 _ (UP.out _ _))) | (go_at_call 23; exact Calls.regrown_of (K.out.2.2.2.2.1 _ (UP.out _ _))) | (go_at_call 19; exact Calls.regrown_of (K.out.2.2.2.2.2.1 _ (UP.out _ _))) | (go_at_call 5; exact Calls.regrown_of (K.out.2.2.2.2.2.2.1 _ (UP.out _ _))) | (go_at_call 24; exact Calls.regrown_of (K.out.2.2.2.2.2.2.2.1 _ (UP.out _ _))) | (go_at_call 25; exact Calls.regrown_of (K.out.2.2.2.2.2.2.2.2.1 _ (UP.out _ _))) | (go_at_call 26; exact Calls.regrown_of (K.out.2.2.2.2.2.2.2.2.2 _ (UP.out _ _)))))
      refine wpQuiet_nil ?_
      intro w9 hw9
      have F9 := Lib.hid ((HS.out _ (FIN2.out w9 hw9)).2.2)
      clear hw9 r0 r1 s0 s1
      go_wp2_with fail
      go_ret
      exact ⟨rfl, F9.out⟩
end Go.Proofs.YtieoiklgoeclaaaGreat
