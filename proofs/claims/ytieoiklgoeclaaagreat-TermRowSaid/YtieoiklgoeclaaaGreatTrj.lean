/-
  The document's own Join (58): a node above terms.
-/
import Derived.Test.YtieoiklgoeclaaaGreatTjn
import Derived.Deep.RegionLaw
import Derived.Deep.AppendLies
namespace Go.Proofs.YtieoiklgoeclaaaGreat
open Go.RowKit

theorem step_append_T {ops : Array Oper} {o : Oper} {a : Act} {w : World} {K : Act → World → Prop} {Q : Exit → Act → World → Prop} {E : Prop} (hgd : o.guard = none) (s x : Operand)
    (ho : o.op = .call { callee := .builtin .append, args := #[s, x], argTypes := #[25, 25] }) (B : Nat) (v bv : Value) (ys xs : List Nd) (hs : a.eval s = v) (hown : OwnT w B v ys) (hx : a.eval x = bv) (hsrc : SrcT w bv xs) (hlen : ys.length + xs.length ≤ 1000000) (hB : B ≤ w.heap.size)
    (h : ∀ a' n' c' w', OwnT w' B (.slice a' n' c') (ys ++ xs) → w.grownBy w' v.ownBlock → ((Value.slice a' n' c').ownBlock = v.ownBlock ∨ (Value.slice a' n' c').ownBlock = some w.heap.size) → K (a.put o.dst (.slice a' n' c')) w') :
    if Region.wanted o (yielded ops a.tmps) = true then Oper.wp Tryz.prog o a w K Q else E := by
  have hw : Region.wanted o (yielded ops a.tmps) = true := by simp [Region.wanted, hgd]
  rw [if_pos hw]
  obtain ⟨i0, hi0, hz0, hz1, hz2⟩ := info_parts info32
  have key : ∃ v' w', (Builtin.append_ #[25, 25] o.type #[v, bv]).run Tryz.prog w = .ok v' w' ∧ OwnT w' B v' (ys ++ xs) ∧ w.grownBy w' v.ownBlock ∧ (v'.ownBlock = v.ownBlock ∨ v'.ownBlock = some w.heap.size) := by
    rcases hsrc with ⟨rfl, rfl⟩ | ⟨ad, c, rfl, hsrc⟩
    · refine ⟨v, w, run_append_owned_none (P := Tryz.prog) (w := w) B 25 o.type 36 i0 5 Tryz.underlying25 hi0 v ys.length _ hown, by rw [List.append_nil]; exact hown, grownT_refl w _, .inl rfl⟩
    · obtain ⟨v', w', hr, h2, h3, _, h5⟩ := run_append_own_at (P := Tryz.prog) w B 25 o.type 36 i0 (.agg #[.int .i64 0, .int .i64 0, .int .u64 0, .string ⟨#[]⟩, .int .i64 0]) 5 48 Tryz.underlying25 hi0 hz0 hz1 hz2 rfl (by decide) v ys.length _ hown ad xs.length c (cellsL xs) (cellsL_len xs) hsrc (cellsL_one xs) (by unfold maxLen; omega) (by omega) hB
      exact ⟨v', w', hr, by unfold OwnT; rw [List.length_append, cellsL_app]; exact h2, h3, h5⟩
  obtain ⟨v', w', hr, h2, h3, h5⟩ := key
  obtain ⟨a', n', c', rfl⟩ := h2.isSlice
  unfold Oper.wp execOp
  simp only [ho, resolve, invoke, builtin, Sem.run_bind, Sem.run_pure, Result.andThen_ok, List.map_toArray, List.map_cons, List.map_nil, hs, hx, hr]
  exact h a' n' c' w' h2 h3 h5
theorem OwnT.setCell {w : World} {B : Nat} {v : Value} {xs : List Nd} (h : OwnT w B v xs) (ad : Addr) (x : Value) (hk : v.ownBlock ≠ some ad.block) : OwnT (w.setCell ad x) B v xs := by
  refine ⟨h.1, ?_⟩
  rcases h.2 with hn | ⟨g, cap, cur, h1, h2, h3, h4⟩
  · exact .inl hn
  · refine .inr ⟨g, cap, cur, h1, h2, (heap_setCell_other w ad g x (fun e => hk ?_)).trans h3, h4⟩
    rw [h1, ← e]; rfl
theorem Below.setCellAt {B : Nat} {a w : World} (h : Below B a w) {ad : Addr} (v : Value) (hB : B ≤ ad.block) : Below B a (w.setCell ad v) := h.setCell hB v
def NilOk (l : List TK) : Prop := ∀ t ∈ l, t.a = none → t.c = 0
theorem TAt.src {w : World} {t : TK} (h : TAt w t.a t.xs) (h0 : t.a = none → t.c = 0) : SrcT w t.v t.xs := by
  obtain ⟨a, c, xs⟩ := t
  cases a with
  | none =>
    have hn : xs = [] := by
      rcases Nat.eq_zero_or_pos xs.length with h1 | h1
      · exact List.eq_nil_of_length_eq_zero h1
      · obtain ⟨g, off, h2, -⟩ := h.1 h1
        cases h2
    simp only at h0 hn ⊢
    subst hn
    rw [show c = 0 from h0 trivial]
    exact .inl ⟨rfl, rfl⟩
  | some ad =>
    refine .inr ⟨ad, c, rfl, fun j u hu => ?_⟩
    simp only at hu h
    have h1 : 0 < xs.length := by
      have := (List.getElem?_eq_some_iff.1 hu).1
      rw [cellsL_len] at this
      omega
    obtain ⟨g, off, h2, h3⟩ := h.1 h1
    cases h2
    exact h3.cellsL j u hu
theorem OwnT.drew {w : World} {B : Nat} {v : Value} {xs : List Nd} (h : OwnT w B v xs) : OwnT w.drew B v xs := h
theorem SrcT.drew {w : World} {v : Value} {xs : List Nd} (h : SrcT w v xs) : SrcT w.drew v xs := h
set_option maxRecDepth 100000 in
set_option maxHeartbeats 2000000 in
theorem rjoin_any (w : World) (n : Nd) (ad : Option Addr) (c : Nat) (l : List TK) (hT : TsAt w ad l) (hnil : NilOk l) (hlen : 1 + (l.map TK.xs).flatten.length ≤ 1000000) (hm : l.length ≤ 1000000) :
    Calls Tryz.prog 16 #[.agg n.cells, .slice ad l.length c] w fun e w' => ∃ v, e = .returned (.agg #[v]) ∧ OwnT w' w.heap.size v (joinL n (l.map TK.xs)) ∧ Below w.heap.size w w' := by
  obtain ⟨k1, n1, b1, t1, d1⟩ := n
  obtain ⟨m, hml⟩ : ∃ m, m = l.length := ⟨_, rfl⟩
  rw [← hml] at hm ⊢
  have hj : joinL ⟨k1, n1, b1, t1, d1⟩ (l.map TK.xs) = (⟨k1, n1, b1, t1, (m : Int)⟩ : Nd) :: (l.map TK.xs).flatten := by
    unfold joinL
    rw [List.length_map, hml]
  rw [hj]
  have hA : Lies ((w.alloc (.cells #[.int .i64 k1, .int .i64 n1, .int .u64 b1, .string t1, .int .i64 m] 36)).alloc (.cells #[.slice none 0 0] 27)) w.heap.size #[.int .i64 k1, .int .i64 n1, .int .u64 b1, .string t1, .int .i64 m] 36 := (Lies.new _ _ _).alloc _
  have hB : Lies ((w.alloc (.cells #[.int .i64 k1, .int .i64 n1, .int .u64 b1, .string t1, .int .i64 m] 36)).alloc (.cells #[.slice none 0 0] 27)) (w.heap.size + 1) #[.slice none 0 0] 27 := by
    have := Lies.new (w.alloc (.cells #[.int .i64 k1, .int .i64 n1, .int .u64 b1, .string t1, .int .i64 m] 36)) #[.slice none 0 0] 27
    simpa using this
  have hb0 : Below w.heap.size w ((w.alloc (.cells #[.int .i64 k1, .int .i64 n1, .int .u64 b1, .string t1, .int .i64 m] 36)).alloc (.cells #[.slice none 0 0] 27)) := ((Below.refl _ _).alloc (Nat.le_refl _) _).alloc (by simp) _
  have H := Lib.hid (And.intro hT (And.intro hnil (And.intro hlen (And.intro hm hml))))
  clear hT hnil hlen hm hj hml
  unfold Nd.cells
  go_enter Tryz.func16, Tryz.ntmps16
  go_upto_region 2 with fail
  generalize ((w.alloc (.cells #[.int .i64 k1, .int .i64 n1, .int .u64 b1, .string t1, .int .i64 m] 36)).alloc (.cells #[.slice none 0 0] 27)) = W0 at hA hB hb0 ⊢
  have c0 := hA.cell 0 (v := .int .i64 k1) rfl
  have c1 := hA.cell 1 (v := .int .i64 n1) rfl
  have c2 := hA.cell 2 (v := .int .u64 b1) rfl
  have c3 := hA.cell 3 (v := .string t1) rfl
  have c4 := hA.cell 4 (v := .int .i64 m) rfl
  have H0 := Lib.hid (And.intro hB hb0)
  clear hA hB hb0
  go_upto_region 3 with fail
  have hR : ((W0.alloc (.cells #[.int .i64 k1, .int .i64 n1, .int .u64 b1, .string t1, .int .i64 m] 36)).alloc (.cells #[.slice (some ⟨W0.heap.size, 0, none⟩) 1 1] 27)).heap[W0.heap.size]? = some (.cells #[.int .i64 k1, .int .i64 n1, .int .u64 b1, .string t1, .int .i64 m] 36 (0, 0)) := (Below.heap_alloc _ _ _ (by simp)).trans (heap_alloc_new W0 _)
  have hO : OwnT ((W0.alloc (.cells #[.int .i64 k1, .int .i64 n1, .int .u64 b1, .string t1, .int .i64 m] 36)).alloc (.cells #[.slice (some ⟨W0.heap.size, 0, none⟩) 1 1] 27)) W0.heap.size (.slice (some ⟨W0.heap.size, 0, none⟩) 1 1) [⟨k1, n1, b1, t1, (m : Int)⟩] :=
    ⟨rfl, .inr ⟨W0.heap.size, 1, _, rfl, Nat.le_refl _, hR, Nat.le_refl _, by unfold maxLen; omega, rfl, rfl⟩⟩
  have hQ : Lies ((W0.alloc (.cells #[.int .i64 k1, .int .i64 n1, .int .u64 b1, .string t1, .int .i64 m] 36)).alloc (.cells #[.slice (some ⟨W0.heap.size, 0, none⟩) 1 1] 27)) (W0.heap.size + 1) #[.slice (some ⟨W0.heap.size, 0, none⟩) 1 1] 27 := by
    have := Lies.new (W0.alloc (.cells #[.int .i64 k1, .int .i64 n1, .int .u64 b1, .string t1, .int .i64 m] 36)) #[.slice (some ⟨W0.heap.size, 0, none⟩) 1 1] 27
    simpa using this
  have hb2 : Below W0.heap.size W0 ((W0.alloc (.cells #[.int .i64 k1, .int .i64 n1, .int .u64 b1, .string t1, .int .i64 m] 36)).alloc (.cells #[.slice (some ⟨W0.heap.size, 0, none⟩) 1 1] 27)) := ((Below.refl _ _).alloc (Nat.le_refl _) _).alloc (by simp) _
  generalize ((W0.alloc (.cells #[.int .i64 k1, .int .i64 n1, .int .u64 b1, .string t1, .int .i64 m] 36)).alloc (.cells #[.slice (some ⟨W0.heap.size, 0, none⟩) 1 1] 27)) = W2 at hO hQ hb2 ⊢
  have HO2 := Lib.hid (And.intro hO (And.intro hQ hb2))
  clear hR hO hQ hb2 c0 c1 c2 c3 c4
  go_wp2_with fail
  go_loopw [6] (fun i W => ∃ (k : Nat) (va : Option Addr) (vn vc : Nat), k ≤ m ∧ i = .int .i64 k ∧ Lies W (W0.heap.size + 1) #[.slice va vn vc] 27 ∧ (Value.slice va vn vc).ownBlock ≠ some (W0.heap.size + 1) ∧ OwnT W W0.heap.size (.slice va vn vc) ((⟨k1, n1, b1, t1, (m : Int)⟩ : Nd) :: ((l.take k).map TK.xs).flatten) ∧ Below W0.heap.size W0 W) (fun i _ => (m - intOf i).toNat)
  case atStart => exact ⟨0, _, _, _, by omega, by go_num, HO2.out.2.1, by simp [Value.ownBlock], by simpa using HO2.out.1, HO2.out.2.2⟩
  case round =>
    obtain ⟨k, va, vn, vc, hk, rfl, hq, hne, hown, hbr⟩ := hrel
    by_cases hlt : k < m
    · have hkl : k < l.length := by rw [← H.out.2.2.2.2]; exact hlt
      have hbw := H0.out.2.trans (hbr.mono H0.out.2.size)
      have hT := H.out.1.below hbw (Nat.le_refl _)
      obtain ⟨g, off, ea, hg, hcs⟩ := hT.1 (by omega)
      subst ea
      have hck := hcs k hkl
      have htk := hT.2 l[k] (List.getElem_mem hkl)
      have hnk := H.out.2.1 l[k] (List.getElem_mem hkl)
      have hstep := joinL_take (n := ⟨k1, n1, b1, t1, 0⟩) hkl
      have hlen2 := joinL_le (l := l) (k + 1)
      obtain ⟨t, et⟩ : ∃ t, t = l[k] := ⟨_, rfl⟩
      rw [← et] at hck htk hstep hnk
      have hsrc := TAt.src htk.1 hnk
      rw [← H.out.2.2.2.2] at hstep
      simp only at hstep
      obtain ⟨ta, tc, txs⟩ := t
      unfold TK.v at hck hsrc
      simp only at hck htk hstep hsrc
      have hlx : ((⟨k1, n1, b1, t1, (m : Int)⟩ : Nd) :: ((l.take k).map TK.xs).flatten).length + txs.length ≤ 1000000 := by
        have := congrArg List.length hstep
        rw [List.length_append] at this
        have h3 := H.out.2.2.1
        simp only [List.length_cons] at this ⊢
        omega
      obtain ⟨ys, hys⟩ : ∃ ys, ys = ((⟨k1, n1, b1, t1, (m : Int)⟩ : Nd) :: ((l.take k).map TK.xs).flatten) := ⟨_, rfl⟩
      rw [← hys] at hown hstep hlx
      obtain ⟨nx, hnx⟩ : ∃ nx, nx = txs.length := ⟨_, rfl⟩
      rw [← hnx] at hck hsrc
      have q0 : (0 : Int) ≤ (k : Int) := by omega
      have q1 : (k : Int) < (m : Int) := by omega
      have q2 : (m : Int) ≤ 1000000 := by have := H.out.2.2.2.1; omega
      have hlw : W0.heap.size ≤ wr.heap.size := hbr.size
      have hql := hq.lt
      have hqc := hq.cell 0 (v := .slice va vn vc) rfl
      have hqf := hq.free 0
      have HR := Lib.hid (And.intro hown (And.intro hbr (And.intro hstep (And.intro hlx (And.intro hq (And.intro hne hsrc))))))
      clear hown hbr hstep hlx hcs htk hT hbw hg hys hlen2 et hnx hkl hsrc hq hnk hne
      go_upto_region 6 with fail
      go_region_law (first
        | (refine step_append_T (by rfl) _ _ (by rfl) W0.heap.size _ _ ys txs (by rfl) HR.out.1.drew (by rfl) HR.out.2.2.2.2.2.2.drew HR.out.2.2.2.1 hlw ?_; intro a7 n7 c7 w7 hown7 hgrow7 hat7
           have f3 : w7.frozen? ⟨W0.heap.size + 1, 0, none⟩ = false := by rw [hgrow7.frozen_far _ hql (Ne.symm HR.out.2.2.2.2.2.1)]; exact hqf
           have c3 : w7.cell? ⟨W0.heap.size + 1, 0, none⟩ = some (.slice va vn vc) := by rw [hgrow7.cell_far _ hql (Ne.symm HR.out.2.2.2.2.2.1)]; exact hqc))
      all_goals
        have hq7 : Lies w7 (W0.heap.size + 1) #[.slice va vn vc] 27 := (hgrow7.block _ hql (Ne.symm HR.out.2.2.2.2.2.1)).trans HR.out.2.2.2.2.1
        have hne7 : (Value.slice a7 n7 c7).ownBlock ≠ some (W0.heap.size + 1) := by
          rcases hat7 with e | e
          · rw [e]; exact HR.out.2.2.2.2.2.1
          · rw [e]
            intro e2
            have : wr.heap.size = W0.heap.size + 1 := Option.some.inj e2
            omega
        have hb7 : Below W0.heap.size W0 w7 := (HR.out.2.1.drew).grown hgrow7 hlw (fun k e => HR.out.1.above e)
        have HN := Lib.hid (And.intro (hq7.set 0 (.slice a7 n7 c7)) (And.intro hne7 (And.intro (hown7.setCell ⟨W0.heap.size + 1, 0, none⟩ (.slice a7 n7 c7) hne7) (hb7.setCell (p := ⟨W0.heap.size + 1, 0, none⟩) (by simp) (.slice a7 n7 c7)))))
        clear hq7 hne7 hb7 hown7 hgrow7 hat7 f3 c3
        go_wp2_with fail
        go_roundw
        case rel => exact ⟨k + 1, a7, n7, c7, by omega, by go_num, HN.out.1, HN.out.2.1, by rw [← HR.out.2.2.1]; exact HN.out.2.2.1, HN.out.2.2.2⟩
        case measure => simp [intOf]; omega
    · have hke : k = m := by omega
      subst hke
      have hfull : (l.take k).map TK.xs = l.map TK.xs := by rw [H.out.2.2.2.2, List.take_length]
      rw [hfull] at hown
      have hr := H0.out.1.below hbr H0.out.1.lt
      have hqc := hq.cell 0 (v := .slice va vn vc) rfl
      have HX := Lib.hid (And.intro hown (And.intro hr hbr))
      clear hown hr hbr hfull hlt hk hq hne
      go_wp2_with (refine wpList_store_row rfl 27 _ _ rfl (w.heap.size + 1) #[.slice va vn vc] rfl rfl 27 #[.slice none 0 0] HX.out.2.1 info24 rfl (by simp [Value.oneCell']) ?_)
      refine bodyPost_ret (v := .agg #[.slice va vn vc]) (results_cell_row (p := 4) (ty := 27) (by kernel_rfl) _ _ (w.heap.size + 1) 27 #[.slice va vn vc] (0, 0) _ rfl (HX.out.2.1.setRow _) Tryz.underlying27 rfl info24) rfl ⟨.slice va vn vc, rfl, ?_, ?_⟩
      · exact (OwnT.setRow HX.out.1 _ _ H0.out.1.lt).mono H0.out.2.size
      · exact below_setRow (H0.out.2.trans (HX.out.2.2.mono H0.out.2.size)) _ _ (by omega)
end Go.Proofs.YtieoiklgoeclaaaGreat
