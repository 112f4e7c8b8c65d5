/-
  Join (18): a node above terms.
-/
import Derived.Test.YtieoiklgoeclaaaGreatTow
import Derived.Laws.AppendOwnNone
import Derived.Laws.Rows
namespace Go.Proofs.YtieoiklgoeclaaaGreat
open Go.RowKit

theorem grownT_refl (w : World) (o : Option Nat) : w.grownBy w o := ⟨rfl, rfl, rfl, Nat.le_refl _, fun _ _ _ => rfl⟩
/-- Nodes that are read: nothing, or wherever they lie. -/
def SrcT (w : World) (bv : Value) (xs : List Nd) : Prop := (bv = .slice none 0 0 ∧ xs = []) ∨ ∃ ad c, bv = .slice (some ad) xs.length c ∧ ∀ j u, (cellsL xs)[j]? = some u → w.cell? (ad.add j) = some u
theorem OwnT.src {w : World} {B : Nat} {v : Value} {xs : List Nd} (h : OwnT w B v xs) : SrcT w v xs := by
  rcases h.form with h1 | ⟨g, cap, h1, -, -, -, h5, -⟩
  · exact .inl h1
  · exact .inr ⟨_, cap, h1, h5.cellsL⟩
theorem OwnT.mono {w : World} {B B' : Nat} {v : Value} {xs : List Nd} (h : OwnT w B v xs) (hB : B' ≤ B) : OwnT w B' v xs := by
  refine ⟨h.1, ?_⟩
  rcases h.2 with hn | ⟨g, cap, cur, h1, h2, h3⟩
  · exact .inl hn
  · exact .inr ⟨g, cap, cur, h1, by omega, h3⟩
theorem OwnT.above {w : World} {B : Nat} {v : Value} {xs : List Nd} (h : OwnT w B v xs) {k : Nat} (hk : v.ownBlock = some k) : B ≤ k := by
  rcases h.2 with ⟨h1, -⟩ | ⟨g, cap, cur, h1, h2, -⟩
  · rw [h1] at hk; cases hk
  · rw [h1] at hk
    have : g = k := Option.some.inj hk
    omega
theorem OwnT.isSlice {w : World} {B : Nat} {v : Value} {xs : List Nd} (h : OwnT w B v xs) : ∃ a n c, v = .slice a n c := by
  rcases h.form with ⟨h1, -⟩ | ⟨g, cap, h1, -⟩
  · exact ⟨_, _, _, h1⟩
  · exact ⟨_, _, _, h1⟩
theorem OwnT.setRow {w : World} {B : Nat} {v : Value} {xs : List Nd} (h : OwnT w B v xs) (k : Nat) (cs : Array Value) (hk : k < B) : OwnT (w.setRow k cs) B v xs := by
  refine ⟨h.1, ?_⟩
  rcases h.2 with hn | ⟨g, cap, cur, h1, h2, h3, h4⟩
  · exact .inl hn
  · exact .inr ⟨g, cap, cur, h1, h2, (setRow_other w k g cs (by omega)).trans h3, h4⟩
theorem wpList_append_T {ops : Array Oper} {rest : List Oper} {o : Oper} {a : Act} {w : World} {Q : Exit → Act → World → Prop} (hgd : o.guard = none) (s x : Operand)
    (ho : o.op = .call { callee := .builtin .append, args := #[s, x], argTypes := #[25, 25] }) (B : Nat) (v bv : Value) (ys xs : List Nd) (hs : a.eval s = v) (hown : OwnT w B v ys) (hx : a.eval x = bv) (hsrc : SrcT w bv xs) (hlen : ys.length + xs.length ≤ 1000000) (hB : B ≤ w.heap.size)
    (h : ∀ v' w', OwnT w' B v' (ys ++ xs) → w.grownBy w' v.ownBlock → (v'.ownBlock = v.ownBlock ∨ v'.ownBlock = some w.heap.size) → wpList Tryz.prog ops Q rest (a.put o.dst v') w') : wpList Tryz.prog ops Q (o :: rest) a w := by
  obtain ⟨i0, hi0, hz0, hz1, hz2⟩ := info_parts info32
  rcases hsrc with ⟨rfl, rfl⟩ | ⟨ad, c, rfl, hsrc⟩
  · refine wpList_append_own_none hgd s x 25 ho B 36 i0 5 Tryz.underlying25 hi0 v ys.length _ hs hown hx ?_
    exact h v w (by rw [List.append_nil]; exact hown) (grownT_refl w _) (.inl rfl)
  · refine wpList_append_own_at _ hgd s x 25 ho B 36 i0 (.agg #[.int .i64 0, .int .i64 0, .int .u64 0, .string ⟨#[]⟩, .int .i64 0]) 5 48 Tryz.underlying25 hi0 hz0 hz1 hz2 rfl (by decide) v ys.length _ hs hown ad xs.length c (cellsL xs) hx (cellsL_len xs) hsrc (cellsL_one xs) (by unfold maxLen; omega) (by omega) hB ?_
    intro v' w' h1 h2 _ h3
    exact h v' w' (by unfold OwnT; rw [List.length_append, cellsL_app]; exact h1) h2 h3
/-- Terms by their slices. -/
structure TK where
  a : Option Addr
  c : Nat
  xs : List Nd
def TK.v (t : TK) : Value := .slice t.a t.xs.length t.c
def TsAt (w : World) (ad : Option Addr) (l : List TK) : Prop := (0 < l.length → ∃ g off, ad = some ⟨g, off, none⟩ ∧ g < w.heap.size ∧ ∀ j (h : j < l.length), w.cell? ⟨g, off + j, none⟩ = some l[j].v) ∧ ∀ t ∈ l, TAt w t.a t.xs ∧ t.xs.length ≤ t.c ∧ TxtIn t.xs
theorem TsAt.below {B : Nat} {w w' : World} {ad : Option Addr} {l : List TK} (h : TsAt w ad l) (hb : Below B w w') (hB : w.heap.size ≤ B) : TsAt w' ad l :=
  ⟨fun h0 => by
    obtain ⟨g, off, h1, h2, h3⟩ := h.1 h0
    exact ⟨g, off, h1, Nat.lt_of_lt_of_le h2 hb.size, fun j hj => (hb.cell (p := ⟨g, off + j, none⟩) (Nat.lt_of_lt_of_le h2 hB)).trans (h3 j hj)⟩, fun t ht => ⟨(h.2 t ht).1.below hb hB, (h.2 t ht).2⟩⟩
/-- A node above terms. -/
def joinL (n : Nd) (ls : List (List Nd)) : List Nd := { n with kids := (ls.length : Int) } :: ls.flatten
theorem joinL_take {n : Nd} {l : List TK} {k : Nat} (hk : k < l.length) : ({ n with kids := (l.length : Int) } :: ((l.take k).map TK.xs).flatten) ++ l[k].xs = { n with kids := (l.length : Int) } :: ((l.take (k + 1)).map TK.xs).flatten := by
  rw [List.take_succ_eq_append_getElem hk]
  simp only [List.map_append, List.map_cons, List.map_nil, List.flatten_append, List.flatten_cons, List.flatten_nil, List.append_nil, List.cons_append]
theorem joinL_le {l : List TK} (k : Nat) : ((l.take k).map TK.xs).flatten.length ≤ (l.map TK.xs).flatten.length := by
  have e : l = l.take k ++ l.drop k := (List.take_append_drop k l).symm
  have : (l.map TK.xs).flatten = ((l.take k).map TK.xs).flatten ++ ((l.drop k).map TK.xs).flatten := by
    rw [← List.flatten_append, ← List.map_append, ← e]
  rw [this, List.length_append]
  omega
theorem info24 : (Tryz.prog.info? 27).map (·.size) = some 1 := by kernel_rfl
set_option maxRecDepth 100000 in
set_option maxHeartbeats 2000000 in
theorem join_any (w : World) (n : Nd) (ad : Option Addr) (c : Nat) (l : List TK) (hT : TsAt w ad l) (hnt : n.txt.size ≤ 281474976710656) (hlen : 1 + (l.map TK.xs).flatten.length ≤ 1000000) (hm : l.length ≤ 1000000) :
    Calls Tryz.prog 34 #[.agg n.cells, .slice ad l.length c] w fun e w' => ∃ v, e = .returned (.agg #[v]) ∧ OwnT w' w.heap.size v (joinL n (l.map TK.xs)) ∧ Below w.heap.size w w' := by
  obtain ⟨k1, n1, b1, t1, d1⟩ := n
  obtain ⟨m, hml⟩ : ∃ m, m = l.length := ⟨_, rfl⟩
  rw [← hml] at hm ⊢
  have hj : joinL ⟨k1, n1, b1, t1, d1⟩ (l.map TK.xs) = (⟨k1, n1, b1, t1, (m : Int)⟩ : Nd) :: (l.map TK.xs).flatten := by
    unfold joinL
    rw [List.length_map, hml]
  rw [hj]
  have hA : Lies ((w.alloc (.cells #[.int .i64 k1, .int .i64 n1, .int .u64 b1, .string t1, .int .i64 m] 36)).alloc (.cells #[.slice none 0 0] 27)) w.heap.size #[.int .i64 k1, .int .i64 n1, .int .u64 b1, .string t1, .int .i64 m] 36 := (Lies.new _ _ _).alloc _
  have hB : Lies ((w.alloc (.cells #[.int .i64 k1, .int .i64 n1, .int .u64 b1, .string t1, .int .i64 m] 36)).alloc (.cells #[.slice none 0 0] 27)) (w.heap.size + 1) #[.slice none 0 0] 27 := by
    have := Lies.new (w.alloc (.cells #[.int .i64 k1, .int .i64 n1, .int .u64 b1, .string t1, .int .i64 m] 36)) #[.slice none 0 0] 27
    simpa using this
  have hb0 : Below w.heap.size w ((w.alloc (.cells #[.int .i64 k1, .int .i64 n1, .int .u64 b1, .string t1, .int .i64 m] 36)).alloc (.cells #[.slice none 0 0] 27)) := ((Below.refl _ _).alloc (Nat.le_refl _) _).alloc (by simp) _
  have H := Lib.hid (And.intro hT (And.intro hnt (And.intro hlen (And.intro hm hml))))
  clear hT hnt hlen hm hj hml
  unfold Nd.cells
  go_enter Tryz.func34, Tryz.ntmps34
  go_upto_region 2 with fail
  generalize ((w.alloc (.cells #[.int .i64 k1, .int .i64 n1, .int .u64 b1, .string t1, .int .i64 m] 36)).alloc (.cells #[.slice none 0 0] 27)) = W0 at hA hB hb0 ⊢
  have c0 := hA.cell 0 (v := .int .i64 k1) rfl
  have c1 := hA.cell 1 (v := .int .i64 n1) rfl
  have c2 := hA.cell 2 (v := .int .u64 b1) rfl
  have c3 := hA.cell 3 (v := .string t1) rfl
  have c4 := hA.cell 4 (v := .int .i64 m) rfl
  have H0 := Lib.hid (And.intro hB hb0)
  clear hA hB hb0
  have hrow : NAt (W0.alloc (.cells #[.int .i64 k1, .int .i64 n1, .int .u64 b1, .string t1, .int .i64 m] 36)) W0.heap.size 0 [⟨k1, n1, b1, t1, (m : Int)⟩] := by
    refine ⟨by simp, fun j hj i v hv => ?_⟩
    obtain rfl : j = 0 := by simpa using hj
    rw [show 0 + 0 * 5 + i = i by omega]
    exact (Lies.new W0 _ 36).cell i hv
  have hTn : TAt (W0.alloc (.cells #[.int .i64 k1, .int .i64 n1, .int .u64 b1, .string t1, .int .i64 m] 36)) (some ⟨W0.heap.size, 0, none⟩) [⟨k1, n1, b1, t1, (m : Int)⟩] :=
    ⟨fun _ => ⟨_, 0, rfl, hrow⟩, by simp, fun x hx => by
      obtain rfl := List.mem_singleton.1 hx
      have := H.out.2.2.2.1
      simp only
      omega⟩
  have hown1 := own_any _ _ 1 _ hTn (fun x hx => by
      obtain rfl := List.mem_singleton.1 hx
      exact H.out.2.1)
  have HO := Lib.hid hown1
  clear hrow hTn hown1
  go_wp2_with fail
  refine HO.out.mono ?_
  rintro e W2 ⟨v0, rfl, ho, hb2⟩
  have hbA : Below W0.heap.size W0 W2 := ((Below.refl _ _).alloc (Nat.le_refl _) _).trans (hb2.mono (by simp))
  obtain ⟨va, vn, vc, rfl⟩ := ho.isSlice
  have HO2 := Lib.hid (And.intro (ho.mono (B' := W0.heap.size) (by simp)) hbA)
  clear ho hb2 hbA c0 c1 c2 c3 c4 HO
  go_wp2_with fail
  go_loopw [5, 16] (fun v i W => ∃ (k : Nat) (va : Option Addr) (vn vc : Nat), k ≤ m ∧ i = .int .i64 k ∧ v = .slice va vn vc ∧ OwnT W W0.heap.size (.slice va vn vc) ((⟨k1, n1, b1, t1, (m : Int)⟩ : Nd) :: ((l.take k).map TK.xs).flatten) ∧ Below W0.heap.size W0 W) (fun _ i _ => (m - intOf i).toNat)
  case atStart => exact ⟨0, va, vn, vc, by omega, by go_num, rfl, by simpa using HO2.out.1, HO2.out.2⟩
  case round =>
    obtain ⟨k, va, vn, vc, hk, rfl, rfl, hown, hbr⟩ := hrel
    by_cases hlt : k < m
    · have hkl : k < l.length := by rw [← H.out.2.2.2.2]; exact hlt
      have hbw := H0.out.2.trans (hbr.mono H0.out.2.size)
      have hT := H.out.1.below hbw (Nat.le_refl _)
      obtain ⟨g, off, ea, hg, hcs⟩ := hT.1 (by omega)
      subst ea
      have hck := hcs k hkl
      have htk := hT.2 l[k] (List.getElem_mem hkl)
      have hstep := joinL_take (n := ⟨k1, n1, b1, t1, 0⟩) hkl
      have hlen2 := joinL_le (l := l) (k + 1)
      obtain ⟨t, et⟩ : ∃ t, t = l[k] := ⟨_, rfl⟩
      rw [← et] at hck htk hstep
      rw [← H.out.2.2.2.2] at hstep
      simp only at hstep
      obtain ⟨ta, tc, txs⟩ := t
      unfold TK.v at hck
      simp only at hck htk hstep
      have hb5 : Below wr.heap.size wr (wr.alloc (.cells #[.slice ta txs.length tc] 27)) := (Below.refl _ _).alloc (Nat.le_refl _) _
      have hA5 : Lies (wr.alloc (.cells #[.slice ta txs.length tc] 27)) wr.heap.size #[.slice ta txs.length tc] 27 := Lies.new _ _ _
      have hown5 := own_any _ ta tc txs (htk.1.below hb5 (Nat.le_refl _)) htk.2.2
      have hlx : ((⟨k1, n1, b1, t1, (m : Int)⟩ : Nd) :: ((l.take k).map TK.xs).flatten).length + txs.length ≤ 1000000 := by
        have := congrArg List.length hstep
        rw [List.length_append] at this
        have h3 := H.out.2.2.1
        simp only [List.length_cons] at this ⊢
        omega
      obtain ⟨ys, hys⟩ : ∃ ys, ys = ((⟨k1, n1, b1, t1, (m : Int)⟩ : Nd) :: ((l.take k).map TK.xs).flatten) := ⟨_, rfl⟩
      rw [← hys] at hown hstep hlx
      obtain ⟨nx, hnx⟩ : ∃ nx, nx = txs.length := ⟨_, rfl⟩
      rw [← hnx] at hck hb5 hA5 hown5
      have q0 : (0 : Int) ≤ (k : Int) := by omega
      have q1 : (k : Int) < (m : Int) := by omega
      have q2 : (m : Int) ≤ 1000000 := by have := H.out.2.2.2.1; omega
      have HR := Lib.hid (And.intro hown (And.intro hbr (And.intro hstep hlx)))
      have HO5 := Lib.hid hown5
      clear hown hbr hstep hlx hown5 hcs htk hT hbw hg hys hlen2 et hnx hkl
      go_upto_region 6 with fail
      generalize wr.alloc (.cells #[.slice ta nx tc] 27) = W5 at hb5 hA5 HO5 ⊢
      have y0 := hA5.cell 0 (v := .slice ta nx tc) rfl
      have HB5 := Lib.hid hb5
      clear hA5 hb5 hck
      go_wp2_with fail
      refine HO5.out.mono ?_
      rintro e W6 ⟨v6, rfl, ho6, hb6⟩
      have hb56 := HB5.out.trans (hb6.mono HB5.out.size)
      have hbW := HR.out.2.1.trans (hb56.mono HR.out.2.1.size)
      have HAP := Lib.hid (And.intro (HR.out.1.kept hb56) (And.intro ho6.src hbW))
      clear ho6 hb6 hb56 hbW y0
      go_wp2_with (at_builtin; go_must (refine wpList_append_T rfl _ _ rfl W0.heap.size _ _ ys txs rfl HAP.out.1 rfl HAP.out.2.1 HR.out.2.2.2 HAP.out.2.2.size ?_; intro v' w7 hown7 hgrow hat))
      obtain ⟨wa, wn, wc, rfl⟩ := hown7.isSlice
      have HN := Lib.hid (And.intro hown7 (HAP.out.2.2.grown hgrow HAP.out.2.2.size (fun k e => HAP.out.1.above e)))
      clear hown7 hgrow hat
      go_roundw
      case rel => exact ⟨k + 1, wa, wn, wc, by omega, by go_num, rfl, by rw [← HR.out.2.2.1]; exact HN.out.1, HN.out.2⟩
      case measure => simp [intOf]; omega
    · have hke : k = m := by omega
      subst hke
      have hfull : (l.take k).map TK.xs = l.map TK.xs := by rw [H.out.2.2.2.2, List.take_length]
      rw [hfull] at hown
      have hr := H0.out.1.below hbr H0.out.1.lt
      have HX := Lib.hid (And.intro hown (And.intro hr hbr))
      clear hown hr hbr hfull hlt hk
      go_wp2_with (refine wpList_store_row rfl 27 _ _ rfl (w.heap.size + 1) #[.slice va vn vc] rfl rfl 27 #[.slice none 0 0] HX.out.2.1 info24 rfl (by simp [Value.oneCell']) ?_)
      refine bodyPost_ret (v := .agg #[.slice va vn vc]) (results_cell_row (p := 4) (ty := 27) (by kernel_rfl) _ _ (w.heap.size + 1) 27 #[.slice va vn vc] (0, 0) _ rfl (HX.out.2.1.setRow _) Tryz.underlying27 rfl info24) rfl ⟨.slice va vn vc, rfl, ?_, ?_⟩
      · exact (OwnT.setRow HX.out.1 _ _ H0.out.1.lt).mono H0.out.2.size
      · exact below_setRow (H0.out.2.trans (HX.out.2.2.mono H0.out.2.size)) _ _ (by omega)
end Go.Proofs.YtieoiklgoeclaaaGreat
