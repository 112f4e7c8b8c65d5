/-
  TermRow: terms as they stand in memory, with all that the calls want of them; some (4).
  TermRow: SameTerms (31) of two rows of the same terms; the document's own Kids (33), Kid (29).
  TermRow: the document's own Kids (33).
  TermRow: the document's own Kids (33) of what is no term, Kid (29).
-/
import Derived.Test.YtieoiklgoeclaaaGreatRj
import Derived.Test.YtieoiklgoeclaaaGreatTawk
import Derived.Test.YtieoiklgoeclaaaGreatRlp
import Derived.Lib.QuietBelow
namespace Go.Proofs.YtieoiklgoeclaaaGreat
open Go.RowKit

/-- A term in memory, with all that the calls want of it. -/
structure TG (w : World) (t : TK) : Prop where
  tat : TAt w t.a t.xs
  room : t.xs.length ≤ t.c
  nil0 : t.a = none → t.c = 0
  words : Words t.xs
  txt : ∀ x ∈ t.xs, x.txt.size ≤ 1000000000000
theorem TG.below {w w' : World} {t : TK} (h : TG w t) (hb : Below w.heap.size w w') : TG w' t := ⟨h.tat.below hb (Nat.le_refl _), h.room, h.nil0, h.words, h.txt⟩
theorem TG.tw {w : World} {t : TK} (h : TG w t) : TW w t.a t.xs := ⟨h.tat, h.words, fun x hx => Nat.le_trans (h.txt x hx) (by omega)⟩
theorem TG.txtIn {w : World} {t : TK} (h : TG w t) : TxtIn t.xs := fun x hx => Nat.le_trans (h.txt x hx) (by omega)
/-- A call has told a term. -/
def GotT (w : World) (xs : List Nd) (n : Nat) (e : Ending) (w' : World) : Prop := ∃ a c, e = .returned (.agg #[.slice a n c]) ∧ TG w' ⟨a, c, xs⟩ ∧ Below w.heap.size w w'
theorem gotT_of {w : World} {xs : List Nd} {n : Nat} (hn : xs.length = n) (hw : Words xs) (ht : ∀ x ∈ xs, x.txt.size ≤ 1000000000000) {e : Ending} {w' : World} (h : TermR w xs e w') : GotT w xs n e w' := by
  obtain ⟨⟨a, c, ys⟩, h1, h2, h3, h4, h5, h6⟩ := h
  simp only at h1 h2 h3 h4 h5
  subst h1
  unfold TK.v at h2
  rw [hn] at h2
  exact ⟨a, c, h2, ⟨h3, h4, h5, hw, ht⟩, h6⟩
theorem one_words {x : Nd} (h : x.bits < 2 ^ 64) : Words [x] := fun y hy => by rw [List.mem_singleton.1 hy]; exact h
theorem one_txt {x : Nd} (h : x.txt.size ≤ 1000000000000) : ∀ y ∈ [x], y.txt.size ≤ 1000000000000 := fun y hy => by rw [List.mem_singleton.1 hy]; exact h
theorem numG (w : World) (n : Int) : Calls Tryz.prog 13 #[.int .i64 n] w (GotT w [nN n] 1) := (numT_any w n).mono fun _ _ h => gotT_of rfl (one_words (by simp)) (one_txt (Nat.zero_le _)) h
theorem blobG (w : World) (s : ByteArray) (hs : s.size ≤ 1000000000000) : Calls Tryz.prog 14 #[.string s] w (GotT w [nB s] 1) := (blobT_any w s).mono fun _ _ h => gotT_of rfl (one_words (by simp)) (one_txt hs) h
theorem realG (w : World) (b : Nat) (hb : b < 2 ^ 64) : Calls Tryz.prog 15 #[.int .u64 b] w (GotT w [nR b] 1) := (realT_any w b).mono fun _ _ h => gotT_of rfl (one_words hb) (one_txt (Nat.zero_le _)) h
def nK (k : Int) : Nd := ⟨k, 0, 0, ⟨#[]⟩, 0⟩
/-- Terms in a row, with all that the calls want of them. -/
structure TsG (w : World) (ad : Option Addr) (l : List TK) : Prop where
  row : 0 < l.length → ∃ g off, ad = some ⟨g, off, none⟩ ∧ g < w.heap.size ∧ ∀ j (h : j < l.length), w.cell? ⟨g, off + j, none⟩ = some l[j].v
  each : ∀ t ∈ l, TG w t
theorem TsG.below {w w' : World} {ad : Option Addr} {l : List TK} (h : TsG w ad l) (hb : Below w.heap.size w w') : TsG w' ad l :=
  ⟨fun h0 => by
    obtain ⟨g, off, h1, h2, h3⟩ := h.row h0
    exact ⟨g, off, h1, Nat.lt_of_lt_of_le h2 hb.size, fun j hj => (hb.cell (p := ⟨g, off + j, none⟩) h2).trans (h3 j hj)⟩, fun t ht => (h.each t ht).below hb⟩
theorem TsG.ts {w : World} {ad : Option Addr} {l : List TK} (h : TsG w ad l) : TsAt w ad l := ⟨h.row, fun t ht => ⟨(h.each t ht).tat, (h.each t ht).room, (h.each t ht).txtIn⟩⟩
theorem TsG.nilOk {w : World} {ad : Option Addr} {l : List TK} (h : TsG w ad l) : NilOk l := fun t ht => (h.each t ht).nil0
theorem join_txt {n : Nd} {ls : List (List Nd)} (hn : n.txt.size ≤ 1000000000000) (h : ∀ xs ∈ ls, ∀ x ∈ xs, x.txt.size ≤ 1000000000000) : ∀ x ∈ joinL n ls, x.txt.size ≤ 1000000000000 := fun x hx => by
  unfold joinL at hx
  rcases List.mem_cons.1 hx with rfl | hx
  · exact hn
  · obtain ⟨xs, h1, h2⟩ := List.mem_flatten.1 hx
    exact h xs h1 x h2
theorem joinG {w : World} {ad : Option Addr} {l : List TK} (h : TsG w ad l) {n : Nd} (hn : n.bits < 2 ^ 64) (ht : n.txt.size ≤ 1000000000000) : Words (joinL n (l.map TK.xs)) ∧ ∀ x ∈ joinL n (l.map TK.xs), x.txt.size ≤ 1000000000000 :=
  ⟨join_words hn fun xs hx => by obtain ⟨t, h1, rfl⟩ := List.mem_map.1 hx; exact (h.each t h1).words, join_txt ht fun xs hx => by obtain ⟨t, h1, rfl⟩ := List.mem_map.1 hx; exact (h.each t h1).txt⟩
theorem ofG (w : World) (k : Int) (ad : Option Addr) (m c : Nat) (l : List TK) (L : List (List Nd)) (n : Nat) (hm : m = l.length) (hL : l.map TK.xs = L) (h : TsG w ad l) (hn : (joinL (nK k) L).length = n) (h1 : n ≤ 1000000) (h2 : m ≤ 1000000) :
    Calls Tryz.prog 7 #[.int .i64 k, .slice ad m c] w (GotT w (joinL (nK k) L) n) := by
  subst hL hm
  have hlen : 1 + (l.map TK.xs).flatten.length ≤ 1000000 := by rw [← hn] at h1; simp only [joinL, List.length_cons] at h1; omega
  refine (ofT_any w k ad c l h.ts h.nilOk hlen h2).mono fun _ _ hh => ?_
  obtain ⟨j1, j2⟩ := joinG h (n := nK k) (by simp [nK]) (Nat.zero_le _)
  exact gotT_of hn j1 j2 hh
theorem rjoinG (w : World) (x : Nd) (hx : x.bits < 2 ^ 64) (hxt : x.txt.size ≤ 1000000000000) (ad : Option Addr) (m c : Nat) (l : List TK) (L : List (List Nd)) (n : Nat) (hm : m = l.length) (hL : l.map TK.xs = L) (h : TsG w ad l) (hn : (joinL x L).length = n) (h1 : n ≤ 1000000) (h2 : m ≤ 1000000) :
    Calls Tryz.prog 16 #[.agg x.cells, .slice ad m c] w (GotT w (joinL x L) n) := by
  subst hL hm
  have hlen : 1 + (l.map TK.xs).flatten.length ≤ 1000000 := by rw [← hn] at h1; simp only [joinL, List.length_cons] at h1; omega
  have hj := rjoin_any w x ad c l h.ts h.nilOk hlen h2
  refine hj.mono fun e w' hh => ?_
  obtain ⟨j1, j2⟩ := joinG h hx hxt
  obtain ⟨v, h3, h4, h5⟩ := hh
  have := join_term h4 hlen (by rw [List.length_map]; exact h2) (fun xs hxs y hy => by obtain ⟨t, k1, rfl⟩ := List.mem_map.1 hxs; exact (h.each t k1).tat.2.2 y hy) h5
  rw [← h3] at this
  exact gotT_of hn j1 j2 this
/-- Terms that were told one by one stay. -/
structure Kept (w0 w : World) (L : List TK) : Prop where
  below : Below w0.heap.size w0 w
  each : ∀ t ∈ L, TG w t
theorem Kept.nil (w : World) : Kept w w [] := ⟨Below.refl _ _, fun t h => by cases h⟩
theorem Kept.more {w0 w w' : World} {L : List TK} {t : TK} (h : Kept w0 w L) (hb : Below w.heap.size w w') (ht : TG w' t) : Kept w0 w' (L ++ [t]) :=
  ⟨h.below.trans (hb.mono h.below.size), fun u hu => by
    rcases List.mem_append.1 hu with hu | hu
    · exact (h.each u hu).below hb
    · rw [List.mem_singleton.1 hu]; exact ht⟩
theorem Kept.on {w0 w w' : World} {L : List TK} (h : Kept w0 w L) (hb : Below w.heap.size w w') : Kept w0 w' L := ⟨h.below.trans (hb.mono h.below.size), fun u hu => (h.each u hu).below hb⟩
/-- A row that was just laid. -/
theorem tsG_new {w0 w : World} {L : List TK} (h : Kept w0 w L) (l : List TK) (cs : Array Value) (hcs : cs = (l.map TK.v).toArray) (hl : ∀ t ∈ l, t ∈ L) : TsG (w.alloc (.cells cs 27)) (some ⟨w.heap.size, 0, none⟩) l := by
  subst hcs
  have hb : Below w.heap.size w (w.alloc (.cells (l.map TK.v).toArray 27)) := (Below.refl _ _).alloc (Nat.le_refl _) _
  refine ⟨fun _ => ⟨w.heap.size, 0, rfl, by simp, fun j hj => ?_⟩, fun t ht => (h.each t (hl t ht)).below hb⟩
  rw [Nat.zero_add]
  exact (Lies.new w (l.map TK.v).toArray 27).cell j (by simp [hj])
theorem tsG_none (w : World) : TsG w none [] := ⟨fun h => by simp at h, fun t h => by cases h⟩
end Go.Proofs.YtieoiklgoeclaaaGreat
namespace Go.Proofs.YtieoiklgoeclaaaGreat
open Go.RowKit

theorem sameN_eq {xs ys : List Nd} (h : xs = ys) : sameN xs ys = true := by rw [h]; exact sameN_refl _
set_option maxRecDepth 100000 in
set_option maxHeartbeats 1000000 in
theorem sameTerms_any (w : World) (a b : Option Addr) (c1 c2 : Nat) (l m : List TK) (hl : TsAt w a l) (hm : TsAt w b m) (he : l.map TK.xs = m.map TK.xs) (hn : l.length ≤ 1000000) :
    Calls Tryz.prog 31 #[.slice a l.length c1, .slice b m.length c2] w fun e w' => e = .returned (.bool true) ∧ Below w.heap.size w w' := by
  have hlm : m.length = l.length := by have := congrArg List.length he; simpa using this.symm
  rw [hlm]
  obtain ⟨n, hnn⟩ : ∃ n, n = l.length := ⟨_, rfl⟩
  rw [← hnn] at hn ⊢
  have q9 : (n : Int) ≤ 1000000 := by omega
  have H := Lib.hid (And.intro hl (And.intro hm (And.intro he (And.intro hnn hlm))))
  have e1 : ((n : Int) != (n : Int)) = false := by simp
  clear hl hm he hnn hlm hn
  go_enter Tryz.func31, Tryz.ntmps31
  go_wp2_with fail
  clear e1
  go_loopw [5] (fun i W => ∃ k : Nat, k ≤ n ∧ i = .int .i64 k ∧ Below w.heap.size w W) (fun i _ => (n - intOf i).toNat)
  case atStart => exact ⟨0, by omega, by go_num, Below.refl _ _⟩
  case round =>
    obtain ⟨k, hk, rfl, hbr⟩ := hrel
    by_cases hlt : k < n
    · have hx : k < l.length := by rw [← H.out.2.2.2.1]; exact hlt
      have hy : k < m.length := by rw [H.out.2.2.2.2]; exact hx
      have hL := H.out.1.below hbr (Nat.le_refl _)
      have hM := H.out.2.1.below hbr (Nat.le_refl _)
      obtain ⟨g1, o1, ea, -, hc1⟩ := hL.1 (by omega)
      obtain ⟨g2, o2, eb, -, hc2⟩ := hM.1 (by omega)
      subst ea eb
      have x0 := hc1 k hx
      have y0 := hc2 k hy
      have hxy : l[k].xs = m[k].xs := by
        have h1 : (l.map TK.xs)[k]? = some l[k].xs := by simp [hx]
        have h2 : (m.map TK.xs)[k]? = some m[k].xs := by simp [hy]
        rw [H.out.2.2.1, h2] at h1
        exact (Option.some.inj h1).symm
      have hq : ∀ V, Below wr.heap.size wr V → Calls Tryz.prog 30 #[.agg #[l[k].v], .agg #[m[k].v]] V fun e w' => e = .returned (.bool true) ∧ Below V.heap.size V w' := fun V hV => by
        have := sameTerm_any V l[k].a m[k].a l[k].c m[k].c l[k].xs m[k].xs ((hL.2 _ (List.getElem_mem hx)).1.below hV (Nat.le_refl _)) ((hM.2 _ (List.getElem_mem hy)).1.below hV (Nat.le_refl _))
        rw [sameN_eq hxy] at this
        exact this
      obtain ⟨t, et⟩ : ∃ t, t = l[k] := ⟨_, rfl⟩
      obtain ⟨u, eu⟩ : ∃ t, t = m[k] := ⟨_, rfl⟩
      rw [← et] at x0 hq
      rw [← eu] at y0 hq
      obtain ⟨ta, tc, txs⟩ := t
      obtain ⟨ua, uc, uxs⟩ := u
      unfold TK.v at x0 y0 hq
      simp only at x0 y0 hq
      obtain ⟨nx, hnx⟩ : ∃ n, n = txs.length := ⟨_, rfl⟩
      obtain ⟨ny, hny⟩ : ∃ n, n = uxs.length := ⟨_, rfl⟩
      rw [← hnx] at x0 hq
      rw [← hny] at y0 hq
      have q0 : (0 : Int) ≤ (k : Int) := by omega
      have q1 : (k : Int) < (n : Int) := by omega
      have HQ := Lib.hid hq
      have HR := Lib.hid hbr
      have fin : ∀ w9, (∃ p : Regrown, w9 = Sort.grow (redrawn wr p.d) p.os) → Below w.heap.size w w9 := fun w9 ⟨p, hp⟩ => by rw [hp]; exact HR.out.trans ((below_regrown _ _ _).mono HR.out.size)
      have FIN := Lib.hid fin
      clear hq hbr fin hL hM hc1 hc2 hxy et eu hnx hny hx hy hlt
      have r0 := fun d os => cell_regrown x0 d os
      have r1 := fun d os => cell_regrown y0 d os
      go_upto_region 6 with fail
      refine wp_region_quiet_below (by kernel_rfl) (by kernel_rfl) ?_
      iterate 10 (first | go_big_quiet_step (first | (go_at_call 30; exact Calls.regrown_of (HQ.out _ (below_regrown _ _ _)))) | quiet_step (first | (go_at_call 30; exact Calls.regrown_of (HQ.out _ (below_regrown _ _ _)))))
      refine wpQuiet_nil ?_
      intro w9 hw9
      have F9 := Lib.hid (FIN.out w9 hw9)
      clear hw9
      go_wp2_with fail
      exact ⟨⟨k + 1, by omega, by go_num, F9.out⟩, by simp [intOf]; omega⟩
    · have q1 : ¬ (k : Int) < (n : Int) := by omega
      have HZ := Lib.hid hbr
      clear hbr hlt
      go_wp2_with fail
      go_ret
      exact ⟨rfl, HZ.out⟩
theorem held_done {P : Program} {ops : Array Oper} {Q : Exit → Act → World → Prop} {md : Region.Mode} {S : World → Prop} {fuel : Nat} {listed : Array Bool} {a : Act} {w : World} (hr : Region.ready md ops listed = []) (h : Q .normal a w) : wpAnyH P md ops Q S fuel listed a w := by
  cases fuel with
  | zero => exact ⟨hr, h⟩
  | succ f => exact ⟨fun _ => h, fun i hi => by rw [hr] at hi; cases hi⟩
theorem append_K_run {o : Oper} {a : Act} {w : World} (s x : Operand)
    (ho : o.op = .call { callee := .builtin .append, args := #[s, x], argTypes := #[22, 22] }) (B : Nat) (v : Value) (l : List TK) (t : TK) (g : Nat) (hs : a.eval s = v) (hown : OwnK w B v l) (hx : a.eval x = .slice (some ⟨g, 0, none⟩) 1 1) (hg : Lies w g #[t.v] 27) (ht : OwnT w B t.v t.xs) (hlen : l.length + 1 ≤ 1000000) (hB : B ≤ w.heap.size) :
    ∃ v' w', (execOp a.eval o).run Tryz.prog w = .ok (.value v') w' ∧ OwnK w' B v' (l ++ [t]) ∧ w.grownBy w' v.ownBlock := by
  obtain ⟨i0, hi0, hz0, hz1, hz2⟩ := info_parts info24z
  obtain ⟨v', w', hr, h2, h3, _, h5⟩ := run_append_own_at (P := Tryz.prog) w B 22 o.type 27 i0 (.agg #[.slice none 0 0]) 1 24 Tryz.underlying22 hi0 hz0 hz1 hz2 rfl (by decide) v l.length (l.map TK.v) hown.1 ⟨g, 0, none⟩ 1 1 [t.v] rfl (fun j u hu => by
    have hj : j = 0 := by
      have := (List.getElem?_eq_some_iff.1 hu).1
      simpa using this
    subst hj
    have hu2 : t.v = u := by simpa using hu
    subst hu2
    exact hg.cell 0 rfl) (fun u hu => by rw [List.mem_singleton.1 hu]; rfl) (by unfold maxLen; omega) (by omega) hB
  have hK : OwnK w' B v' (l ++ [t]) := by
    refine ⟨by rw [List.length_append, List.map_append]; exact h2, fun u hu => ?_⟩
    rcases List.mem_append.1 hu with h | h
    · exact (hown.2 u h).grown24 hown.1 h3
    · obtain rfl := List.mem_singleton.1 h
      exact ht.grown24 hown.1 h3
  obtain ⟨a', c', rfl, -⟩ := hK.isSlice
  refine ⟨_, w', ?_, hK, h3⟩
  unfold execOp
  simp only [ho, resolve, invoke, builtin, Sem.run_bind, Sem.run_pure, Result.andThen_ok, List.map_toArray, List.map_cons, List.map_nil, hs, hx, hr]
end Go.Proofs.YtieoiklgoeclaaaGreat
namespace Go.Proofs.YtieoiklgoeclaaaGreat
open Go.RowKit

theorem slice_sub (w : World) (g off n nc pp x1 : Nat) (h1 : pp ≤ x1) (h2 : x1 ≤ nc) (h3 : pp < nc) :
    (Instr.slice 25 (.slice (some ⟨g, off, none⟩) n nc) (some (.int .i64 (pp : Int))) (some (.int .i64 (x1 : Int))) none).run Tryz.prog w = .ok (.slice (some ⟨g, off + pp * 5, none⟩) (x1 - pp) (nc - pp)) w := by
  have q1 : (0 : Int) ≤ (pp : Int) := by omega
  have q2 : (pp : Int) ≤ (x1 : Int) := by omega
  have q3 : (x1 : Int) ≤ (nc : Int) := by omega
  have q4 : ¬ nc = pp := by omega
  have q5 : ¬ pp = nc := by omega
  have q6 : (pp : Int) ≤ (nc : Int) := by omega
  have q7 : (0 : Int) ≤ (x1 : Int) := by omega
  simp [go_sem, q1, q2, q3, q4, q5, q6, q7, h1, h2, h3]
section
variable {ops : Array Oper} {Q : Exit → Act → World → Prop} {md : Region.Mode} {S : World → Prop}
theorem held_app_T {i : Nat} {o : Oper} {fuel : Nat} {listed : Array Bool} {a : Act} {w : World} (hr : Region.ready md ops listed = [i]) (l2 : Array Bool) (hl : listed.setIfInBounds i true = l2)
    (hi : ops[i]? = some o) (hw : Region.wanted o (yielded ops a.tmps) = true) (d : Tmp) (hd : o.dst = some d) (s x : Operand)
    (ho : o.op = .call { callee := .builtin .append, args := #[s, x], argTypes := #[25, 25] }) (B : Nat) (v bv : Value) (ys xs : List Nd) (hs : a.eval s = v) (hown : OwnT w B v ys) (hx : a.eval x = bv) (hsrc : SrcT w bv xs) (hlen : ys.length + xs.length ≤ 1000000) (hB : B ≤ w.heap.size)
    (h : ∀ v' w', OwnT w' B v' (ys ++ xs) → w.grownBy w' v.ownBlock → S w' ∧ wpAnyH Tryz.prog md ops Q S fuel l2 (a.put (some d) v') w') : wpAnyH Tryz.prog md ops Q S (fuel + 1) listed a w := by
  obtain ⟨v', w', hrun, h1, h2, -⟩ := append_T_run s x ho B v bv ys xs hs hown hx hsrc hlen hB
  exact held_one hr l2 hl (wpOp_valG hi hw d hd hrun (h v' w' h1 h2))
theorem held_app_K {i : Nat} {o : Oper} {fuel : Nat} {listed : Array Bool} {a : Act} {w : World} (hr : Region.ready md ops listed = [i]) (l2 : Array Bool) (hl : listed.setIfInBounds i true = l2)
    (hi : ops[i]? = some o) (hw : Region.wanted o (yielded ops a.tmps) = true) (d : Tmp) (hd : o.dst = some d) (s x : Operand)
    (ho : o.op = .call { callee := .builtin .append, args := #[s, x], argTypes := #[22, 22] }) (B : Nat) (v : Value) (l : List TK) (t : TK) (g : Nat) (hs : a.eval s = v) (hown : OwnK w B v l) (hx : a.eval x = .slice (some ⟨g, 0, none⟩) 1 1) (hg : Lies w g #[t.v] 27) (ht : OwnT w B t.v t.xs) (hlen : l.length + 1 ≤ 1000000) (hB : B ≤ w.heap.size)
    (h : ∀ v' w', OwnK w' B v' (l ++ [t]) → w.grownBy w' v.ownBlock → S w' ∧ wpAnyH Tryz.prog md ops Q S fuel l2 (a.put (some d) v') w') : wpAnyH Tryz.prog md ops Q S (fuel + 1) listed a w := by
  obtain ⟨v', w', hrun, h1, h2⟩ := append_K_run s x ho B v l t g hs hown hx hg ht hlen hB
  exact held_one hr l2 hl (wpOp_valG hi hw d hd hrun (h v' w' h1 h2))
end
set_option maxRecDepth 100000 in
set_option maxHeartbeats 4000000 in
theorem rkids_ok (w : World) (a : Option Addr) (nc : Nat) (xs : List Nd) (x0 : Nd) (K : Fo) (hxs : xs = (Fo.cons x0 K .nil).flat) (hk : TAt w a xs) (ht : TxtIn xs) (hc : xs.length ≤ nc) :
    Calls Tryz.prog 33 #[.agg #[.slice a xs.length nc]] w (SliceR w (KidsR w.heap.size K)) := by
  obtain ⟨E0, D0, hl0, -⟩ := laid_fo (Fo.cons x0 K .nil) rfl
  rw [← hxs] at hl0
  obtain ⟨g, off, ea, hx⟩ := hk.1 hl0.1
  subst ea
  have h1d : xs.drop 1 = K.flat := by rw [hxs]; simp [Fo.flat]
  have hkd : ∀ (h : 0 < xs.length), xs[0].kids = (K.cnt : Int) := fun h => by
    subst hxs
    rfl
  have hcn : K.cnt ≤ 1000000 := by have := (kids_bound hxs).1; have := hk.2.1; omega
  have h0 := hl0.1
  obtain ⟨n, hn⟩ : ∃ n, n = xs.length := ⟨_, rfl⟩
  have hle : n ≤ 1000000 := by rw [hn]; exact hk.2.1
  have hA : Lies (w.alloc (.cells #[.slice (some ⟨g, off, none⟩) n nc] 27)) w.heap.size #[.slice (some ⟨g, off, none⟩) n nc] 27 := Lies.new _ _ _
  have hb0 : Below w.heap.size w (w.alloc (.cells #[.slice (some ⟨g, off, none⟩) n nc] 27)) := (Below.refl _ _).alloc (Nat.le_refl _) _
  have he : ∀ V, Below w.heap.size w V → Calls Tryz.prog 40 #[.agg #[.slice (some ⟨g, off, none⟩) n nc]] V (EndsR V n (ksOf xs)) := fun V hV => by
    rw [hn]; exact ends_any V _ xs.length nc (ksOf xs) hk.2.1 (hk.below hV (Nat.le_refl _)).ks
  rw [← hn] at hc ⊢
  have H := Lib.hid (And.intro hx (And.intro hn (And.intro h1d (And.intro ht (And.intro hk.2.2 (And.intro hkd (And.intro h0 (And.intro he (And.intro hl0 hxs)))))))))
  have q9 : (n : Int) ≤ 1000000 := by omega
  have q8 : (K.cnt : Int) ≤ 1000000 := by omega
  obtain ⟨kc0, hkc0⟩ : ∃ k, k = K.cnt := ⟨_, rfl⟩
  rw [← hkc0] at q8
  have HKC := Lib.hid hkc0
  clear hx hn h1d ht hk hkd hcn h0 he hl0 hxs hkc0
  go_enter Tryz.func33, Tryz.ntmps33
  go_upto_region 1 with fail
  generalize w.alloc (.cells #[.slice (some ⟨g, off, none⟩) n nc] 27) = W0 at hA hb0 ⊢
  have c0 := hA.cell 0 (v := .slice (some ⟨g, off, none⟩) n nc) rfl
  have HA := Lib.hid (And.intro hA hb0)
  clear hA hb0
  go_wp2_with fail
  refine (H.out.2.2.2.2.2.2.2.1 _ HA.out.2).mono ?_
  rintro e w2 (⟨E, D, gE, hl, rfl, hgE, hzE, hb⟩ | ⟨hl, x, m, c, rfl, hb⟩)
  rotate_left
  · exfalso
    have := layOf_laid H.out.2.2.2.2.2.2.2.2.1
    rw [H.out.2.1] at hl
    rw [hl] at this
    cases this
  rw [H.out.2.1] at hl
  have hgood : GoodL xs E D 0 := by
    have h10 := H.out.2.2.2.2.2.2.2.2.2
    rw [h10] at hl ⊢
    exact laid_good hl
  have hS : ∀ V, Below w2.heap.size w2 V → V.cell? ⟨w.heap.size, 0, none⟩ = some (.slice (some ⟨g, off, none⟩) n nc) ∧ Lies V gE (iv n E) 3 ∧ NAt V g off xs ∧ V.cell? ⟨g, off + 4, none⟩ = some (.int .i64 (kc0 : Int)) ∧ Below w.heap.size w V := fun V hV => by
    have h02 := hb.trans (hV.mono hb.size)
    have hw := HA.out.2.trans (h02.mono HA.out.2.size)
    have hN := H.out.1.below hw H.out.1.1
    refine ⟨(HA.out.1.below h02 HA.out.1.lt).cell 0 rfl, hzE.below hV hzE.lt, hN, ?_, hw⟩
    have := hN.2 0 H.out.2.2.2.2.2.2.1 4 (.int .i64 (xs[0]'(H.out.2.2.2.2.2.2.1)).kids) rfl
    rw [show off + 0 * 5 + 4 = off + 4 by omega, H.out.2.2.2.2.2.1, ← HKC.out] at this
    exact this
  have HS := Lib.hid hS
  have HG := Lib.hid (And.intro hgood hgE)
  obtain ⟨c2, -, -, c4, -⟩ := hS w2 (Below.refl _ _)
  clear hS hgood hgE hzE hb hl c0
  go_upto_region 7 with fail
  clear c2 c4
  go_loopw [5, 6, 7] (fun v i c W => ∃ (r : Fo) (l : List TK) (pp z : Nat) (va : Option Addr) (vn vc : Nat), v = .slice va vn vc ∧ i = .int .i64 pp ∧ c = .int .i64 z ∧ pp ≤ n ∧ z + r.cnt = kc0 ∧ xs.drop pp = r.flat ∧ l.map TK.xs ++ kidsFo r = kidsFo K ∧ OwnK W w2.heap.size (.slice va vn vc) l ∧ Below w2.heap.size w2 W) (fun _ _ c _ => (kc0 - intOf c).toNat)
  case atStart => exact ⟨K, [], 1, 0, none, 0, 0, rfl, by go_num, by go_num, by have := H.out.2.2.2.2.2.2.1; have := H.out.2.1; omega, by rw [Nat.zero_add, HKC.out], H.out.2.2.1, rfl, ⟨World.ownsRow_nil _ _ _ _, fun t ht => by cases ht⟩, Below.refl _ _⟩
  case round =>
    obtain ⟨r, l, pp, z, va, vn, vc, rfl, rfl, rfl, hpp, hz, hdr, hkl, hown, hbr⟩ := hrel
    obtain ⟨c0, hE, hN, c4, hbw⟩ := HS.out _ hbr
    have q0 : (0 : Int) ≤ (z : Int) := by omega
    have q01 : (0 : Int) < (n : Int) := by have := H.out.2.2.2.2.2.2.1; have := H.out.2.1; omega
    have q02 : 0 < n := by omega
    cases r with
    | nil =>
      have hkl2 : l.map TK.xs = kidsFo K := by rw [← hkl]; simp [kidsFo]
      have q1 : ¬ (z : Int) < (kc0 : Int) := by simp only [Fo.cnt] at hz; omega
      have q1b : decide (z < kc0) = false := decide_eq_false (by omega)
      have HR := Lib.hid (And.intro hown (And.intro hbw hkl2))
      have hwsz : Hid (w.heap.size ≤ w2.heap.size) := Lib.hid (HS.out _ (Below.refl _ _)).2.2.2.2.size
      clear hown hbr hkl hkl2 hdr hbw hE hN hz
      go_wp2_with fail
      go_ret
      exact ⟨va, vn, vc, rfl, ⟨l, HR.out.1.mono hwsz.out, HR.out.2.2⟩, HR.out.2.1⟩
    | cons n' k' r' =>
      obtain ⟨s1, s2, s3, s4, s5⟩ := good_step HG.out.1 hdr
      rw [← H.out.2.1] at s1 s3
      have q1 : (z : Int) < (kc0 : Int) := by simp only [Fo.cnt] at hz; omega
      have q2 : (0 : Int) ≤ (pp : Int) := by omega
      have q3 : (pp : Int) < (n : Int) := by omega
      obtain ⟨x1, hx1⟩ : ∃ x, x = E pp := ⟨_, rfl⟩
      have e0 := hE.cell pp (iv_get n _ pp s1)
      rw [← hx1] at s2 s3 s4 s5 e0
      have hlen : (sub xs pp x1).length = x1 - pp := sub_len (by rw [← H.out.2.1]; exact s3)
      have hsub : ∀ y ∈ sub xs pp x1, y ∈ xs := fun y hy => List.drop_subset _ _ (List.take_subset _ _ hy)
      have hsrc : ∀ V, Below w2.heap.size w2 V → SrcT V (.slice (some ⟨g, off + pp * 5, none⟩) (x1 - pp) (nc - pp)) (sub xs pp x1) := fun V hV => by
        have htt : TAt V (some ⟨g, off + pp * 5, none⟩) (sub xs pp x1) := ⟨fun _ => ⟨g, off + pp * 5, rfl, (HS.out V hV).2.2.1.sub pp x1 (by rw [← H.out.2.1]; exact s3)⟩, by rw [hlen]; omega, fun y hy => H.out.2.2.2.2.1 y (hsub y hy)⟩
        have := htt.src (t := ⟨some ⟨g, off + pp * 5, none⟩, nc - pp, sub xs pp x1⟩) (fun e => by cases e)
        unfold TK.v at this
        simp only at this
        rwa [hlen] at this
      have hstep : (l.map TK.xs ++ [sub xs pp x1]) ++ kidsFo r' = kidsFo K := by
        rw [← hkl, s4]
        simp [kidsFo]
      have hll : l.length + 1 ≤ 1000000 := by
        have := congrArg List.length hkl
        rw [List.length_append, List.length_map, kidsFo_len, kidsFo_len] at this
        simp only [Fo.cnt] at this
        have := HKC.out
        omega
      have hcell : ∀ V, Below w2.heap.size w2 V → V.cell? ⟨w.heap.size, 0, none⟩ = some (.slice (some ⟨g, off, none⟩) n nc) ∧ V.cell? ⟨gE, pp, none⟩ = some (.int .i64 (x1 : Int)) := fun V hV => by
        obtain ⟨y0, y1, -⟩ := HS.out _ hV
        have y2 := y1.cell pp (iv_get n _ pp s1)
        rw [← hx1] at y2
        exact ⟨y0, y2⟩
      have p1 : x1 ≤ nc := by omega
      have p2 : pp ≤ x1 := by omega
      have p3 : ¬ nc = pp := by omega
      have HR := Lib.hid (And.intro hown (And.intro hbr (And.intro hsrc (And.intro hlen (And.intro hstep (And.intro hll (And.intro s5 (And.intro s3 hz))))))))
      have HC := Lib.hid hcell
      have HSL := Lib.hid (And.intro p1 (And.intro p2 p3))
      clear hown hsrc hlen hstep hll s1 s2 s3 s4 s5 hz hkl hdr hE hN hsub hx1 hcell p1 p2 p3 hbw
      go_upto_region 9 with fail
      clear c0 c4 e0
      refine wp_region_held (S := Below w2.heap.size w2) (by kernel_rfl) ?_
      change wpAnyH _ _ _ _ _ 15 _ _ (World.drew wr)
      have hcur : Below w2.heap.size w2 wr.drew := hbr.drew
      refine held_take (i := 0) (v := .slice va vn vc) rfl 24 rfl (by kernel_rfl) (by kernel_rfl) (by kernel_rfl) (fun _ _ _ h => h) (by rfl) (by intro w' hS'; unfold execOp; simp [go_sem]) hcur _ rfl ?_
      simp only [Act.put, List.setIfInBounds_toArray, List.set_cons_zero, List.set_cons_succ]
      refine held_take (i := 2) (v := .pointer (some ⟨w.heap.size, 0, none⟩)) rfl 26 rfl (by kernel_rfl) (by kernel_rfl) (by kernel_rfl) (fun _ _ _ h => h) (by rfl) (by intro w' hS'; unfold execOp; simp [go_sem]) hcur _ rfl ?_
      simp only [Act.put, List.setIfInBounds_toArray, List.set_cons_zero, List.set_cons_succ]
      refine held_take (i := 3) (v := .slice (some ⟨g, off, none⟩) n nc) rfl 27 rfl (by kernel_rfl) (by kernel_rfl) (by kernel_rfl) (fun _ _ _ h => h) (by rfl) (by intro w' hS'; obtain ⟨x0, x1⟩ := HC.out w' hS'; unfold execOp; simp [go_sem, x0]) hcur _ rfl ?_
      simp only [Act.put, List.setIfInBounds_toArray, List.set_cons_zero, List.set_cons_succ]
      refine held_take (i := 4) (v := .int .i64 (pp : Int)) rfl 28 rfl (by kernel_rfl) (by kernel_rfl) (by kernel_rfl) (fun _ _ _ h => h) (by rfl) (by intro w' hS'; unfold execOp; simp [go_sem]) hcur _ rfl ?_
      simp only [Act.put, List.setIfInBounds_toArray, List.set_cons_zero, List.set_cons_succ]
      refine held_take (i := 5) (v := .slice (some ⟨gE, 0, none⟩) n n) rfl 29 rfl (by kernel_rfl) (by kernel_rfl) (by kernel_rfl) (fun _ _ _ h => h) (by rfl) (by intro w' hS'; unfold execOp; simp [go_sem]) hcur _ rfl ?_
      simp only [Act.put, List.setIfInBounds_toArray, List.set_cons_zero, List.set_cons_succ]
      refine held_take (i := 6) (v := .int .i64 (pp : Int)) rfl 30 rfl (by kernel_rfl) (by kernel_rfl) (by kernel_rfl) (fun _ _ _ h => h) (by rfl) (by intro w' hS'; unfold execOp; simp [go_sem]) hcur _ rfl ?_
      simp only [Act.put, List.setIfInBounds_toArray, List.set_cons_zero, List.set_cons_succ]
      refine held_take (i := 7) (v := .pointer (some ⟨gE, pp, none⟩)) rfl 31 rfl (by kernel_rfl) (by kernel_rfl) (by kernel_rfl) (fun _ _ _ h => h) (by rfl) (by intro w' hS'; unfold execOp; simp [go_sem, q2, q3]) hcur _ rfl ?_
      simp only [Act.put, List.setIfInBounds_toArray, List.set_cons_zero, List.set_cons_succ]
      refine held_take (i := 8) (v := .int .i64 (x1 : Int)) rfl 32 rfl (by kernel_rfl) (by kernel_rfl) (by kernel_rfl) (fun _ _ _ h => h) (by rfl) (by intro w' hS'; obtain ⟨x0, x1⟩ := HC.out w' hS'; unfold execOp; simp [go_sem, x1]) hcur _ rfl ?_
      simp only [Act.put, List.setIfInBounds_toArray, List.set_cons_zero, List.set_cons_succ]
      refine held_take (i := 9) (v := .slice (some ⟨g, off + pp * 5, none⟩) (x1 - pp) (nc - pp)) rfl 33 rfl (by kernel_rfl) (by kernel_rfl) (by kernel_rfl) (fun _ _ _ h => h) (by rfl) (by intro w' hS'; obtain ⟨p1, p2, p3⟩ := HSL.out; unfold execOp; simp [go_sem, p1, p2, p3]) hcur _ rfl ?_
      simp only [Act.put, List.setIfInBounds_toArray, List.set_cons_zero, List.set_cons_succ]
      have hown0 : OwnK wr.drew w2.heap.size (.slice va vn vc) l := HR.out.1.kept (Below.refl _ _).drew
      generalize wr.drew = V0 at hcur hown0 ⊢
      have hsz := hcur.size
      have hn0 := own_nil V0 V0.heap.size (Nat.le_refl _)
      have hbA : Below V0.heap.size V0 (V0.alloc (.cells #[] 36)) := (Below.refl _ _).alloc (Nat.le_refl _) _
      have hcurA := hcur.trans (hbA.mono hsz)
      have hlx : (sub xs pp x1).length ≤ 1000000 := by have := HR.out.2.2.2.1; have := HR.out.2.2.2.2.2.2.2.1; omega
      refine held_one (i := 1) (by kernel_rfl) _ rfl (wpOp_valG rfl rfl 25 rfl (v := .slice (some ⟨V0.heap.size, 0, none⟩) 0 0) (w' := V0.alloc (.cells #[] 36)) (by kernel_rfl) ⟨hcurA, ?_⟩)
      simp only [Act.put, List.setIfInBounds_toArray, List.set_cons_zero, List.set_cons_succ]
      refine held_app_T (i := 10) (by kernel_rfl) _ rfl rfl rfl 34 rfl (.tmp 25) (.tmp 33) rfl V0.heap.size _ _ [] (sub xs pp x1) rfl hn0 rfl (HR.out.2.2.1 _ hcurA) (by simpa using hlx) (by simp) ?_
      intro v1 w1 ho hgr
      rw [List.nil_append] at ho
      have hb1 : Below V0.heap.size V0 w1 := hbA.grown hgr (by simp) (fun k e => hn0.above e)
      have hcur1 := hcur.trans (hb1.mono hsz)
      refine ⟨hcur1, ?_⟩
      have hkn : ∃ ka kc, v1 = .slice ka (x1 - pp) kc := by
        obtain ⟨ka, kn, kc, rfl⟩ := ho.isSlice
        refine ⟨ka, kc, ?_⟩
        have : kn = (sub xs pp x1).length := by
          rcases ho.form with ⟨h1, h2⟩ | ⟨gg, cap, h1, -⟩
          · cases h1; rw [h2]; rfl
          · cases h1; rfl
        rw [this, HR.out.2.2.2.1]
      obtain ⟨ka, kc, rfl⟩ := hkn
      have hown1 := (hown0.kept hb1)
      have ho1 : OwnT w1 w2.heap.size (.slice ka (x1 - pp) kc) (sub xs pp x1) := ho.mono hsz
      simp only [Act.put, List.setIfInBounds_toArray, List.set_cons_zero, List.set_cons_succ]
      refine held_one (i := 11) (by kernel_rfl) _ rfl (wpOp_valG rfl rfl 35 rfl (v := .agg #[.slice ka (x1 - pp) kc]) (w' := w1) (by unfold execOp; simp [go_sem]) ⟨hcur1, ?_⟩)
      simp only [Act.put, List.setIfInBounds_toArray, List.set_cons_zero, List.set_cons_succ]
      have hbB : Below w1.heap.size w1 (w1.alloc (.cells #[.slice ka (x1 - pp) kc] 27)) := (Below.refl _ _).alloc (Nat.le_refl _) _
      have hcurB := hcur1.trans (hbB.mono hcur1.size)
      have hlB := Lies.new w1 #[.slice ka (x1 - pp) kc] 27
      refine held_one (i := 12) (by kernel_rfl) _ rfl (wpOp_valG rfl rfl 36 rfl (v := .slice (some ⟨w1.heap.size, 0, none⟩) 1 1) (w' := w1.alloc (.cells #[.slice ka (x1 - pp) kc] 27)) (by unfold execOp; simp [go_sem]) ⟨hcurB, ?_⟩)
      simp only [Act.put, List.setIfInBounds_toArray, List.set_cons_zero, List.set_cons_succ]
      have htv : (⟨ka, kc, sub xs pp x1⟩ : TK).v = .slice ka (x1 - pp) kc := by unfold TK.v; rw [HR.out.2.2.2.1]
      refine held_app_K (i := 13) (by kernel_rfl) _ rfl rfl rfl 37 rfl (.tmp 24) (.tmp 36) rfl w2.heap.size _ l ⟨ka, kc, sub xs pp x1⟩ w1.heap.size rfl (hown1.kept hbB) rfl (by rw [htv]; exact hlB) (by rw [htv]; exact ho1.kept hbB) HR.out.2.2.2.2.2.1 (Nat.le_trans hcur1.size hbB.size) ?_
      intro v' w8 hown8 hgr8
      have hcur8 : Below w2.heap.size w2 w8 := hcurB.grown hgr8 (Nat.le_trans hcur1.size hbB.size) (fun k e => by
        rcases (hown1.kept hbB).1.2 with ⟨k1, -⟩ | ⟨g', cap', cur', k1, k2, -⟩
        · rw [k1] at e; cases e
        · rw [k1] at e
          have e2 : g' = k := Option.some.inj e
          omega)
      refine ⟨hcur8, ?_⟩
      obtain ⟨va9, vc9, rfl, -⟩ := hown8.isSlice
      simp only [Act.put, List.setIfInBounds_toArray, List.set_cons_zero, List.set_cons_succ]
      refine held_one (i := 14) (by kernel_rfl) _ rfl (wpOp_valG rfl rfl 5 rfl (v := .slice va9 (l ++ [(⟨ka, kc, sub xs pp x1⟩ : TK)]).length vc9) (w' := w8) (by unfold execOp; simp [go_sem]) ⟨hcur8, ?_⟩)
      simp only [Act.put, List.setIfInBounds_toArray, List.set_cons_zero, List.set_cons_succ]
      refine held_done (by kernel_rfl) ?_
      obtain ⟨-, c5⟩ := HC.out w8 hcur8
      obtain ⟨ln, hln⟩ : ∃ k, k = (l ++ [(⟨ka, kc, sub xs pp x1⟩ : TK)]).length := ⟨_, rfl⟩
      rw [← hln] at hown8 ⊢
      have HF := Lib.hid (And.intro hown8 hcur8)
      clear hown8 hcur8 hgr8 htv hlB hcurB hbB ho1 hown1 hcur1 hb1 hgr ho hlx hcurA hbA hn0 hsz hown0 hcur hln
      go_wp2_with fail
      refine ⟨⟨r', l ++ [(⟨ka, kc, sub xs pp x1⟩ : TK)], x1, z + 1, va9, ln, vc9, rfl, rfl, by go_num, HR.out.2.2.2.2.2.2.2.1, ?_, HR.out.2.2.2.2.2.2.1, ?_, HF.out.1, HF.out.2⟩, ?_⟩
      · have := HR.out.2.2.2.2.2.2.2.2
        simp only [Fo.cnt] at this
        omega
      · rw [List.map_append]
        exact HR.out.2.2.2.2.1
      · simp [intOf]; omega
end Go.Proofs.YtieoiklgoeclaaaGreat
namespace Go.Proofs.YtieoiklgoeclaaaGreat
open Go.RowKit

set_option maxRecDepth 100000 in
theorem rkids_bad (w : World) (a : Option Addr) (nc : Nat) (xs : List Nd) (hi : inO xs = false) (hk : TAt w a xs) :
    Calls Tryz.prog 33 #[.agg #[.slice a xs.length nc]] w fun e w' => e = .returned (.slice none 0 0) ∧ Below w.heap.size w w' := by
  have hA : Lies (w.alloc (.cells #[.slice a xs.length nc] 27)) w.heap.size #[.slice a xs.length nc] 27 := Lies.new _ _ _
  have hb0 : Below w.heap.size w (w.alloc (.cells #[.slice a xs.length nc] 27)) := (Below.refl _ _).alloc (Nat.le_refl _) _
  have he := ends_any _ a xs.length nc (ksOf xs) hk.2.1 (hk.below hb0 (Nat.le_refl _)).ks
  have hl0 := layOf_in hi
  obtain ⟨n, hn⟩ : ∃ n, n = xs.length := ⟨_, rfl⟩
  rw [← hn] at hA hb0 he hl0 ⊢
  have H := Lib.hid (And.intro he (And.intro hb0 hl0))
  clear he hb0 hl0 hn hk hi
  go_enter Tryz.func33, Tryz.ntmps33
  go_upto_region 1 with fail
  generalize w.alloc (.cells #[.slice a n nc] 27) = W0 at H hA ⊢
  have c0 := hA.cell 0 (v := .slice a n nc) rfl
  clear hA
  go_wp2_with fail
  refine H.out.1.mono ?_
  rintro e w2 (⟨E, D, gE, hl, rfl, -, -, hb⟩ | ⟨hl, x, m, c, rfl, hb⟩)
  · exfalso
    have h1 := layOf_laid hl
    rw [H.out.2.2] at h1
    cases h1
  · have HB := Lib.hid (H.out.2.1.trans (hb.mono H.out.2.1.size))
    clear hl hb c0
    go_wp2_with fail
    go_ret
    exact ⟨rfl, HB.out⟩
set_option maxRecDepth 100000 in
set_option maxHeartbeats 1000000 in
theorem rkid_none (w : World) (a : Option Addr) (nc : Nat) (xs : List Nd) (i : Int) (L : Nat)
    (hk : ∀ V, Below w.heap.size w V → Calls Tryz.prog 33 #[.agg #[.slice a xs.length nc]] V fun e w' => ∃ b c, e = .returned (.slice b L c) ∧ Below V.heap.size V w') (hi : i < 0 ∨ (L : Int) ≤ i) :
    Calls Tryz.prog 29 #[.agg #[.slice a xs.length nc], .int .i64 i] w (NoKid w) := by
  have hA : Lies ((w.alloc (.cells #[.slice a xs.length nc] 27)).alloc (.cells #[.slice none 0 0] 27)) w.heap.size #[.slice a xs.length nc] 27 := (Lies.new _ _ _).alloc _
  have hC : Lies ((w.alloc (.cells #[.slice a xs.length nc] 27)).alloc (.cells #[.slice none 0 0] 27)) (w.heap.size + 1) #[.slice none 0 0] 27 := by
    have := Lies.new (w.alloc (.cells #[.slice a xs.length nc] 27)) #[.slice none 0 0] 27
    simpa using this
  have hb0 : Below w.heap.size w ((w.alloc (.cells #[.slice a xs.length nc] 27)).alloc (.cells #[.slice none 0 0] 27)) := ((Below.refl _ _).alloc (Nat.le_refl _) _).alloc (by simp) _
  have hc := hk _ hb0
  obtain ⟨n, hn⟩ : ∃ n, n = xs.length := ⟨_, rfl⟩
  rw [← hn] at hA hC hb0 hc ⊢
  have H := Lib.hid (And.intro hc (And.intro hb0 hC))
  clear hc hb0 hC hk hn
  go_enter Tryz.func29, Tryz.ntmps29
  go_upto_region 1 with fail
  generalize (w.alloc (.cells #[.slice a n nc] 27)).alloc (.cells #[.slice none 0 0] 27) = W0 at H hA ⊢
  have c0 := hA.cell 0 (v := .slice a n nc) rfl
  clear hA
  go_wp2_with fail
  refine H.out.1.mono ?_
  rintro e w2 ⟨b, c, rfl, hb2⟩
  have hC2 := H.out.2.2.below hb2 H.out.2.2.lt
  have HX := Lib.hid (And.intro hC2 (H.out.2.1.trans (hb2.mono H.out.2.1.size)))
  clear hC2 hb2 c0
  by_cases h0 : i < 0
  · go_wp2_with (refine wpList_store_row rfl 27 _ _ rfl (w.heap.size + 1) #[.slice none 0 0] rfl rfl 27 #[.slice none 0 0] HX.out.1 info24 rfl (by simp [Value.oneCell']) ?_)
    have hrow := HX.out.1.setRow #[.slice none 0 0]
    have hrc := hrow.cell 0 (v := .slice none 0 0) rfl
    refine bodyPost_ret (v := .tuple #[.agg #[.slice none 0 0], .bool false]) (by simp [results, Tryz.results29, go_sem, hrc]) rfl ⟨rfl, below_setRow HX.out.2 _ _ (by omega)⟩
  · have h1 : (L : Int) ≤ i := by rcases hi with h | h <;> omega
    go_wp2_with (refine wpList_store_row rfl 27 _ _ rfl (w.heap.size + 1) #[.slice none 0 0] rfl rfl 27 #[.slice none 0 0] HX.out.1 info24 rfl (by simp [Value.oneCell']) ?_)
    have hrow := HX.out.1.setRow #[.slice none 0 0]
    have hrc := hrow.cell 0 (v := .slice none 0 0) rfl
    refine bodyPost_ret (v := .tuple #[.agg #[.slice none 0 0], .bool false]) (by simp [results, Tryz.results29, go_sem, hrc]) rfl ⟨rfl, below_setRow HX.out.2 _ _ (by omega)⟩
set_option maxRecDepth 100000 in
set_option maxHeartbeats 1000000 in
theorem rkid_some (w : World) (a : Option Addr) (nc : Nat) (xs : List Nd) (i : Nat) (K : Fo) (ys : List Nd) (hys : (kidsFo K)[i]? = some ys) (hyl : ys.length ≤ 1000000) (hyk : ∀ y ∈ ys, y.kids ≤ 9223372036854775807)
    (hk : ∀ V, Below w.heap.size w V → Calls Tryz.prog 33 #[.agg #[.slice a xs.length nc]] V (SliceR V (KidsR V.heap.size K))) :
    Calls Tryz.prog 29 #[.agg #[.slice a xs.length nc], .int .i64 i] w (KidR w ys) := by
  have hA : Lies ((w.alloc (.cells #[.slice a xs.length nc] 27)).alloc (.cells #[.slice none 0 0] 27)) w.heap.size #[.slice a xs.length nc] 27 := (Lies.new _ _ _).alloc _
  have hC : Lies ((w.alloc (.cells #[.slice a xs.length nc] 27)).alloc (.cells #[.slice none 0 0] 27)) (w.heap.size + 1) #[.slice none 0 0] 27 := by
    have := Lies.new (w.alloc (.cells #[.slice a xs.length nc] 27)) #[.slice none 0 0] 27
    simpa using this
  have hb0 : Below w.heap.size w ((w.alloc (.cells #[.slice a xs.length nc] 27)).alloc (.cells #[.slice none 0 0] 27)) := ((Below.refl _ _).alloc (Nat.le_refl _) _).alloc (by simp) _
  have hc := hk _ hb0
  obtain ⟨n, hn⟩ : ∃ n, n = xs.length := ⟨_, rfl⟩
  rw [← hn] at hA hC hb0 hc ⊢
  have hiK := (List.getElem?_eq_some_iff.1 hys).1
  have H := Lib.hid (And.intro hc (And.intro hb0 (And.intro hC (And.intro hys hyk))))
  have hsz : ((w.alloc (.cells #[.slice a n nc] 27)).alloc (.cells #[.slice none 0 0] 27)).heap.size = w.heap.size + 2 := by simp
  have HSZ := Lib.hid hsz
  clear hc hb0 hC hk hn hys hyk hsz
  go_enter Tryz.func29, Tryz.ntmps29
  go_upto_region 1 with fail
  generalize (w.alloc (.cells #[.slice a n nc] 27)).alloc (.cells #[.slice none 0 0] 27) = W0 at H hA HSZ ⊢
  have c0 := hA.cell 0 (v := .slice a n nc) rfl
  clear hA
  go_wp2_with fail
  refine H.out.1.mono ?_
  rintro e w2 ⟨b, m, c, rfl, ⟨l, hown, hlk⟩, hb2⟩
  obtain ⟨b', c', hv, -, hce⟩ := hown.isSlice
  cases hv
  have hlen : i < l.length := by have := congrArg List.length hlk; rw [List.length_map] at this; omega
  obtain ⟨gk, rfl, hgk, hcell⟩ := hce (by omega)
  have hci := hcell i hlen
  have hxi : l[i].xs = ys := by
    have h1 : (l.map TK.xs)[i]? = some l[i].xs := by simp [hlen]
    rw [hlk, H.out.2.2.2.1] at h1
    exact (Option.some.inj h1).symm
  have hti := hown.2 _ (List.getElem_mem hlen)
  obtain ⟨t, et⟩ : ∃ t, t = l[i] := ⟨_, rfl⟩
  rw [← et] at hci hxi hti
  obtain ⟨ta, tc, txs⟩ := t
  simp only at hxi
  subst hxi
  unfold TK.v at hci hti
  simp only at hci hti
  have hC2 := H.out.2.2.1.below hb2 H.out.2.2.1.lt
  have q1 : (i : Int) < (l.length : Int) := by omega
  have q2 : ¬ (i : Int) < 0 := by omega
  have q3 : ¬ (l.length : Int) ≤ (i : Int) := by omega
  have q4 : (0 : Int) ≤ (i : Int) := by omega
  have q5 : decide (l.length ≤ i) = false := decide_eq_false (by omega)
  obtain ⟨m, hm⟩ : ∃ k, k = l.length := ⟨_, rfl⟩
  rw [← hm] at q1 q3 q5 ⊢
  obtain ⟨ny, hny⟩ : ∃ k, k = txs.length := ⟨_, rfl⟩
  rw [← hny] at hci hti hyl
  have HX := Lib.hid (And.intro hC2 (And.intro (H.out.2.1.trans (hb2.mono H.out.2.1.size)) (And.intro hti hny)))
  clear hC2 hb2 c0 hlk hown hcell hti et hny hm hiK hlen
  go_wp2_with (refine wpList_store_row rfl 27 _ _ rfl (w.heap.size + 1) #[.slice ta ny tc] rfl rfl 27 #[.slice none 0 0] HX.out.1 info24 rfl (by simp [Value.oneCell']) ?_)
  have hrow := HX.out.1.setRow #[.slice ta ny tc]
  have hrc := hrow.cell 0 (v := .slice ta ny tc) rfl
  have hot := (HX.out.2.2.1.setRow24 HX.out.1 #[.slice ta ny tc]).tat (by have := HX.out.2.2.2; omega) H.out.2.2.2.2
  refine bodyPost_ret (v := .tuple #[.agg #[.slice ta ny tc], .bool true]) (by simp [results, Tryz.results29, go_sem, hrc]) rfl ⟨ta, tc, by rw [HX.out.2.2.2], hot.1, below_setRow HX.out.2.1 _ _ (by omega)⟩
end Go.Proofs.YtieoiklgoeclaaaGreat
