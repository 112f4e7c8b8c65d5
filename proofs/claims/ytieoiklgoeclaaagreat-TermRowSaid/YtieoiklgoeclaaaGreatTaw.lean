/-
  number (26), blob (27), real64 (22), of (28): terms that are made; awake (8): the chapter's examples.
-/
import Derived.Test.YtieoiklgoeclaaaGreatTrj
namespace Go.Proofs.YtieoiklgoeclaaaGreat
open Go.RowKit

/-- A term is told: these nodes, in memory that stays. -/
def TermR (w : World) (xs : List Nd) (e : Ending) (w' : World) : Prop := ∃ t : TK, t.xs = xs ∧ e = .returned (.agg #[t.v]) ∧ TAt w' t.a t.xs ∧ t.xs.length ≤ t.c ∧ (t.a = none → t.c = 0) ∧ Below w.heap.size w w'
theorem one_node (w : World) (n : Nd) (hk : n.kids ≤ 9223372036854775807) (g : Nat) (h : Lies w g n.cells 36) : TAt w (some ⟨g, 0, none⟩) [n] :=
  ⟨fun _ => ⟨g, 0, rfl, h.lt, fun j hj i v hv => by
    obtain rfl : j = 0 := by simpa using hj
    rw [show 0 + 0 * 5 + i = i by omega]
    exact h.cell i hv⟩, by simp, fun x hx => by obtain rfl := List.mem_singleton.1 hx; exact hk⟩
theorem made_term {w : World} (n : Nd) (hk : n.kids ≤ 9223372036854775807) {e : Ending} {w' : World} (g : Nat) (he : e = .returned (.agg #[.slice (some ⟨g, 0, none⟩) 1 1])) (h : Lies w' g n.cells 36) (hb : Below w.heap.size w w') : TermR w [n] e w' :=
  ⟨⟨some ⟨g, 0, none⟩, 1, [n]⟩, rfl, he, one_node w' n hk g h, Nat.le_refl _, (fun h => by cases h), hb⟩
set_option maxRecDepth 100000 in
theorem numT_any (w : World) (n : Int) : Calls Tryz.prog 13 #[.int .i64 n] w (TermR w [⟨1, n, 0, ⟨#[]⟩, 0⟩]) := by
  have hL : Lies ((w.alloc (.cells #[.slice (some ⟨w.heap.size + 1, 0, none⟩) 1 1] 27)).alloc (.cells #[.int .i64 1, .int .i64 n, .int .u64 0, .string ⟨#[]⟩, .int .i64 0] 36)) (w.heap.size + 1) #[.int .i64 1, .int .i64 n, .int .u64 0, .string ⟨#[]⟩, .int .i64 0] 36 := by
    have := Lies.new (w.alloc (.cells #[.slice (some ⟨w.heap.size + 1, 0, none⟩) 1 1] 27)) #[.int .i64 1, .int .i64 n, .int .u64 0, .string ⟨#[]⟩, .int .i64 0] 36
    simpa using this
  have hb : Below w.heap.size w ((w.alloc (.cells #[.slice (some ⟨w.heap.size + 1, 0, none⟩) 1 1] 27)).alloc (.cells #[.int .i64 1, .int .i64 n, .int .u64 0, .string ⟨#[]⟩, .int .i64 0] 36)) := ((Below.refl _ _).alloc (Nat.le_refl _) _).alloc (by simp) _
  have H := Lib.hid (And.intro hL hb)
  clear hL hb
  go_enter Tryz.func13, Tryz.ntmps13
  go_wp2_with fail
  exact bodyPost_ret (v := .agg #[.slice (some ⟨w.heap.size + 1, 0, none⟩) 1 1]) (by simp [results, Tryz.results13, go_sem]) rfl (made_term _ (by simp) _ rfl H.out.1 H.out.2)
set_option maxRecDepth 100000 in
theorem blobT_any (w : World) (s : ByteArray) : Calls Tryz.prog 14 #[.string s] w (TermR w [⟨2, 0, 0, s, 0⟩]) := by
  have hL : Lies ((w.alloc (.cells #[.slice (some ⟨w.heap.size + 1, 0, none⟩) 1 1] 27)).alloc (.cells #[.int .i64 2, .int .i64 0, .int .u64 0, .string s, .int .i64 0] 36)) (w.heap.size + 1) #[.int .i64 2, .int .i64 0, .int .u64 0, .string s, .int .i64 0] 36 := by
    have := Lies.new (w.alloc (.cells #[.slice (some ⟨w.heap.size + 1, 0, none⟩) 1 1] 27)) #[.int .i64 2, .int .i64 0, .int .u64 0, .string s, .int .i64 0] 36
    simpa using this
  have hb : Below w.heap.size w ((w.alloc (.cells #[.slice (some ⟨w.heap.size + 1, 0, none⟩) 1 1] 27)).alloc (.cells #[.int .i64 2, .int .i64 0, .int .u64 0, .string s, .int .i64 0] 36)) := ((Below.refl _ _).alloc (Nat.le_refl _) _).alloc (by simp) _
  have H := Lib.hid (And.intro hL hb)
  clear hL hb
  go_enter Tryz.func14, Tryz.ntmps14
  go_wp2_with fail
  exact bodyPost_ret (v := .agg #[.slice (some ⟨w.heap.size + 1, 0, none⟩) 1 1]) (by simp [results, Tryz.results14, go_sem]) rfl (made_term _ (by simp) _ rfl H.out.1 H.out.2)
set_option maxRecDepth 100000 in
theorem realT_any (w : World) (b : Nat) : Calls Tryz.prog 15 #[.int .u64 b] w (TermR w [⟨3, 0, b, ⟨#[]⟩, 0⟩]) := by
  have hL : Lies ((w.alloc (.cells #[.slice (some ⟨w.heap.size + 1, 0, none⟩) 1 1] 27)).alloc (.cells #[.int .i64 3, .int .i64 0, .int .u64 b, .string ⟨#[]⟩, .int .i64 0] 36)) (w.heap.size + 1) #[.int .i64 3, .int .i64 0, .int .u64 b, .string ⟨#[]⟩, .int .i64 0] 36 := by
    have := Lies.new (w.alloc (.cells #[.slice (some ⟨w.heap.size + 1, 0, none⟩) 1 1] 27)) #[.int .i64 3, .int .i64 0, .int .u64 b, .string ⟨#[]⟩, .int .i64 0] 36
    simpa using this
  have hb : Below w.heap.size w ((w.alloc (.cells #[.slice (some ⟨w.heap.size + 1, 0, none⟩) 1 1] 27)).alloc (.cells #[.int .i64 3, .int .i64 0, .int .u64 b, .string ⟨#[]⟩, .int .i64 0] 36)) := ((Below.refl _ _).alloc (Nat.le_refl _) _).alloc (by simp) _
  have H := Lib.hid (And.intro hL hb)
  clear hL hb
  go_enter Tryz.func15, Tryz.ntmps15
  go_wp2_with fail
  exact bodyPost_ret (v := .agg #[.slice (some ⟨w.heap.size + 1, 0, none⟩) 1 1]) (by simp [results, Tryz.results15, go_sem]) rfl (made_term _ (by simp) _ rfl H.out.1 H.out.2)
/-- What joins hand out is a term. -/
theorem join_term {w w' : World} {v : Value} {n : Nd} {ls : List (List Nd)} (h : OwnT w' w.heap.size v (joinL n ls)) (hl : 1 + ls.flatten.length ≤ 1000000) (hm : ls.length ≤ 1000000) (hk : ∀ xs ∈ ls, ∀ x ∈ xs, x.kids ≤ 9223372036854775807) (hb : Below w.heap.size w w') :
    TermR w (joinL n ls) (.returned (.agg #[v])) w' := by
  obtain ⟨a, m, c, rfl⟩ := h.isSlice
  have hll : (joinL n ls).length ≤ 1000000 := by simp only [joinL, List.length_cons]; omega
  have hkk : ∀ x ∈ joinL n ls, x.kids ≤ 9223372036854775807 := by
    intro x hx
    simp only [joinL, List.mem_cons, List.mem_flatten] at hx
    rcases hx with rfl | ⟨xs, h1, h2⟩
    · simp only; omega
    · exact hk xs h1 x h2
  obtain ⟨h1, h2, h3⟩ := h.tat hll hkk
  refine ⟨⟨a, c, joinL n ls⟩, rfl, by unfold TK.v; rw [h2], h1, by rw [← h2]; exact h3, fun e => ?_, hb⟩
  simp only at e
  subst e
  rcases h.form with ⟨h4, -⟩ | ⟨g, cap, h4, -⟩
  · cases h4; rfl
  · cases h4
set_option maxRecDepth 100000 in
theorem ofT_any (w : World) (k : Int) (ad : Option Addr) (c : Nat) (l : List TK) (hT : TsAt w ad l) (hnil : NilOk l) (hlen : 1 + (l.map TK.xs).flatten.length ≤ 1000000) (hm : l.length ≤ 1000000) :
    Calls Tryz.prog 7 #[.int .i64 k, .slice ad l.length c] w (TermR w (joinL ⟨k, 0, 0, ⟨#[]⟩, 0⟩ (l.map TK.xs))) := by
  have hb : Below w.heap.size w (w.alloc (.cells #[.slice none 0 0] 27)) := (Below.refl _ _).alloc (Nat.le_refl _) _
  have hj := rjoin_any (w.alloc (.cells #[.slice none 0 0] 27)) ⟨k, 0, 0, ⟨#[]⟩, 0⟩ ad c l (hT.below hb (Nat.le_refl _)) hnil hlen hm
  have hA := Lies.new w #[.slice none 0 0] 27
  have hk : ∀ xs ∈ l.map TK.xs, ∀ x ∈ xs, x.kids ≤ 9223372036854775807 := fun xs hxs x hx => by
    obtain ⟨t, h1, rfl⟩ := List.mem_map.1 hxs
    exact (hT.2 t h1).1.2.2 x hx
  have H := Lib.hid (And.intro hj (And.intro hb (And.intro hA (And.intro hk (And.intro hlen hm)))))
  obtain ⟨m, hml⟩ : ∃ m, m = l.length := ⟨_, rfl⟩
  rw [← hml] at H ⊢
  have HM := Lib.hid hml
  clear hj hb hA hk hlen hm hT hnil hml
  obtain ⟨R, hR⟩ : ∃ R, R = TermR w (joinL ⟨k, 0, 0, ⟨#[]⟩, 0⟩ (l.map TK.xs)) := ⟨_, rfl⟩
  rw [← hR]
  have HRR := Lib.hid hR
  clear hR
  unfold Nd.cells at H
  go_enter Tryz.func7, Tryz.ntmps7
  go_wp2_with fail
  refine H.out.1.mono ?_
  rintro e w2 ⟨v, rfl, ho, hb2⟩
  obtain ⟨va, vn, vc, rfl⟩ := ho.isSlice
  have hA2 := H.out.2.2.1.below hb2 H.out.2.2.1.lt
  have HX := Lib.hid (And.intro ho (And.intro hA2 hb2))
  clear ho hA2 hb2
  go_wp2_with (refine wpList_store_row rfl 27 _ _ rfl w.heap.size #[.slice va vn vc] rfl rfl 27 #[.slice none 0 0] HX.out.2.1 info24 rfl (by simp [Value.oneCell']) ?_)
  refine bodyPost_ret (v := .agg #[.slice va vn vc]) (results_cell_row (p := 4) (ty := 27) (by kernel_rfl) _ _ w.heap.size 27 #[.slice va vn vc] (0, 0) _ rfl (HX.out.2.1.setRow _) Tryz.underlying27 rfl info24) rfl ?_
  have h1 := OwnT.setRow HX.out.1 w.heap.size #[.slice va vn vc] (by simp)
  rw [HRR.out]
  exact join_term (h1.mono (B' := w.heap.size) (by simp)) H.out.2.2.2.2.1 (by rw [List.length_map, ← HM.out]; exact H.out.2.2.2.2.2) H.out.2.2.2.1 (below_setRow (H.out.2.1.trans (HX.out.2.2.mono H.out.2.1.size)) _ _ (Nat.le_refl _))
end Go.Proofs.YtieoiklgoeclaaaGreat
