/-
  TermRow: Kid and Kids of any term, told twice; tells of terms as they stand; shapes (10).
  TermRow: shapes (10).
-/
import Derived.Test.YtieoiklgoeclaaaGreatGf
namespace Go.Proofs.YtieoiklgoeclaaaGreat
open Go.RowKit

theorem tellsG (w : World) (t u : TK) (n m : Nat) (hn : n = t.xs.length) (hm : m = u.xs.length) (ht : TG w t) (hu : TG w u) :
    Calls Tryz.prog 6 #[.agg #[.slice t.a n t.c], .agg #[.slice u.a m u.c]] w fun e w' => e = .returned (.bool true) ∧ Below w.heap.size w w' := by
  subst hn hm
  exact tells_any w t.a u.a t.c u.c t.xs u.xs ht.tw hu.tw ht.room
theorem rightG (w : World) (t : TK) (n : Nat) (hn : n = t.xs.length) (ht : TG w t) :
    Calls Tryz.prog 8 #[.agg #[.slice t.a n t.c]] w fun e w' => e = .returned (.bool (rightB t.xs)) ∧ Below w.heap.size w w' := by
  subst hn
  exact rightT_any w t.a t.c t.xs ht.tat ht.room
theorem orderG (w : World) (t u : TK) (n m : Nat) (hn : n = t.xs.length) (hm : m = u.xs.length) (ht : TG w t) (hu : TG w u) :
    Calls Tryz.prog 5 #[.agg #[.slice t.a n t.c], .agg #[.slice u.a m u.c]] w fun e w' => e = .returned (.int .i64 (ordT t.xs u.xs)) ∧ Below w.heap.size w w' := by
  subst hn hm
  exact orderT_any w t.a u.a t.c u.c t.xs u.xs ht.tat hu.tat
/-- What Kid tells. -/
def KidG (w : World) (ys : List Nd) (ok : Bool) (e : Ending) (w' : World) : Prop := ∃ a c, e = .returned (.tuple #[.agg #[.slice a ys.length c], .bool ok]) ∧ TAt w' a ys ∧ Below w.heap.size w w'
theorem kidG_none {w : World} {e : Ending} {w' : World} (h : NoKid w e w') : KidG w [] false e w' := ⟨none, 0, h.1, ⟨fun h => by simp at h, by simp, fun x hx => by cases hx⟩, h.2⟩
/-- What Kids tells. -/
def KidsG (w : World) (L : List (List Nd)) (e : Ending) (w' : World) : Prop := ∃ a c l, e = .returned (.slice a L.length c) ∧ List.map TK.xs l = L ∧ TsAt w' a l ∧ Below w.heap.size w w'
theorem kidsG_of {w : World} {K : Fo} {xs : List Nd} {x0 : Nd} (hxs : xs = (Fo.cons x0 K .nil).flat) (hl : xs.length ≤ 1000000) (hk : ∀ x ∈ xs, x.kids ≤ 9223372036854775807) (ht : TxtIn xs) {e : Ending} {w' : World} (h : SliceR w (KidsR w.heap.size K) e w') : KidsG w (kidsFo K) e w' := by
  obtain ⟨a, n, c, rfl, ⟨l, hown, hlk⟩, hb⟩ := h
  obtain ⟨a', c', hv, -, -, hts⟩ := hown.ts (fun t ht2 => by
    have hm : t.xs ∈ kidsFo K := by rw [← hlk]; exact List.mem_map.2 ⟨t, ht2, rfl⟩
    have hin := (kids_bound hxs).2 t.xs hm
    refine ⟨?_, fun y hy => hk y (hin y hy), fun y hy => ht y (hin y hy)⟩
    have := mem_flat_len (kidsFo K) t.xs hm
    rw [kidsFo_flat, Fo.flat_len] at this
    have h2 : xs.length = K.len + 1 := by rw [hxs, Fo.flat_len]; simp only [Fo.len]; omega
    omega)
  cases hv
  exact ⟨a, c, l, by rw [← hlk, List.length_map], hlk, hts, hb⟩
theorem kids_agree (w : World) (t : TK) (h : TG w t) (n : Nat) (hn : n = t.xs.length) : ∃ L, (∀ V, Below w.heap.size w V → Calls Tryz.prog 32 #[.agg #[.slice t.a n t.c]] V (KidsG V L)) ∧ (∀ V, Below w.heap.size w V → Calls Tryz.prog 33 #[.agg #[.slice t.a n t.c]] V (KidsG V L)) ∧ L.length ≤ 1000000 := by
  subst hn
  cases hi : inO t.xs with
  | false =>
    refine ⟨[], fun V hV => (kids_bad V t.a t.c t.xs hi (h.below hV).tat).mono ?_, fun V hV => (rkids_bad V t.a t.c t.xs hi (h.below hV).tat).mono ?_, by simp⟩
    all_goals
      intro e w' hh
      exact ⟨none, 0, [], hh.1, rfl, ⟨fun h => by simp at h, fun x hx => by cases hx⟩, hh.2⟩
  | true =>
    obtain ⟨x0, K, hxs⟩ := tree_fo hi
    refine ⟨kidsFo K, fun V hV => (kids_ok V t.a t.c t.xs x0 K hxs (h.below hV).tat h.txtIn h.room).mono fun e w' hh => kidsG_of hxs h.tat.2.1 h.tat.2.2 h.txtIn hh, fun V hV => (rkids_ok V t.a t.c t.xs x0 K hxs (h.below hV).tat h.txtIn h.room).mono fun e w' hh => kidsG_of hxs h.tat.2.1 h.tat.2.2 h.txtIn hh, ?_⟩
    rw [kidsFo_len]
    have := (kids_bound hxs).1
    have := h.tat.2.1
    omega
theorem kid_agree (w : World) (t : TK) (h : TG w t) (n : Nat) (hn : n = t.xs.length) (i : Nat) : ∃ ys ok, (∀ V, Below w.heap.size w V → Calls Tryz.prog 28 #[.agg #[.slice t.a n t.c], .int .i64 i] V (KidG V ys ok)) ∧ (∀ V, Below w.heap.size w V → Calls Tryz.prog 29 #[.agg #[.slice t.a n t.c], .int .i64 i] V (KidG V ys ok)) := by
  subst hn
  cases hi : inO t.xs with
  | false =>
    exact ⟨[], false, fun V hV => (kid_bad V t.a t.c t.xs i hi (h.below hV).tat).mono fun e w' hh => kidG_none hh,
      fun V hV => (rkid_none V t.a t.c t.xs i 0 (fun U hU => (rkids_bad U t.a t.c t.xs hi ((h.below hV).below hU).tat).mono fun e w' hh => ⟨none, 0, hh.1, hh.2⟩) (.inr (by omega))).mono fun e w' hh => kidG_none hh⟩
  | true =>
    obtain ⟨x0, K, hxs⟩ := tree_fo hi
    have hb := kids_bound hxs
    by_cases hlt : i < K.cnt
    · obtain ⟨ys, hys⟩ : ∃ ys, (kidsFo K)[i]? = some ys := ⟨_, List.getElem?_eq_getElem (by rw [kidsFo_len]; exact hlt)⟩
      have hm := List.mem_of_getElem? hys
      have hin := hb.2 ys hm
      have hyl : ys.length ≤ 1000000 := by
        have := mem_flat_len (kidsFo K) ys hm
        rw [kidsFo_flat, Fo.flat_len] at this
        have h2 : t.xs.length = K.len + 1 := by rw [hxs, Fo.flat_len]; simp only [Fo.len]; omega
        have := h.tat.2.1
        omega
      have hy0 := kidsFo_pos K ys hm
      have hyk : ∀ y ∈ ys, y.kids ≤ 9223372036854775807 := fun y hy => h.tat.2.2 y (hin y hy)
      exact ⟨ys, true, fun V hV => kid_some V t.a t.c t.xs i x0 K hxs (h.below hV).tat h.txtIn h.room hlt ys hys hy0 hyl hyk,
        fun V hV => rkid_some V t.a t.c t.xs i K ys hys hyl hyk (fun U hU => rkids_ok U t.a t.c t.xs x0 K hxs ((h.below hV).below hU).tat h.txtIn h.room)⟩
    · exact ⟨[], false, fun V hV => (kid_out V t.a t.c t.xs i x0 K hxs (h.below hV).tat h.txtIn h.room (.inr (by omega))).mono fun e w' hh => kidG_none hh,
        fun V hV => (rkid_none V t.a t.c t.xs i K.cnt (fun U hU => (rkids_ok U t.a t.c t.xs x0 K hxs ((h.below hV).below hU).tat h.txtIn h.room).mono fun e w' hh => by
          obtain ⟨b, m, c, rfl, ⟨l, hown, hlk⟩, hbb⟩ := hh
          obtain ⟨b', c', hv, -⟩ := hown.isSlice
          cases hv
          exact ⟨b, c, by rw [← kidsFo_len, ← hlk, List.length_map], hbb⟩) (.inr (by omega))).mono fun e w' hh => kidG_none hh⟩
theorem nat_of_lies {w : World} {g : Nat} {xs : List Nd} {cs : Array Value} (h : Lies w g cs 36) (hc : cs = (cellsL xs).toArray) : NAt w g 0 xs := by
  subst hc
  refine ⟨h.lt, fun j hj i v hv => ?_⟩
  have hi := cells_lt xs[j] hv
  rw [Nat.zero_add]
  exact h.cell (j * 5 + i) (by simp only [List.getElem?_toArray]; rw [cellsL_get xs j hj i hi]; exact hv)
end Go.Proofs.YtieoiklgoeclaaaGreat
namespace Go.Proofs.YtieoiklgoeclaaaGreat
open Go.RowKit

def shN (n : Nat) : List Nd := [⟨4, 0, 0, ⟨#[]⟩, (n : Int) % 5⟩, ⟨5, 0, 0, ⟨#[]⟩, (n : Int) / 5 % 5⟩, ⟨6, 0, 0, ⟨#[]⟩, (n : Int) / 25 % 5⟩, ⟨4, 0, 0, ⟨#[]⟩, (n : Int) / 125 % 5⟩, ⟨4, 0, 0, ⟨#[]⟩, (n : Int) / 625 - 1⟩]
theorem shN_kids (n : Nat) (hn : n ≤ 3125) : ∀ x ∈ shN n, x.kids ≤ 9223372036854775807 := fun x hx => by
  simp only [shN, List.mem_cons, List.not_mem_nil, or_false] at hx
  rcases hx with rfl | rfl | rfl | rfl | rfl <;> simp only <;> omega
theorem shN_words (n : Nat) : Words (shN n) := fun x hx => by
  simp only [shN, List.mem_cons, List.not_mem_nil, or_false] at hx
  rcases hx with rfl | rfl | rfl | rfl | rfl <;> exact (by decide : (0 : Nat) < 2 ^ 64)
theorem shN_txt (n : Nat) : ∀ x ∈ shN n, x.txt.size ≤ 1000000000000 := fun x hx => by
  simp only [shN, List.mem_cons, List.not_mem_nil, or_false] at hx
  rcases hx with rfl | rfl | rfl | rfl | rfl <;> exact Nat.zero_le _
theorem one_tg {w : World} {g : Nat} {x : Nd} (h : Lies w g x.cells 36) (hk : x.kids ≤ 9223372036854775807) (hw : x.bits < 2 ^ 64) (ht : x.txt.size ≤ 1000000000000) : TG w ⟨some ⟨g, 0, none⟩, 1, [x]⟩ :=
  ⟨one_node w x hk g h, Nat.le_refl _, (fun h => by cases h), one_words hw, one_txt ht⟩
theorem none_tg (w : World) : TG w ⟨none, 0, []⟩ := ⟨⟨(fun h => by simp at h), by simp, (fun x hx => by cases hx)⟩, Nat.le_refl _, fun _ => rfl, (fun x hx => by cases hx), (fun x hx => by cases hx)⟩
set_option maxRecDepth 100000 in
set_option maxHeartbeats 4000000 in
theorem shapes_any (w : World) : Calls Tryz.prog 10 #[] w fun e w' => e = .returned (.bool true) ∧ Below w.heap.size w w' := by
  go_enter Tryz.func10, Tryz.ntmps10
  go_upto_region 2 with fail
  go_loopw [1] (fun v W => ∃ n : Nat, n ≤ 3125 ∧ v = .int .i64 n ∧ Below w.heap.size w W) (fun v _ => (3125 - intOf v).toNat)
  case atStart => exact ⟨0, by omega, by go_num, Below.refl _ _⟩
  case round =>
    obtain ⟨n, hn, rfl, hbr⟩ := hrel
    have q0 : (0 : Int) ≤ (n : Int) := by omega
    have q9 : (n : Int) ≤ 3125 := by omega
    by_cases hlt : n < 3125
    · have q1 : (n : Int) < 3125 := by omega
      have a0 : (0 : Int) ≤ (n : Int) / 625 := by omega
      have a1 : (n : Int) / 625 ≤ 4 := by omega
      have HB := Lib.hid hbr
      clear hbr
      go_upto_region 5 with fail
      have hL1 : Lies ((wr.alloc (.cells #[.int .i64 4, .int .i64 0, .int .u64 0, .string ⟨#[]⟩, .int .i64 ((n : Int) % 5), .int .i64 5, .int .i64 0, .int .u64 0, .string ⟨#[]⟩, .int .i64 ((n : Int) / 5 % 5), .int .i64 6, .int .i64 0, .int .u64 0, .string ⟨#[]⟩, .int .i64 ((n : Int) / 25 % 5), .int .i64 4, .int .i64 0, .int .u64 0, .string ⟨#[]⟩, .int .i64 ((n : Int) / 125 % 5), .int .i64 4, .int .i64 0, .int .u64 0, .string ⟨#[]⟩, .int .i64 ((n : Int) / 625 - 1)] 36)).alloc (.cells #[.slice (some ⟨wr.heap.size, 0, none⟩) 5 5] 27)) wr.heap.size #[.int .i64 4, .int .i64 0, .int .u64 0, .string ⟨#[]⟩, .int .i64 ((n : Int) % 5), .int .i64 5, .int .i64 0, .int .u64 0, .string ⟨#[]⟩, .int .i64 ((n : Int) / 5 % 5), .int .i64 6, .int .i64 0, .int .u64 0, .string ⟨#[]⟩, .int .i64 ((n : Int) / 25 % 5), .int .i64 4, .int .i64 0, .int .u64 0, .string ⟨#[]⟩, .int .i64 ((n : Int) / 125 % 5), .int .i64 4, .int .i64 0, .int .u64 0, .string ⟨#[]⟩, .int .i64 ((n : Int) / 625 - 1)] 36 := (Lies.new _ _ _).alloc _
      have hL2 : Lies ((wr.alloc (.cells #[.int .i64 4, .int .i64 0, .int .u64 0, .string ⟨#[]⟩, .int .i64 ((n : Int) % 5), .int .i64 5, .int .i64 0, .int .u64 0, .string ⟨#[]⟩, .int .i64 ((n : Int) / 5 % 5), .int .i64 6, .int .i64 0, .int .u64 0, .string ⟨#[]⟩, .int .i64 ((n : Int) / 25 % 5), .int .i64 4, .int .i64 0, .int .u64 0, .string ⟨#[]⟩, .int .i64 ((n : Int) / 125 % 5), .int .i64 4, .int .i64 0, .int .u64 0, .string ⟨#[]⟩, .int .i64 ((n : Int) / 625 - 1)] 36)).alloc (.cells #[.slice (some ⟨wr.heap.size, 0, none⟩) 5 5] 27)) (wr.heap.size + 1) #[.slice (some ⟨wr.heap.size, 0, none⟩) 5 5] 27 := by
        have := Lies.new (wr.alloc (.cells #[.int .i64 4, .int .i64 0, .int .u64 0, .string ⟨#[]⟩, .int .i64 ((n : Int) % 5), .int .i64 5, .int .i64 0, .int .u64 0, .string ⟨#[]⟩, .int .i64 ((n : Int) / 5 % 5), .int .i64 6, .int .i64 0, .int .u64 0, .string ⟨#[]⟩, .int .i64 ((n : Int) / 25 % 5), .int .i64 4, .int .i64 0, .int .u64 0, .string ⟨#[]⟩, .int .i64 ((n : Int) / 125 % 5), .int .i64 4, .int .i64 0, .int .u64 0, .string ⟨#[]⟩, .int .i64 ((n : Int) / 625 - 1)] 36)) #[.slice (some ⟨wr.heap.size, 0, none⟩) 5 5] 27
        simpa using this
      have hb1 : Below wr.heap.size wr ((wr.alloc (.cells #[.int .i64 4, .int .i64 0, .int .u64 0, .string ⟨#[]⟩, .int .i64 ((n : Int) % 5), .int .i64 5, .int .i64 0, .int .u64 0, .string ⟨#[]⟩, .int .i64 ((n : Int) / 5 % 5), .int .i64 6, .int .i64 0, .int .u64 0, .string ⟨#[]⟩, .int .i64 ((n : Int) / 25 % 5), .int .i64 4, .int .i64 0, .int .u64 0, .string ⟨#[]⟩, .int .i64 ((n : Int) / 125 % 5), .int .i64 4, .int .i64 0, .int .u64 0, .string ⟨#[]⟩, .int .i64 ((n : Int) / 625 - 1)] 36)).alloc (.cells #[.slice (some ⟨wr.heap.size, 0, none⟩) 5 5] 27)) := ((Below.refl _ _).alloc (Nat.le_refl _) _).alloc (by simp) _
      generalize (wr.alloc (.cells #[.int .i64 4, .int .i64 0, .int .u64 0, .string ⟨#[]⟩, .int .i64 ((n : Int) % 5), .int .i64 5, .int .i64 0, .int .u64 0, .string ⟨#[]⟩, .int .i64 ((n : Int) / 5 % 5), .int .i64 6, .int .i64 0, .int .u64 0, .string ⟨#[]⟩, .int .i64 ((n : Int) / 25 % 5), .int .i64 4, .int .i64 0, .int .u64 0, .string ⟨#[]⟩, .int .i64 ((n : Int) / 125 % 5), .int .i64 4, .int .i64 0, .int .u64 0, .string ⟨#[]⟩, .int .i64 ((n : Int) / 625 - 1)] 36)).alloc (.cells #[.slice (some ⟨wr.heap.size, 0, none⟩) 5 5] 27) = W1 at hL1 hL2 hb1 ⊢
      have htg : TG W1 ⟨some ⟨wr.heap.size, 0, none⟩, 5, shN n⟩ := ⟨⟨fun _ => ⟨wr.heap.size, 0, rfl, nat_of_lies hL1 rfl⟩, by simp [shN], shN_kids n hn⟩, by simp [shN], (fun h => by cases h), shN_words n, shN_txt n⟩
      obtain ⟨m, hm⟩ : ∃ m : Nat, (n : Int) % 4 = (m : Int) := ⟨n % 4, by omega⟩
      obtain ⟨ys, ok, k28, k29⟩ := kid_agree W1 _ htg 5 (by simp [shN]) m
      obtain ⟨L, k32, k33, hLl⟩ := kids_agree W1 _ htg 5 (by simp [shN])
      simp only at k28 k29 k32 k33
      obtain ⟨ny, hny⟩ : ∃ k, k = ys.length := ⟨_, rfl⟩
      unfold KidG at k28 k29
      simp only [← hny] at k28 k29
      have HNY := Lib.hid hny
      clear hny
      have c1 := hL2.cell 0 (v := .slice (some ⟨wr.heap.size, 0, none⟩) 5 5) rfl
      have HK := Lib.hid (And.intro k28 (And.intro k29 (And.intro k32 (And.intro k33 (And.intro htg (And.intro hL2 (And.intro (HB.out.trans (hb1.mono HB.out.size)) hLl)))))))
      clear k28 k29 k32 k33 htg hL1 hL2 hb1 a0 a1 hLl
      obtain ⟨g, hg⟩ : ∃ g, g = wr.heap.size := ⟨_, rfl⟩
      rw [← hg] at HK c1 ⊢
      clear hg
      go_wp2_with fail
      refine (HK.out.1 _ (Below.refl _ _)).mono ?_
      rintro e w2 ⟨a2, cc2, rfl, ht2, hb2⟩
      have c2 := (HK.out.2.2.2.2.2.1.below hb2 HK.out.2.2.2.2.2.1.lt).cell 0 (v := .slice (some ⟨g, 0, none⟩) 5 5) rfl
      have H2 := Lib.hid (And.intro ht2 hb2)
      clear ht2 hb2 c1
      go_upto_region 6 with fail
      have hL3 := Lies.new w2 #[.slice a2 ny cc2] 27
      have hb3 : Below w2.heap.size w2 (w2.alloc (.cells #[.slice a2 ny cc2] 27)) := (Below.refl _ _).alloc (Nat.le_refl _) _
      generalize w2.alloc (.cells #[.slice a2 ny cc2] 27) = W3 at hL3 hb3 ⊢
      have hb13 := H2.out.2.trans (hb3.mono H2.out.2.size)
      have c3 := (HK.out.2.2.2.2.2.1.below hb13 HK.out.2.2.2.2.2.1.lt).cell 0 (v := .slice (some ⟨g, 0, none⟩) 5 5) rfl
      have H3 := Lib.hid (And.intro (H2.out.1.below hb3 (Nat.le_refl _)) (And.intro hb13 (And.intro hL3 HNY.out)))
      clear hb3 hL3 hb13 c2
      go_wp2_with fail
      refine (HK.out.2.1 _ H3.out.2.1).mono ?_
      rintro e w4 ⟨a4, cc4, rfl, ht4, hb4⟩
      have hb14 := H3.out.2.1.trans (hb4.mono H3.out.2.1.size)
      have H4 := Lib.hid (And.intro ht4 (And.intro hb4 hb14))
      have c4 := (HK.out.2.2.2.2.2.1.below hb14 HK.out.2.2.2.2.2.1.lt).cell 0 (v := .slice (some ⟨g, 0, none⟩) 5 5) rfl
      have c5 := (H3.out.2.2.1.below hb4 H3.out.2.2.1.lt).cell 0 (v := .slice a2 ny cc2) rfl
      clear ht4 hb4 hb14 c3
      go_upto_region 7 with fail
      have hL5 := Lies.new w4 #[.slice a4 ny cc4] 27
      have hb5 : Below w4.heap.size w4 (w4.alloc (.cells #[.slice a4 ny cc4] 27)) := (Below.refl _ _).alloc (Nat.le_refl _) _
      generalize w4.alloc (.cells #[.slice a4 ny cc4] 27) = W5 at hL5 hb5 ⊢
      have hb35 := H4.out.2.1.trans (hb5.mono H4.out.2.1.size)
      have hb15 := H4.out.2.2.trans (hb5.mono H4.out.2.2.size)
      have hS : ∀ V, Below W5.heap.size W5 V → V.cell? ⟨g + 1, 0, none⟩ = some (.slice (some ⟨g, 0, none⟩) 5 5) ∧ V.cell? ⟨w2.heap.size, 0, none⟩ = some (.slice a2 ny cc2) ∧ V.cell? ⟨w4.heap.size, 0, none⟩ = some (.slice a4 ny cc4) := fun V hV => by
        have x1 := hb15.trans (hV.mono hb15.size)
        have x3 := hb35.trans (hV.mono hb35.size)
        exact ⟨(HK.out.2.2.2.2.2.1.below x1 HK.out.2.2.2.2.2.1.lt).cell 0 rfl, (H3.out.2.2.1.below x3 H3.out.2.2.1.lt).cell 0 rfl, (hL5.below hV hL5.lt).cell 0 rfl⟩
      have hTG : ∀ V, Below W5.heap.size W5 V → TG V ⟨some ⟨g, 0, none⟩, 5, shN n⟩ := fun V hV => HK.out.2.2.2.2.1.below (hb15.trans (hV.mono hb15.size))
      have s7 : ∀ V, Below W5.heap.size W5 V → Calls Tryz.prog 7 #[.int .i64 4, .slice none 0 0] V fun e w' => ∃ a c, e = .returned (.agg #[.slice a 1 c]) ∧ TG w' ⟨a, c, joinL (nK 4) []⟩ ∧ Below W5.heap.size W5 w' := fun V hV =>
        (ofG V 4 none 0 0 [] [] 1 rfl rfl (tsG_none V) rfl (by decide) (by decide)).mono fun e w' ⟨a, c, h1, h2, h3⟩ => ⟨a, c, h1, h2, hV.trans (h3.mono hV.size)⟩
      have s6 : ∀ V a c, Below W5.heap.size W5 V → TG V ⟨a, c, joinL (nK 4) []⟩ → Calls Tryz.prog 6 #[.agg #[.slice (some ⟨g, 0, none⟩) 5 5], .agg #[.slice a 1 c]] V fun e w' => e = .returned (.bool true) ∧ Below W5.heap.size W5 w' := fun V a c hV h =>
        (tellsG V ⟨some ⟨g, 0, none⟩, 5, shN n⟩ ⟨a, c, joinL (nK 4) []⟩ 5 1 (by simp [shN]) rfl (hTG V hV) h).mono fun e w' k => ⟨k.1, hV.trans (k.2.mono hV.size)⟩
      have s30 : ∀ V, Below W5.heap.size W5 V → Calls Tryz.prog 30 #[.agg #[.slice a2 ny cc2], .agg #[.slice a4 ny cc4]] V fun e w' => e = .returned (.bool true) ∧ Below W5.heap.size W5 w' := fun V hV => by
        have x3 := H3.out.1.below (hb35.trans (hV.mono hb35.size)) (Nat.le_refl _)
        have x4 := (H4.out.1.below hb5 (Nat.le_refl _)).below hV (Nat.le_refl _)
        have := sameTerm_any V a2 a4 cc2 cc4 ys ys x3 x4
        rw [sameN_refl, ← H3.out.2.2.2] at this
        exact this.mono fun e w' k => ⟨k.1, hV.trans (k.2.mono hV.size)⟩
      obtain ⟨nl, hnl⟩ : ∃ k, k = L.length := ⟨_, rfl⟩
      have s32 : ∀ V, Below W5.heap.size W5 V → Calls Tryz.prog 32 #[.agg #[.slice (some ⟨g, 0, none⟩) 5 5]] V fun e w' => ∃ a c l, e = .returned (.slice a nl c) ∧ (List.map TK.xs l = L ∧ TsAt w' a l) ∧ Below W5.heap.size W5 w' := fun V hV => by
        rw [hnl]
        exact (HK.out.2.2.1 V (hb15.trans (hV.mono hb15.size))).mono fun e w' ⟨a, c, l, h1, h2, h3, h4⟩ => ⟨a, c, l, h1, ⟨h2, h3⟩, hV.trans (h4.mono hV.size)⟩
      have s33 : ∀ V a l, Below W5.heap.size W5 V → (List.map TK.xs l = L ∧ TsAt V a l) → Calls Tryz.prog 33 #[.agg #[.slice (some ⟨g, 0, none⟩) 5 5]] V fun e w' => ∃ a' c' l', e = .returned (.slice a' nl c') ∧ ((List.map TK.xs l = L ∧ TsAt w' a l) ∧ (List.map TK.xs l' = L ∧ TsAt w' a' l')) ∧ Below W5.heap.size W5 w' := fun V a l hV hl => by
        rw [hnl]
        exact (HK.out.2.2.2.1 V (hb15.trans (hV.mono hb15.size))).mono fun e w' ⟨a', c', l', h1, h2, h3, h4⟩ => ⟨a', c', l', h1, ⟨⟨hl.1, hl.2.below h4 (Nat.le_refl _)⟩, ⟨h2, h3⟩⟩, hV.trans (h4.mono hV.size)⟩
      have s31 : ∀ V a c a' c' l l', Below W5.heap.size W5 V → ((List.map TK.xs l = L ∧ TsAt V a l) ∧ (List.map TK.xs l' = L ∧ TsAt V a' l')) → Calls Tryz.prog 31 #[.slice a nl c, .slice a' nl c'] V fun e w' => e = .returned (.bool true) ∧ Below W5.heap.size W5 w' := fun V a c a' c' l l' hV hl => by
        have e1 : nl = l.length := by rw [hnl, ← hl.1.1, List.length_map]
        have e2 : nl = l'.length := by rw [hnl, ← hl.2.1, List.length_map]
        have h31 := sameTerms_any V a a' c c' l l' hl.1.2 hl.2.2 (by rw [hl.1.1, hl.2.1]) (by have := HK.out.2.2.2.2.2.2.2; omega)
        rw [← e1, ← e2] at h31
        exact h31.mono fun e w' k => ⟨k.1, hV.trans (k.2.mono hV.size)⟩
      have HS := Lib.hid (And.intro hS (And.intro s7 (And.intro s6 (And.intro s30 (And.intro s32 (And.intro s33 (And.intro s31 (HK.out.2.2.2.2.2.2.1.trans (hb15.mono HK.out.2.2.2.2.2.2.1.size)))))))))
      obtain ⟨y1, y2, y3⟩ := hS W5 (Below.refl _ _)
      have hB5 : Below W5.heap.size W5 W5 := Below.refl _ _
      have d5 : Below W5.heap.size W5 W5.drew := hB5.drew
      have x1 : (ok != ok) = false := by simp
      clear hS hTG s7 s6 s30 s32 s33 s31 hL5 hb5 hb35 hb15 c4 c5 hnl
      go_cut [68] from 86 (fun v W => v = .bool false ∧ Below w.heap.size w W)
      case first =>
        go_region_held3 (fun V => V.cell? ⟨g + 1, 0, none⟩ = some (.slice (some ⟨g, 0, none⟩) 5 5) ∧ V.cell? ⟨w2.heap.size, 0, none⟩ = some (.slice a2 ny cc2) ∧ V.cell? ⟨w4.heap.size, 0, none⟩ = some (.slice a4 ny cc4)) (first | go_keep | exact HS.out.1 _ (by assumption))
          (first | (with_reducible refine (HS.out.2.1 _ (by assumption)).mono ?_; rintro e u1 ⟨b1, b2, rfl, hg1, hu1⟩) | (with_reducible refine (HS.out.2.2.1 _ _ _ (by assumption) (by assumption)).mono ?_; rintro e u2 ⟨rfl, hu2⟩) | (with_reducible refine (HS.out.2.2.2.1 _ (by assumption)).mono ?_; rintro e u3 ⟨rfl, hu3⟩) | (with_reducible refine (HS.out.2.2.2.2.1 _ (by assumption)).mono ?_; rintro e u4 ⟨b3, b4, l4, rfl, hl4, hu4⟩) | (with_reducible refine (HS.out.2.2.2.2.2.1 _ _ _ (by assumption) (by assumption)).mono ?_; rintro e u5 ⟨b5, b6, l5, rfl, hl5, hu5⟩) | (with_reducible refine (HS.out.2.2.2.2.2.2.1 _ _ _ _ _ _ _ (by assumption) (by assumption)).mono ?_; rintro e u6 ⟨rfl, hu6⟩))
        have U6 := Lib.hid (HS.out.2.2.2.2.2.2.2.trans (hu6.mono HS.out.2.2.2.2.2.2.2.size))
        clear hu1 hu2 hu3 hu4 hu5 hu6 hg1 hl4 hl5
        go_wp2_with fail
        go_meet
        case rel => exact ⟨by simp, U6.out⟩
      case rest =>
        obtain ⟨rfl, hb8⟩ := hcut
        rename World => v8
        have V8 := Lib.hid hb8
        clear hb8 y1 y2 y3 x1 hB5 d5
        go_wp2_with fail
        exact ⟨⟨n + 1, by omega, by go_num, V8.out⟩, by simp [intOf]; omega⟩
    · have q1 : ¬ (n : Int) < 3125 := by omega
      have HB := Lib.hid hbr
      clear hbr
      go_wp2_with fail
      refine (tellsG _ ⟨none, 0, []⟩ ⟨none, 0, []⟩ 0 0 rfl rfl (none_tg _) (none_tg _)).mono ?_
      rintro e w2 ⟨rfl, hb2⟩
      have H2 := Lib.hid (HB.out.trans (hb2.mono HB.out.size))
      clear hb2
      go_wp2_with fail
      have hL3 := Lies.new w2 #[.int .i64 4, .int .i64 0, .int .u64 0, .string ⟨#[]⟩, .int .i64 4611686018427387904] 36
      have hb3 : Below w2.heap.size w2 (w2.alloc (.cells #[.int .i64 4, .int .i64 0, .int .u64 0, .string ⟨#[]⟩, .int .i64 4611686018427387904] 36)) := (Below.refl _ _).alloc (Nat.le_refl _) _
      generalize w2.alloc (.cells #[.int .i64 4, .int .i64 0, .int .u64 0, .string ⟨#[]⟩, .int .i64 4611686018427387904] 36) = W3 at hL3 hb3 ⊢
      have H3 := Lib.hid (And.intro (one_tg (x := ⟨4, 0, 0, ⟨#[]⟩, 4611686018427387904⟩) hL3 (by decide) (by decide) (Nat.zero_le _)) (H2.out.trans (hb3.mono H2.out.size)))
      clear hL3 hb3
      refine (numG _ 0).mono ?_
      rintro e w4 ⟨a4, c4, rfl, ht4, hb4⟩
      have H4 := Lib.hid (And.intro ht4 (And.intro (H3.out.1.below hb4) (H3.out.2.trans (hb4.mono H3.out.2.size))))
      clear ht4 hb4
      go_wp2_with fail
      refine (tellsG _ _ _ 1 1 rfl rfl H4.out.2.1 H4.out.1).mono ?_
      rintro e w5 ⟨rfl, hb5⟩
      have H5 := Lib.hid (H4.out.2.2.trans (hb5.mono H4.out.2.2.size))
      clear hb5
      go_wp2_with fail
      have hL6 := Lies.new w5 #[.int .i64 4, .int .i64 0, .int .u64 0, .string ⟨#[]⟩, .int .i64 (-9223372036854775808)] 36
      have hb6 : Below w5.heap.size w5 (w5.alloc (.cells #[.int .i64 4, .int .i64 0, .int .u64 0, .string ⟨#[]⟩, .int .i64 (-9223372036854775808)] 36)) := (Below.refl _ _).alloc (Nat.le_refl _) _
      generalize w5.alloc (.cells #[.int .i64 4, .int .i64 0, .int .u64 0, .string ⟨#[]⟩, .int .i64 (-9223372036854775808)] 36) = W6 at hL6 hb6 ⊢
      have H6 := Lib.hid (And.intro (one_tg (x := ⟨4, 0, 0, ⟨#[]⟩, -9223372036854775808⟩) hL6 (by decide) (by decide) (Nat.zero_le _)) (H5.out.trans (hb6.mono H5.out.size)))
      clear hL6 hb6
      refine (numG _ 0).mono ?_
      rintro e w7 ⟨a7, c7, rfl, ht7, hb7⟩
      have H7 := Lib.hid (And.intro ht7 (And.intro (H6.out.1.below hb7) (H6.out.2.trans (hb7.mono H6.out.2.size))))
      clear ht7 hb7
      go_wp2_with fail
      refine (tellsG _ _ _ 1 1 rfl rfl H7.out.2.1 H7.out.1).mono ?_
      rintro e w8 ⟨rfl, hb8⟩
      have H8 := Lib.hid (H7.out.2.2.trans (hb8.mono H7.out.2.2.size))
      clear hb8
      go_wp2_with fail
      go_ret
      exact ⟨rfl, H8.out⟩
end Go.Proofs.YtieoiklgoeclaaaGreat
