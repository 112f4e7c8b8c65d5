/-
  slices.Clone of assets; a bundle with all signs turned.
  The bundle of all sums; or a panic, where there is none.
-/
import Derived.Test.YtjngghihciimjaaGreatJVj
import Derived.Test.YtjngghihciimjaaGreatJVor
import Derived.WalkSpells
import Derived.Laws.Cover3
import Derived.Test.YtjngghihciimjaaGreatJVst
import Derived.Test.YtjngghihciimjaaGreatJVy
namespace Go.Proofs.YtjngghihciimjaaGreat
set_option maxRecDepth 100000
open Go.RowKit Go.Sort Go.Maps

section
variable {α : Type} (enc : α → Array Value) (k : Nat)
theorem cellsF_src {w : World} {g off : Nat} {l : List α} (hk : 0 < k) (hs : ∀ a, a ∈ l → (enc a).size = k) (hh : ∀ (i : Nat) (a : α), l[i]? = some a → w.rangeAt g (off + i * k) (enc a).toList) : ∀ j u, (cellsF enc l)[j]? = some u → w.cell? ((⟨g, off, none⟩ : Addr).add j) = some u := fun j u hu => by
  have hl := (List.getElem?_eq_some_iff.1 hu).1
  rw [cellsF_len enc k l hs] at hl
  have hj : j / k < l.length := (Nat.div_lt_iff_lt_mul hk).2 hl
  have hm : j % k < k := Nat.mod_lt _ hk
  have e : j / k * k + j % k = j := by have := Nat.div_add_mod j k; rw [Nat.mul_comm] at this; exact this
  have ha := List.getElem?_eq_getElem hj
  rw [← e, cellsF_get enc k l hs (j / k) _ ha (j % k) hm] at hu
  have := hh (j / k) _ ha (j % k) u (by rw [Array.getElem?_toList]; exact hu)
  rw [Addr.add_lit]
  rw [Nat.add_assoc, e] at this
  exact this
end
theorem assets_nil (w : World) (a : Option Addr) (l c : Nat) : (binOp .eql 22 (.slice a l c) (.slice none 0 0)).run Tryz.prog w = .ok (.bool a.isNone) w := Lib.run_eql_slice_nil w _ _ a l c 0 0 Tryz.underlying22
set_option maxHeartbeats 1000000 in
theorem sclone_any (w : World) (a : Option Addr) (c : Nat) (l : List As) (h : Row w a l) (hl : l.length ≤ 1000000) :
    Calls Tryz.prog 87 #[.slice a l.length c] w fun e w' => (∃ v, e = .returned v ∧ OwnAs w' w.heap.size v l) ∧ Below w.heap.size w w' := by
  cases a with
  | none =>
    have hn : l = [] := by
      rcases Nat.eq_zero_or_pos l.length with h0 | h0
      · exact List.eq_nil_of_length_eq_zero h0
      · obtain ⟨g, off, h1, -⟩ := h.2.2 h0
        cases h1
    subst hn
    have hq := assets_nil w none 0 c
    clear h
    show Calls Tryz.prog 87 #[.slice none 0 c] w _
    go_enter Tryz.func87, Tryz.ntmps87
    go_wp2_with fail
    go_ret
    exact ⟨⟨_, rfl, World.ownsRow_nil _ _ _ _⟩, Below.refl _ _⟩
  | some ad =>
    have hok : ∀ a, a ∈ l → (asC a).size = 34 := fun a ha => asC_size a (h.2.1 a ha).1
    have he : (w.alloc (.cells #[] 38)).ownsRow w.heap.size 38 34 (.slice (some ⟨w.heap.size, 0, none⟩) 0 0) 0 [] := World.ownsRow_made w #[] 0 (Nat.le_refl _) (Nat.zero_le _) rfl
    have hb : Below w.heap.size w (w.alloc (.cells #[] 38)) := (Below.refl _ _).alloc (Nat.le_refl _) _
    have hs : ∀ j u, (cellsF asC l)[j]? = some u → (w.alloc (.cells #[] 38)).cell? (ad.add j) = some u := fun j u hu => by
      have h0 : 0 < l.length := by
        have := (List.getElem?_eq_some_iff.1 hu).1
        rw [cellsF_len asC 34 l hok] at this
        omega
      obtain ⟨g, off, h1, h2, h3⟩ := h.2.2 h0
      cases h1
      exact cellsF_src asC 34 (by decide) hok (h3.below hb h2) j u hu
    have hq := assets_nil w (some ad) l.length c
    obtain ⟨i0, z0, hi0, hz0, hz1, hz2, hz3⟩ := info_parts info54
    have hlen := cellsF_len asC 34 l hok
    have hone := cellsF_one asC l fun a _ => asC_one a
    have HE := Lib.hid he
    have HB := Lib.hid hb
    have HS := Lib.hid (And.intro hs (And.intro hlen (And.intro hone hl)))
    have HI := Lib.hid (And.intro hi0 (And.intro hz0 (And.intro hz1 (And.intro hz2 hz3))))
    clear he hb hs h hok hlen hone hi0 hz0 hz1 hz2 hz3 hl
    go_enter Tryz.func87, Tryz.ntmps87
    go_wp2_with (at_builtin; go_must (refine wpList_append_own_at _ rfl _ _ 22 rfl w.heap.size 38 i0 z0 34 56 Tryz.underlying22 HI.out.1 HI.out.2.1 HI.out.2.2.1 HI.out.2.2.2.1 HI.out.2.2.2.2 (by decide) _ 0 [] rfl HE.out ad l.length c (cellsF asC l) rfl HS.out.2.1 HS.out.1 HS.out.2.2.1 (by have := HS.out.2.2.2; unfold maxLen; omega) (by have := HS.out.2.2.2; omega) (by simp) ?_; intro v' w1 hown hgrow _ hat))
    go_ret
    refine ⟨⟨_, rfl, by unfold OwnAs; simpa using hown⟩, HB.out.grown hgrow (by simp) (fun k e => ?_)⟩
    have : w.heap.size = k := Option.some.inj e
    omega
theorem own_set {w : World} {B g n cap : Nat} {l : List As} {k : Nat} {a : As} (hok : ∀ a, a ∈ l → a.nm.1.length = 32) (h : OwnAs w B (.slice (some ⟨g, 0, none⟩) n cap) l) (hk : l[k]? = some a) (x : Int) :
    OwnAs (w.setCell ⟨g, k * 34 + 33, none⟩ (.int .i64 x)) B (.slice (some ⟨g, 0, none⟩) n cap) (l.set k ⟨a.nm, x⟩) := by
  have hs : ∀ a, a ∈ l → (asC a).size = 34 := fun a ha => asC_size a (hok a ha)
  have hkl : k < l.length := (List.getElem?_eq_some_iff.1 hk).1
  have hs' : ∀ b, b ∈ l.set k ⟨a.nm, x⟩ → (asC b).size = 34 := fun b hb => by
    rcases List.mem_or_eq_of_mem_set hb with hb | rfl
    · exact hs b hb
    · exact asC_size _ (hok a (List.mem_of_getElem? hk))
  have hcells : cellsF asC (l.set k ⟨a.nm, x⟩) = (cellsF asC l).set (k * 34 + 33) (.int .i64 x) := by
    apply List.ext_getElem?
    intro j
    have hl1 := cellsF_len asC 34 l hs
    have hl2 := cellsF_len asC 34 (l.set k ⟨a.nm, x⟩) hs'
    rw [List.length_set] at hl2
    by_cases hj : j < l.length * 34
    · have hi : j / 34 < l.length := by omega
      have hm : j % 34 < 34 := Nat.mod_lt _ (by decide)
      have e : j / 34 * 34 + j % 34 = j := by omega
      have h1 := cellsF_get asC 34 l hs (j / 34) _ (List.getElem?_eq_getElem hi) (j % 34) hm
      have hi2 : j / 34 < (l.set k ⟨a.nm, x⟩).length := by rw [List.length_set]; exact hi
      have h2 := cellsF_get asC 34 (l.set k ⟨a.nm, x⟩) hs' (j / 34) _ (List.getElem?_eq_getElem hi2) (j % 34) hm
      rw [e] at h1 h2
      rw [h2, List.getElem?_set]
      by_cases hjk : k * 34 + 33 = j
      · rw [if_pos hjk, if_pos (by rw [hl1]; omega)]
        have e1 : j / 34 = k := by omega
        have e2 : j % 34 = 33 := by omega
        rw [e2, List.getElem_set, if_pos e1.symm]
        exact asC_amt ⟨a.nm, x⟩ (hok a (List.mem_of_getElem? hk))
      · rw [if_neg hjk, h1, List.getElem_set]
        by_cases e1 : k = j / 34
        · rw [if_pos e1]
          have e2 : j % 34 < 33 := by omega
          have ea : l[j / 34] = a := by
            have h3 := hk
            rw [e1, List.getElem?_eq_getElem hi] at h3
            exact Option.some.inj h3
          rw [ea]
          have h32 := hok a (List.mem_of_getElem? hk)
          unfold asC
          by_cases e3 : j % 34 < 32
          · rw [Array.getElem?_append_left (by rw [B8_size, h32]; exact e3), Array.getElem?_append_left (by rw [B8_size, h32]; exact e3)]
          · have e4 : j % 34 = 32 := by omega
            rw [e4, Array.getElem?_append_right (by rw [B8_size, h32]; exact Nat.le_refl _), Array.getElem?_append_right (by rw [B8_size, h32]; exact Nat.le_refl _), B8_size, h32]
            rfl
        · rw [if_neg e1]
    · rw [List.getElem?_eq_none (by omega), List.getElem?_eq_none (by rw [List.length_set]; omega)]
  obtain ⟨hlen, hr⟩ := h
  rcases hr with ⟨h1, _⟩ | ⟨g', cap', cur, h1, h2, h3, h4, h5, h6, h7⟩
  · cases h1
  · cases h1
    unfold OwnAs
    rw [List.length_set, hcells]
    refine ⟨by rw [List.length_set]; exact hlen, .inr ⟨g, cap, cur.setIfInBounds (k * 34 + 33) (.int .i64 x), rfl, h2, Lies.set (cs := cur) h3 _ _, h4, h5, by rw [Array.size_setIfInBounds]; exact h6, ?_⟩⟩
    rw [Array.toList_setIfInBounds, List.take_set, h7]
theorem own_free {w : World} {B g n cap : Nat} {l : List As} (h : OwnAs w B (.slice (some ⟨g, 0, none⟩) n cap) l) (j : Nat) : w.frozen? ⟨g, j, none⟩ = false := by
  rcases h.2 with ⟨h1, _⟩ | ⟨g', cap', cur, h1, h2, h3, _⟩
  · cases h1
  · cases h1
    exact Lies.free (cs := cur) h3 j
theorem grown_setCell (w : World) (p : Addr) (v : Value) : w.grownBy (w.setCell p v) (some p.block) := ⟨rfl, rfl, rfl, by rw [size_set]; exact Nat.le_refl _, fun k _ hk => heap_setCell_other w p k v (fun e => hk (by rw [e]))⟩
theorem below_setCell {B : Nat} {a w : World} (h : Below B a w) (p : Addr) (v : Value) (hp : B ≤ p.block) : Below B a (w.setCell p v) := h.trans ⟨rfl, rfl, rfl, by rw [size_set]; exact Nat.le_refl _, fun k hk => heap_setCell_other w p k v (by omega)⟩
def turnA (a : As) : As := ⟨a.nm, -a.amt⟩
def turnL (l : List As) : List As := l.map turnA
theorem turn_step (l : List As) (k : Nat) (a : As) (h : (turnL (l.take k) ++ l.drop k)[k]? = some a) (hk : k < l.length) : (turnL (l.take k) ++ l.drop k).set k ⟨a.nm, -a.amt⟩ = turnL (l.take (k + 1)) ++ l.drop (k + 1) := by
  have hl : (turnL (l.take k)).length = k := by unfold turnL; rw [List.length_map, List.length_take]; omega
  rw [List.getElem?_append_right (by omega), hl, Nat.sub_self, List.getElem?_drop, Nat.add_zero, List.getElem?_eq_getElem hk] at h
  have ha : l[k] = a := Option.some.inj h
  rw [List.set_append_right _ _ (by omega), hl, Nat.sub_self, List.drop_eq_getElem_cons hk, List.set_cons_zero]
  unfold turnL
  rw [List.take_add_one, List.getElem?_eq_getElem hk, List.map_append, ha]
  simp [turnA]
def TurnRes (coin : Int) (l : List As) (e : Ending) (w' : World) : Prop := ∃ pa c, e = .returned (.agg (vC (-coin) pa l.length c)) ∧ Row w' pa (turnL l)
set_option maxHeartbeats 4000000 in
theorem turned_any (w : World) (coin : Int) (pa : Option Addr) (l : List As) (c : Nat) (h : Row w pa l) (hl : l.length ≤ 1000000) (h0 : -9223372036854775807 ≤ coin) (h1 : coin < 9223372036854775808) (hp : ∀ a, a ∈ l → -9223372036854775807 ≤ a.amt) :
    Calls Tryz.prog 53 #[.agg (vC coin pa l.length c)] w fun e w' => TurnRes coin l e w' ∧ Below w.heap.size w w' := by
  have hli : (l.length : Int) ≤ 9223372036854775807 := by omega
  have hneg : IntKind.i64.wrap (-coin) = -coin := by simp [IntKind.wrap, IntKind.bits, IntKind.signed]; omega
  have H := Lib.hid (And.intro h (And.intro hl (And.intro h0 (And.intro h1 hp))))
  clear h hl h0 h1 hp
  unfold vC
  go_enter Tryz.func53, Tryz.ntmps53
  go_upto_region 1 with fail
  have hL1 : Lies ((w.alloc (.cells #[.int .i64 coin, .slice pa l.length c] 24)).alloc (.cells #[.int .i64 0, .slice none 0 0] 24)) w.heap.size #[.int .i64 coin, .slice pa l.length c] 24 := (Lies.new _ _ _).alloc _
  have hL2 : Lies ((w.alloc (.cells #[.int .i64 coin, .slice pa l.length c] 24)).alloc (.cells #[.int .i64 0, .slice none 0 0] 24)) (w.heap.size + 1) #[.int .i64 0, .slice none 0 0] 24 := by
    have := Lies.new (w.alloc (.cells #[.int .i64 coin, .slice pa l.length c] 24)) #[.int .i64 0, .slice none 0 0] 24
    simpa using this
  have hb0 : Below w.heap.size w ((w.alloc (.cells #[.int .i64 coin, .slice pa l.length c] 24)).alloc (.cells #[.int .i64 0, .slice none 0 0] 24)) := ((Below.refl _ _).alloc (Nat.le_refl _) _).alloc (by simp) _
  generalize (w.alloc (.cells #[.int .i64 coin, .slice pa l.length c] 24)).alloc (.cells #[.int .i64 0, .slice none 0 0] 24) = W1 at hL1 hL2 hb0 ⊢
  have HS : Hid (∀ U, Below W1.heap.size W1 U → Lies U w.heap.size #[.int .i64 coin, .slice pa l.length c] 24) := Lib.hid fun U hU => hL1.below hU hL1.lt
  have H1 := Lib.hid (And.intro hL2 hb0)
  clear hL1 hL2 hb0
  refine wp_region_noPanic (wp_region_late (fun j => j == 7 || j == 8 || j == 9) (fun U => Lies U w.heap.size #[.int .i64 coin, .slice pa l.length c] 24) (by kernel_rfl) ?_)
  change wpLate _ _ _ _ _ _ 10 _ _ (World.drew W1)
  have hbd : Below W1.heap.size W1 W1.drew := (Below.refl _ _).drew
  generalize World.drew W1 = wd at hbd ⊢
  have hcur := HS.out _ hbd
  refine late_take (i := 0) (v := (.pointer (some ⟨w.heap.size, 0, none⟩))) rfl 4 rfl (by kernel_rfl) (by kernel_rfl) (by kernel_rfl) (by kernel_rfl) (fun _ _ _ h => h) (by rfl) (by intro w' hS'; unfold execOp; simp [go_sem]) hcur _ rfl ?_
  simp only [Act.put, List.setIfInBounds_toArray, List.set_cons_zero, List.set_cons_succ]
  refine late_take (i := 1) (v := (.int .i64 coin)) rfl 5 rfl (by kernel_rfl) (by kernel_rfl) (by kernel_rfl) (by kernel_rfl) (fun _ _ _ h => h) (by rfl) (by intro w' hS'; have hq := hS'.cell 0 (v := .int .i64 coin) rfl; unfold execOp; simp [go_sem, hq]) hcur _ rfl ?_
  simp only [Act.put, List.setIfInBounds_toArray, List.set_cons_zero, List.set_cons_succ]
  refine late_take (i := 2) (v := (.int .i64 (-coin))) rfl 6 rfl (by kernel_rfl) (by kernel_rfl) (by kernel_rfl) (by kernel_rfl) (fun _ _ _ h => h) (by rfl) (by intro w' hS'; unfold execOp; simp [go_sem, hneg]) hcur _ rfl ?_
  simp only [Act.put, List.setIfInBounds_toArray, List.set_cons_zero, List.set_cons_succ]
  refine late_take (i := 3) (v := (.pointer (some ⟨w.heap.size, 1, none⟩))) rfl 7 rfl (by kernel_rfl) (by kernel_rfl) (by kernel_rfl) (by kernel_rfl) (fun _ _ _ h => h) (by rfl) (by intro w' hS'; unfold execOp; simp [go_sem]) hcur _ rfl ?_
  simp only [Act.put, List.setIfInBounds_toArray, List.set_cons_zero, List.set_cons_succ]
  refine late_take (i := 4) (v := (.slice pa l.length c)) rfl 8 rfl (by kernel_rfl) (by kernel_rfl) (by kernel_rfl) (by kernel_rfl) (fun _ _ _ h => h) (by rfl) (by intro w' hS'; have hq := hS'.cell 1 (v := .slice pa l.length c) rfl; unfold execOp; simp [go_sem, hq]) hcur _ rfl ?_
  simp only [Act.put, List.setIfInBounds_toArray, List.set_cons_zero, List.set_cons_succ]
  refine late_take (i := 6) (v := (.pointer (some ⟨w.heap.size, 0, none⟩))) rfl 10 rfl (by kernel_rfl) (by kernel_rfl) (by kernel_rfl) (by kernel_rfl) (fun _ _ _ h => h) (by rfl) (by intro w' hS'; unfold execOp; simp [go_sem]) hcur _ rfl ?_
  simp only [Act.put, List.setIfInBounds_toArray, List.set_cons_zero, List.set_cons_succ]
  have hcl := sclone_any wd pa c l (H.out.1.below (H1.out.2.trans (hbd.mono H1.out.2.size)) (Nat.le_refl _)) H.out.2.1
  have hcl2 : Calls Tryz.prog 87 #[.slice pa l.length c] wd fun e w' => ∃ v, e = .returned v ∧ (OwnAs w' wd.heap.size v l ∧ Below wd.heap.size wd w') := hcl.mono fun e w' h => by
    obtain ⟨⟨v, h1, h2⟩, h3⟩ := h
    exact ⟨v, h1, h2, h3⟩
  refine late_one (i := 5) (by kernel_rfl) _ rfl (wpOp_callG rfl (by rfl) 9 rfl 87 #[.slice pa l.length c] (by unfold execOp; simp [go_sem]) _ hcl2 ?_)
  rintro v5 w5 ⟨hown5, hb5⟩
  have hc5 := hbd.trans (hb5.mono hbd.size)
  have hcur := HS.out _ hc5
  refine ⟨fun _ => hcur, ?_⟩
  simp only [Act.put, List.setIfInBounds_toArray, List.set_cons_zero, List.set_cons_succ]
  obtain ⟨p5, c5, rfl⟩ : ∃ p c, v5 = .slice p l.length c := by
    obtain ⟨p, c, h1, _⟩ := hown5.row (fun a ha => H.out.1.2.1 a ha) H.out.1.1
    exact ⟨p, c, h1⟩
  have hcA := hcur.cell 0 (v := .int .i64 coin) rfl
  have hfA := hcur.free 0
  refine late_one (i := 7) (by kernel_rfl) _ rfl (wpOp_skipG (w' := w5.setCell ⟨w.heap.size, 0, none⟩ (.int .i64 (-coin))) rfl (by rfl) rfl (by unfold execOp; simp [go_sem, hcA, hfA]) ?_)
  refine ⟨fun h => absurd h (by decide), ?_⟩
  have hL7 : Lies (w5.setCell ⟨w.heap.size, 0, none⟩ (.int .i64 (-coin))) w.heap.size #[.int .i64 (-coin), .slice pa l.length c] 24 := hcur.set 0 (.int .i64 (-coin))
  have hbw5 : Below w.heap.size w w5 := H1.out.2.trans (hc5.mono H1.out.2.size)
  have hlw : w.heap.size + 1 < wd.heap.size := Nat.lt_of_lt_of_le H1.out.1.lt hbd.size
  have hb7 : Below w.heap.size w (w5.setCell ⟨w.heap.size, 0, none⟩ (.int .i64 (-coin))) := below_setCell hbw5 _ _ (Nat.le_refl _)
  have hown7 : OwnAs (w5.setCell ⟨w.heap.size, 0, none⟩ (.int .i64 (-coin))) wd.heap.size (.slice p5 l.length c5) l := hown5.kept (grown_setCell w5 _ _) (by
    cases hv : (Value.slice p5 l.length c5).ownBlock with
    | none => exact .inl rfl
    | some k =>
      right
      intro e
      have h1 := (hown5.lt k hv).1
      have h2 : k = w.heap.size := Option.some.inj e
      omega)
  have hR7 : Lies (w5.setCell ⟨w.heap.size, 0, none⟩ (.int .i64 (-coin))) (w.heap.size + 1) #[.int .i64 0, .slice none 0 0] 24 := (H1.out.1.below hc5 H1.out.1.lt).other _ _ (by simp)
  generalize w5.setCell ⟨w.heap.size, 0, none⟩ (.int .i64 (-coin)) = w7 at hL7 hb7 hown7 hR7 ⊢
  have hcA := hL7.cell 1 (v := .slice pa l.length c) rfl
  have hfA := hL7.free 1
  refine late_one (i := 8) (by kernel_rfl) _ rfl (wpOp_valG (v := .pointer (some ⟨w.heap.size, 1, none⟩)) (w' := w7) rfl (by rfl) 11 rfl (by unfold execOp; simp [go_sem]) ?_)
  refine ⟨fun h => absurd h (by decide), ?_⟩
  simp only [Act.put, List.setIfInBounds_toArray, List.set_cons_zero, List.set_cons_succ]
  refine late_one (i := 9) (by kernel_rfl) _ rfl (wpOp_skipG (w' := w7.setCell ⟨w.heap.size, 1, none⟩ (.slice p5 l.length c5)) rfl (by rfl) rfl (by unfold execOp; simp [go_sem, hcA, hfA]) ?_)
  refine ⟨fun h => absurd h (by decide), ?_⟩
  have hL9 : Lies (w7.setCell ⟨w.heap.size, 1, none⟩ (.slice p5 l.length c5)) w.heap.size #[.int .i64 (-coin), .slice p5 l.length c5] 24 := hL7.set 1 (.slice p5 l.length c5)
  have hb9 : Below w.heap.size w (w7.setCell ⟨w.heap.size, 1, none⟩ (.slice p5 l.length c5)) := below_setCell hb7 _ _ (Nat.le_refl _)
  have hown9 : OwnAs (w7.setCell ⟨w.heap.size, 1, none⟩ (.slice p5 l.length c5)) wd.heap.size (.slice p5 l.length c5) l := hown7.kept (grown_setCell w7 _ _) (by
    cases hv : (Value.slice p5 l.length c5).ownBlock with
    | none => exact .inl rfl
    | some k =>
      right
      intro e
      have h1 := (hown7.lt k hv).1
      have h2 : k = w.heap.size := Option.some.inj e
      omega)
  have hR9 : Lies (w7.setCell ⟨w.heap.size, 1, none⟩ (.slice p5 l.length c5)) (w.heap.size + 1) #[.int .i64 0, .slice none 0 0] 24 := hR7.other _ _ (by simp)
  generalize w7.setCell ⟨w.heap.size, 1, none⟩ (.slice p5 l.length c5) = w9 at hL9 hb9 hown9 hR9 ⊢
  refine late_done (by kernel_rfl) ?_ _
  unfold NoPanic
  dsimp only
  have c1 := hL9.cell 1 (v := .slice p5 l.length c5) rfl
  generalize wd.heap.size = B at hown9 hlw
  have H9 := Lib.hid (And.intro hL9 (And.intro hb9 (And.intro hown9 (And.intro hR9 hlw))))
  clear hL9 hb9 hown9 hR9 hlw hcA hfA hL7 hb7 hown7 hR7 hbw5 hcur hc5 hb5 hown5 hbd hcl hcl2 HS
  go_upto_region 3 with fail
  go_loopw [15] (fun i W => ∃ k : Nat, k ≤ l.length ∧ i = .int .i64 k ∧ Lies W w.heap.size #[.int .i64 (-coin), .slice p5 l.length c5] 24 ∧ Below w.heap.size w W ∧ OwnAs W B (.slice p5 l.length c5) (turnL (l.take k) ++ l.drop k) ∧ Lies W (w.heap.size + 1) #[.int .i64 0, .slice none 0 0] 24) (fun i _ => l.length - (intOf i).toNat)
  case atStart => exact ⟨0, Nat.zero_le _, rfl, H9.out.1, H9.out.2.1, by simpa [turnL] using H9.out.2.2.1, H9.out.2.2.2.1⟩
  case round =>
    clear c1
    obtain ⟨k, hk, rfl, hLW, hbW, hoW, hRW⟩ := hrel
    have hB := H9.out.2.2.2.2
    have hnm : ∀ a, a ∈ turnL (l.take k) ++ l.drop k → a.nm.1.length = 32 := fun a ha => by
      rcases List.mem_append.1 ha with ha | ha
      · obtain ⟨b, hb, rfl⟩ := List.mem_map.1 ha
        exact (H.out.1.2.1 b (List.mem_of_mem_take hb)).1
      · exact (H.out.1.2.1 a (List.mem_of_mem_drop ha)).1
    by_cases hlt : k < l.length
    · have m1 : (k : Int) < (l.length : Int) := by omega
      have m0 : (0 : Int) ≤ (k : Int) := by omega
      have hlen : (turnL (l.take k) ++ l.drop k).length = l.length := by unfold turnL; rw [List.length_append, List.length_map, List.length_take, List.length_drop]; omega
      obtain ⟨a, ha⟩ : ∃ a, a = l[k] := ⟨_, rfl⟩
      have hka : (turnL (l.take k) ++ l.drop k)[k]? = some a := by
        have hl : (turnL (l.take k)).length = k := by unfold turnL; rw [List.length_map, List.length_take]; omega
        rw [List.getElem?_append_right (by omega), hl, Nat.sub_self, List.getElem?_drop, Nat.add_zero, List.getElem?_eq_getElem hlt, ha]
      have haok := H.out.1.2.1 a (by rw [ha]; exact List.getElem_mem hlt)
      have hap := H.out.2.2.2.2 a (by rw [ha]; exact List.getElem_mem hlt)
      have hoW' := hoW
      unfold OwnAs at hoW'
      rcases own_at asC 34 (fun a ha => asC_size a (hnm a ha)) hoW' with ⟨_, h2⟩ | ⟨g, cap, h1, h2, h3, h4, h5, h6⟩
      · rw [h2] at hlen; simp at hlen; omega
      simp only [Value.slice.injEq] at h1
      obtain ⟨rfl, hx5, rfl⟩ := h1
      clear hx5
      have cc := h5 k a hka 33 (.int .i64 a.amt) (by rw [Array.getElem?_toList]; exact asC_amt a haok.1)
      rw [Nat.zero_add] at cc
      have ff := h6 (k * 34 + 33)
      have c1 := hLW.cell 1 (v := .slice (some ⟨g, 0, none⟩) l.length c5) rfl
      obtain ⟨x, hx⟩ : ∃ x, x = a.amt := ⟨_, rfl⟩
      have hwrap : IntKind.i64.wrap (-a.amt) = -a.amt := by simp [IntKind.wrap, IntKind.bits, IntKind.signed]; have := haok.2.2.2; omega
      have hset := own_set hnm hoW hka (-a.amt)
      rw [turn_step l k a hka hlt] at hset
      have hLs : Lies (wr.setCell ⟨g, k * 34 + 33, none⟩ (.int .i64 (-a.amt))) w.heap.size #[.int .i64 (-coin), .slice (some ⟨g, 0, none⟩) l.length c5] 24 := hLW.other _ _ (by simp; omega)
      have hRs : Lies (wr.setCell ⟨g, k * 34 + 33, none⟩ (.int .i64 (-a.amt))) (w.heap.size + 1) #[.int .i64 0, .slice none 0 0] 24 := hRW.other _ _ (by simp; omega)
      have hbs : Below w.heap.size w (wr.setCell ⟨g, k * 34 + 33, none⟩ (.int .i64 (-a.amt))) := below_setCell hbW _ _ (by simp; omega)
      rw [← hx] at cc hwrap hLs hbs hset hRs
      have HE := Lib.hid (And.intro hlt (And.intro hLs (And.intro hbs (And.intro hset hRs))))
      clear hx hlt hLs hbs hset hRs hoW hoW' hLW hbW hRW hka haok hap hnm hlen ha h2 h3 h4 h5 h6 hB hk
      go_wp2_with fail
      have e1 : (k : Int) + 1 = ((k + 1 : Nat) : Int) := by omega
      rw [e1]
      refine ⟨⟨k + 1, HE.out.1, rfl, HE.out.2.1, HE.out.2.2.1, HE.out.2.2.2.1, HE.out.2.2.2.2⟩, ?_⟩
      have h := HE.out.1
      show l.length - (k + 1) < l.length - k
      omega
    · have m1 : ¬ (k : Int) < (l.length : Int) := by omega
      have hkl : k = l.length := by omega
      subst hkl
      rw [List.take_length, List.drop_length, List.append_nil] at hoW
      have c0 := hLW.cell 0 (v := .int .i64 (-coin)) rfl
      have c1 := hLW.cell 1 (v := .slice p5 l.length c5) rfl
      have hok : ∀ a, a ∈ turnL l → AsOk a := fun a ha => by
        obtain ⟨b, hb, rfl⟩ := List.mem_map.1 ha
        have h1 := H.out.1.2.1 b hb
        have h2 := H.out.2.2.2.2 b hb
        refine ⟨h1.1, h1.2.1, ?_, ?_⟩
        · show -9223372036854775808 ≤ -b.amt
          have := h1.2.2.2
          omega
        · show -b.amt < 9223372036854775808
          omega
      have hlt : (turnL l).length = l.length := by unfold turnL; rw [List.length_map]
      obtain ⟨pa', c', he, hrow⟩ := hoW.row hok (by rw [hlt]; exact H.out.1.1)
      rw [hlt] at he
      simp only [Value.slice.injEq] at he
      obtain ⟨rfl, -, rfl⟩ := he
      have hrow2 : Row ((wr.setCell ⟨w.heap.size + 1, 0, none⟩ (.int .i64 (-coin))).setCell ⟨w.heap.size + 1, 1, none⟩ (.slice p5 l.length c5)) p5 (turnL l) := ⟨hrow.1, hrow.2.1, fun h0 => by
        have hoW' := hoW
        unfold OwnAs at hoW'
        rcases own_at asC 34 (fun a ha => asC_size a (hok a ha).1) hoW' with ⟨_, h2⟩ | ⟨g, cap, h1, h2, h3, h4, h5, h6⟩
        · rw [h2] at h0; simp at h0
        · simp only [Value.slice.injEq] at h1
          have hB := H9.out.2.2.2.2
          refine ⟨g, 0, h1.1, by rw [size_set, size_set]; exact h3, fun i a hi j v hv => ?_⟩
          exact (World.cell?_of_block ((heap_setCell_other _ _ g _ (by show g ≠ w.heap.size + 1; omega)).trans (heap_setCell_other _ _ g _ (by show g ≠ w.heap.size + 1; omega)))).trans (h5 i a hi j v hv)⟩
      have hbR : Below w.heap.size w ((wr.setCell ⟨w.heap.size + 1, 0, none⟩ (.int .i64 (-coin))).setCell ⟨w.heap.size + 1, 1, none⟩ (.slice p5 l.length c5)) := below_setCell (below_setCell hbW _ _ (by simp)) _ _ (by simp)
      have q0 := hRW.cell 0 (v := .int .i64 0) rfl
      have q1 := hRW.cell 1 (v := .slice none 0 0) rfl
      have f0 := hRW.free 0
      have f1 := hRW.free 1
      have hLR : Lies ((wr.setCell ⟨w.heap.size + 1, 0, none⟩ (.int .i64 (-coin))).setCell ⟨w.heap.size + 1, 1, none⟩ (.slice p5 l.length c5)) (w.heap.size + 1) #[.int .i64 (-coin), .slice p5 l.length c5] 24 := (hRW.set 0 _).set 1 _
      have HE := Lib.hid (And.intro hrow2 (And.intro hbR hLR))
      clear hLR hrow2 hbR hRW hrow hok hlt hoW hbW hnm hB hk hLW
      go_wp2_with fail
      refine bodyPost_ret (v := .agg #[.int .i64 (-coin), .slice p5 l.length c5]) (results_cell_row (p := 2) (ty := 24) (by kernel_rfl) _ _ (w.heap.size + 1) 24 #[.int .i64 (-coin), .slice p5 l.length c5] (0, 0) _ rfl HE.out.2.2 Tryz.underlying24 rfl info_value) rfl ⟨⟨p5, c5, rfl, HE.out.1⟩, HE.out.2.1⟩
end Go.Proofs.YtjngghihciimjaaGreat
namespace Go.Proofs.YtjngghihciimjaaGreat
set_option maxRecDepth 100000
open Go.RowKit Go.Sort Go.Maps

/-- Totals as a bundle's assets. -/
def asT (tl : List To) : List As := tl.map fun t => ⟨t.nm, t.w.toNat⟩
def ctT (tl : List To) : List Ct := tl.map fun t => (t.nm, t.w)
/-- A bundle that has these sums. -/
def TogOk (x : BitVec 128) (f : Nm → BitVec 128) (coin : Int) (l : List As) : Prop :=
  fitsW x = true ∧ coin = x.toNat ∧ ∃ tl, IsTot f (ctT tl) ∧ tl.length ≤ 30 ∧ (∀ t, t ∈ tl → fitsW t.w = true) ∧ l = asT tl
theorem ctT_inj : ∀ {a b : List To}, ctT a = ctT b → a = b
  | [], [], _ => rfl
  | [], _ :: _, h => by simp [ctT] at h
  | _ :: _, [], h => by simp [ctT] at h
  | x :: a, y :: b, h => by
    simp only [ctT, List.map_cons, List.cons.injEq, Prod.mk.injEq] at h
    rw [(To.ext_iff' x y).2 h.1, ctT_inj (a := a) (b := b) h.2]
theorem TogOk.eq {x : BitVec 128} {f : Nm → BitVec 128} {c d : Int} {l m : List As} (h : TogOk x f c l) (k : TogOk x f d m) : c = d ∧ l = m := by
  obtain ⟨_, h1, tl, h2, _, _, h3⟩ := h
  obtain ⟨_, k1, tm, k2, _, _, k3⟩ := k
  exact ⟨h1.trans k1.symm, by rw [h3, k3, ctT_inj (h2.eq k2)]⟩
def TogNo (x : BitVec 128) (f : Nm → BitVec 128) : Prop := ∀ c l, ¬ TogOk x f c l
/-- A row that is told: in memory of the call's own, from block B on. -/
def Mine (B : Nat) (w : World) (pa : Option Addr) (l : List As) (c : Nat) : Prop := Row w pa l ∧ OwnAs w B (.slice pa l.length c) l
theorem Mine.mono {B B' : Nat} {w : World} {pa : Option Addr} {l : List As} {c : Nat} (h : Mine B w pa l c) (hb : B' ≤ B) : Mine B' w pa l c :=
  ⟨h.1, h.2.1, by
    rcases h.2.2 with h1 | ⟨g, cap, cur, h1, h2, h3⟩
    · exact .inl h1
    · exact .inr ⟨g, cap, cur, h1, Nat.le_trans hb h2, h3⟩⟩
theorem Mine.below {B : Nat} {w w' : World} {pa : Option Addr} {l : List As} {c : Nat} (h : Mine B w pa l c) (hb : Below w.heap.size w w') : Mine B w' pa l c := ⟨h.1.below hb (Nat.le_refl _), ownsRow_below h.2 hb⟩
def Tog (B : Nat) (x : BitVec 128) (f : Nm → BitVec 128) (w' : World) (e : Ending) : Prop :=
  (∃ coin l pa c, e = .returned (.agg (vC coin pa l.length c)) ∧ Mine B w' pa l c ∧ TogOk x f coin l) ∨ (Fault e ∧ TogNo x f)
theorem Fault.panic (n : Int) : Fault (.panicked [{ v := .iface 139 (.int .i64 n), recovered := false }]) := ⟨n, rfl⟩
theorem fits_nat {x : BitVec 128} (h : fitsW x = true) : x.toNat < 9223372036854775808 := by unfold fitsW at h; exact of_decide_eq_true h
def z35 : Array Value := (Array.replicate 32 (.int .u8 0)) ++ #[.string ⟨#[]⟩, .int .i64 0, .int .u64 0]
attribute [-go_sem] Instr.build Instr.buildSlice
/-- A world in the midst of the loop. -/
structure OnTog (w W : World) (B b5 : Nat) (coin : Int) (tl : List To) (k : Nat) (pt : Option Addr) : Prop where
  below : Below w.heap.size w W
  res : Lies W w.heap.size #[.int .i64 0, .slice none 0 0] 24
  tot : RowT W pt tl
  all : ∃ pk ck, Lies W b5 #[.int .i64 coin, .slice pk k ck] 24 ∧ OwnAs W B (.slice pk k ck) (asT (tl.take k))
  size : B ≤ W.heap.size
  far : b5 < B
  first : w.heap.size < b5
  blk : ∀ g off, pt = some ⟨g, off, none⟩ → 0 < tl.length → g < b5
set_option maxHeartbeats 4000000 in
theorem together_any (w : World) (pa : Option Addr) (vs : List Va) (c : Nat) (h : RowV w pa vs) (hc : (ctsL vs).length ≤ 1000000) (hnm : ∀ p, p ∈ ctsL vs → p.1.1.length = 32 ∧ p.1.2.length ≤ 281474976710656) :
    Calls Tryz.prog 52 #[.slice pa vs.length c] w fun e w' => Tog w.heap.size (coinS vs) (sumAt (ctsL vs)) w' e ∧ Below w.heap.size w w' := by
  obtain ⟨s, hs⟩ : ∃ s, s = coinS vs := ⟨_, rfl⟩
  obtain ⟨f, hf⟩ : ∃ f, f = sumAt (ctsL vs) := ⟨_, rfl⟩
  have hsums : ∀ W, Below w.heap.size w W → Calls Tryz.prog 26 #[.slice pa vs.length c] W fun e w' => (∃ p lt c', e = .returned (.tuple #[wv s, .slice p lt.length c']) ∧ RowT w' p lt ∧ IsTot f (ctT lt)) ∧ Below W.heap.size W w' := fun W hW =>
    (sums_any totals_any W pa vs c (h.below hW (Nat.le_refl _)) hc hnm).mono fun e w' hh => by
      obtain ⟨⟨p, l, c', h1, h2, h3⟩, h4⟩ := hh
      rw [← hs] at h1
      rw [← hf] at h3
      exact ⟨⟨p, l, c', h1, h2, h3⟩, h4⟩
  rw [← hs, ← hf]
  have H := Lib.hid hsums
  clear hsums h hc hnm hs hf
  go_enter Tryz.func52, Tryz.ntmps52
  go_wp2_with fail
  have hb1 : Below w.heap.size w (w.alloc (.cells #[.int .i64 0, .slice none 0 0] 24)) := (Below.refl _ _).alloc (Nat.le_refl _) _
  have hL1 : Lies (w.alloc (.cells #[.int .i64 0, .slice none 0 0] 24)) w.heap.size #[.int .i64 0, .slice none 0 0] 24 := Lies.new _ _ _
  refine (H.out _ hb1).mono ?_
  rintro e w2 ⟨⟨pt, lt, ct, rfl, hrow, htot⟩, hb2⟩
  have hbw2 := hb1.trans (hb2.mono hb1.size)
  have hL2 := hL1.below hb2 hL1.lt
  have hlt2 := hL2.lt
  generalize w.alloc (.cells #[.int .i64 0, .slice none 0 0] 24) = W1 at hb1 hL1 hb2 ⊢
  have H2 := Lib.hid (And.intro hbw2 (And.intro hL2 (And.intro hrow (And.intro htot hlt2))))
  clear hb1 hL1 hb2 hbw2 hL2 hrow htot hlt2
  clear W1
  unfold wv
  have hli : (lt.length : Int) ≤ 9223372036854775807 := by have := H2.out.2.2.1.1; unfold maxLen at this; omega
  go_upto_region 2 with fail
  have hb3 : Below w2.heap.size w2 (w2.alloc (.cells #[.int .i64 (hiS s), .int .u64 (loN s)] 48)) := (Below.refl _ _).alloc (Nat.le_refl _) _
  have hL3 : Lies (w2.alloc (.cells #[.int .i64 (hiS s), .int .u64 (loN s)] 48)) w2.heap.size #[.int .i64 (hiS s), .int .u64 (loN s)] 48 := Lies.new _ _ _
  generalize w2.alloc (.cells #[.int .i64 (hiS s), .int .u64 (loN s)] 48) = W3 at hb3 hL3 ⊢
  have c0 := hL3.cell 0 (v := .int .i64 (hiS s)) rfl
  have c1 := hL3.cell 1 (v := .int .u64 (loN s)) rfl
  have H3 := Lib.hid hb3
  clear hb3 hL3
  by_cases hlen : lt.length ≤ 30
  · have m1 : (lt.length : Int) ≤ 30 := by omega
    cases hx : fitsW s with
    | false =>
      have hcall : ∀ W, Calls Tryz.prog 86 #[.agg #[.int .i64 (hiS s), .int .u64 (loN s)]] W fun e w' => Fault e ∧ Below W.heap.size W w' := fun W =>
        (amounts_any W s).mono fun e w' hh => by
          rcases hh with ⟨⟨h1, _⟩ | ⟨_, h1⟩, h2⟩
          · rw [hx] at h1; cases h1
          · exact ⟨h1, h2⟩
      have HC := Lib.hid (And.intro hcall hx)
      clear hcall hx
      go_wp2_with fail
      refine (HC.out.1 _).mono ?_
      rintro e w4 ⟨⟨n, rfl⟩, hb4⟩
      exact ⟨rfl, .inr ⟨Fault.panic n, fun c l hk => by have := hk.1; rw [HC.out.2] at this; cases this⟩, H2.out.1.trans ((H3.out.trans (hb4.mono H3.out.size)).mono H2.out.1.size)⟩
    | true =>
      have hcall : ∀ W, Calls Tryz.prog 86 #[.agg #[.int .i64 (hiS s), .int .u64 (loN s)]] W fun e w' => e = .returned (.int .i64 s.toNat) ∧ Below W.heap.size W w' := fun W => amount_any W s hx
      have hbl : ∀ W, (Instr.build 24 #[(0, .int .i64 s.toNat)]).run Tryz.prog W = .ok (.agg #[.int .i64 s.toNat, .slice none 0 0]) W := fun W => run_build W 24 _ _ (by kernel_rfl)
      have HC := Lib.hid (And.intro hcall hx)
      clear hcall hx
      go_wp2_with fail
      refine (HC.out.1 _).mono ?_
      rintro e w4 ⟨rfl, hb4⟩
      have hb34 := H3.out.trans (hb4.mono H3.out.size)
      have HB4 := Lib.hid hb34
      clear hb34 hb4 c0 c1
      go_upto_region 6 with fail
      clear hbl
      obtain ⟨b5, hb5⟩ : ∃ b, b = w4.heap.size := ⟨_, rfl⟩
      have hL5 : Lies (w4.alloc (.cells #[.int .i64 s.toNat, .slice none 0 0] 24)) b5 #[.int .i64 s.toNat, .slice none 0 0] 24 := by rw [hb5]; exact Lies.new _ _ _
      have hb25 : Below w2.heap.size w2 (w4.alloc (.cells #[.int .i64 s.toNat, .slice none 0 0] 24)) := by
        have h1 : Below w2.heap.size w2 w4 := HB4.out
        exact h1.alloc h1.size _
      have hsz5 : (w4.alloc (.cells #[.int .i64 s.toNat, .slice none 0 0] 24)).heap.size = b5 + 1 := by rw [hb5]; simp
      have hfar : w.heap.size < b5 := by rw [hb5]; exact Nat.lt_of_lt_of_le H2.out.2.2.2.2 HB4.out.size
      rw [← hb5]
      generalize w4.alloc (.cells #[.int .i64 s.toNat, .slice none 0 0] 24) = W5 at hL5 hb25 hsz5 ⊢
      have hon5 : OnTog w W5 (b5 + 1) b5 s.toNat lt 0 pt := ⟨H2.out.1.trans (hb25.mono H2.out.1.size), H2.out.2.1.below hb25 H2.out.2.2.2.2, H2.out.2.2.1.below hb25 (Nat.le_refl _), ⟨none, 0, hL5, World.ownsRow_nil _ _ _ _⟩, by omega, by omega, hfar, fun g off e h0 => by
        obtain ⟨g', off', e', hlt, _⟩ := H2.out.2.2.1.2.2 h0
        rw [e] at e'
        cases e'
        rw [hb5]
        exact Nat.lt_of_lt_of_le hlt HB4.out.size⟩
      have H5 := Lib.hid hon5
      clear hL5 hb25 hsz5 hon5 hb5 hfar
      go_loopw [22] (fun i W => ∃ k : Nat, k ≤ lt.length ∧ i = .int .i64 k ∧ OnTog w W (b5 + 1) b5 s.toNat lt k pt ∧ ∀ t, t ∈ lt.take k → fitsW t.w = true) (fun i _ => lt.length - (intOf i).toNat)
      case atStart => exact ⟨0, Nat.zero_le _, rfl, H5.out, fun t ht => by simp at ht⟩
      case round =>
        obtain ⟨k, hk, rfl, hon, hall⟩ := hrel
        by_cases hlt : k < lt.length
        · have n1 : (k : Int) < (lt.length : Int) := by omega
          have n0 : (0 : Int) ≤ (k : Int) := by omega
          obtain ⟨g, off, rfl, hg, hh⟩ := hon.tot.2.2 (by omega)
          obtain ⟨t, ht⟩ : ∃ t, t = lt[k] := ⟨_, rfl⟩
          have hkt : lt[k]? = some t := by rw [ht, List.getElem?_eq_getElem hlt]
          have okt := hon.tot.2.1 t (List.mem_of_getElem? hkt)
          have hrg := hh k t hkt
          obtain ⟨ov, hov⟩ : ∃ v, v = toC t := ⟨_, rfl⟩
          have hos : ov.size = 35 := by rw [hov]; exact toC_size t okt.1
          have ho1 : ov.all (·.oneCell') = true := by rw [hov]; exact toC_one t
          rw [← hov] at hrg
          have HI := Lib.hid (And.intro (show (Tryz.prog.info? 75).map (·.size) = some ov.size by rw [hos]; exact info_total) (And.intro hos (And.intro ho1 hov)))
          have HJ := Lib.hid (And.intro hon (And.intro hlt (And.intro hkt (And.intro okt hall))))
          have HRG := Lib.hid hrg
          clear hon hlt hk ht hkt okt hrg hos ho1 hov hg hh hall H5
          go_upto_region 8 with (first
            | (refine wpList_load_mid rfl 75 _ rfl g (off + k * 35) rfl ov.toList _ HRG.out Tryz.underlying75 rfl (by rw [Array.length_toList]; exact HI.out.1) ?_)
            | (refine wpList_store_row rfl 75 _ _ rfl wr.heap.size ov rfl rfl 75 z35 (Lies.new wr z35 75) HI.out.1 (by rw [HI.out.2.1]; kernel_rfl) HI.out.2.2.1 ?_))
          rw [World.setRow_alloc_new]
          obtain ⟨b7, hb7⟩ : ∃ b, b = wr.heap.size := ⟨_, rfl⟩
          have hL7 : Lies (wr.alloc (.cells ov 75)) b7 ov 75 := by rw [hb7]; exact Lies.new _ _ _
          have hba : Below wr.heap.size wr (wr.alloc (.cells ov 75)) := (Below.refl _ _).alloc (Nat.le_refl _) _
          rw [← hb7]
          have hb7s : b5 + 1 ≤ b7 := by rw [hb7]; exact HJ.out.1.size
          generalize wr.alloc (.cells ov 75) = W7 at hL7 hba ⊢
          obtain ⟨pk, ck, hLk, howk⟩ := HJ.out.1.all
          have hLk7 := hLk.below hba hLk.lt
          have HS : Hid (∀ U, Below W7.heap.size W7 U → Lies U b5 #[.int .i64 s.toNat, .slice pk k ck] 24 ∧ Lies U b7 ov 75) := Lib.hid fun U hU => ⟨hLk7.below hU hLk7.lt, hL7.below hU hL7.lt⟩
          have how7 := ownsRow_below howk hba
          have H7 := Lib.hid (And.intro hba (And.intro how7 hb7s))
          clear hL7 hba hLk howk hLk7 how7 hb7 hb7s
          obtain ⟨pv, hpv⟩ : ∃ v, v = B8 t.nm.1 := ⟨_, rfl⟩
          obtain ⟨tv, htv⟩ : ∃ v, v = txt t.nm.2 := ⟨_, rfl⟩
          obtain ⟨av, hav⟩ : ∃ v, v = asC ⟨t.nm, t.w.toNat⟩ := ⟨_, rfl⟩
          have hbuilt : ∀ W, (Instr.build 38 #[(0, .agg pv), (1, .string tv), (2, .int .i64 t.w.toNat)]).run Tryz.prog W = .ok (.agg av) W := fun W => by
            rw [hpv, htv, hav]
            exact run_build W 38 _ _ (built_asset ⟨t.nm, t.w.toNat⟩ HJ.out.2.2.2.1.1)
          have hread : ∀ U, Lies U b7 ov 75 → U.rangeAt b7 0 pv.toList ∧ U.cell? ⟨b7, 32, none⟩ = some (.string tv) ∧ U.rangeAt b7 33 (#[Value.int .i64 (hiS t.w), .int .u64 (loN t.w)] : Array Value).toList := fun U hU => by
            rw [HI.out.2.2.2] at hU
            rw [hpv, htv]
            refine ⟨pol_range fun j hj => ?_, hU.cell 32 (toC_txt t HJ.out.2.2.2.1.1), fun j v hv => ?_⟩
            · rw [Nat.zero_add]
              exact hU.cell j (toC_get t HJ.out.2.2.2.1.1 j (by rw [← HJ.out.2.2.2.1.1]; exact hj))
            · have hj : j = 0 ∨ j = 1 := by have := (List.getElem?_eq_some_iff.1 hv).1; simp at this; omega
              rcases hj with rfl | rfl
              · simp at hv; subst hv; exact hU.cell 33 (toC_hi t HJ.out.2.2.2.1.1)
              · simp at hv; subst hv; exact hU.cell 34 (toC_lo t HJ.out.2.2.2.1.1)
          have hps : (Tryz.prog.info? 26).map (·.size) = some pv.size := by rw [hpv, B8_size, HJ.out.2.2.2.1.1]; exact info_hash
          have has : av.size = 34 := by rw [hav]; exact asC_size _ HJ.out.2.2.2.1.1
          have hsl : ∀ W : World, (Instr.buildSlice 22 1 #[(0, .agg av)]).run Tryz.prog W = .ok (.slice (some ⟨W.heap.size, 0, none⟩) 1 1) (W.alloc (.cells av 38)) := fun W => run_slice1 W 22 38 34 56 av Tryz.underlying22 info54 (by decide) (by decide) has
          have HQ := Lib.hid (And.intro hbuilt (And.intro hread (And.intro hps (And.intro has (And.intro hsl hav)))))
          clear hbuilt hread hps has hsl hav hpv htv
          refine wp_region_orPanic (fun c U => (∃ n, c = [{ v := .iface 139 (.int .i64 n), recovered := false }]) ∧ TogNo s f ∧ Below w.heap.size w U) (fun c a U h1 h2 => ⟨h1, .inr ⟨by obtain ⟨n, rfl⟩ := h2.1; exact Fault.panic n, h2.2.1⟩, h2.2.2⟩) ?_
          refine wp_region_late (fun j => j == 13) (fun U => Lies U b5 #[.int .i64 s.toNat, .slice pk k ck] 24 ∧ Lies U b7 ov 75) (by kernel_rfl) ?_
          change wpLate _ _ _ _ _ _ 14 _ _ (World.drew W7)
          have hbd : Below W7.heap.size W7 W7.drew := (Below.refl _ _).drew
          generalize World.drew W7 = wd at hbd ⊢
          have hcur := HS.out _ hbd
          refine late_take (i := 0) (v := (.pointer (some ⟨b5, 1, none⟩))) rfl 26 rfl (by kernel_rfl) (by kernel_rfl) (by kernel_rfl) (by kernel_rfl) (fun _ _ _ h => h) (by rfl) (by intro w' hS'; unfold execOp; simp [go_sem]) hcur _ rfl ?_
          simp only [Act.put, List.setIfInBounds_toArray, List.set_cons_zero, List.set_cons_succ]
          refine late_take (i := 1) (v := (.slice pk k ck)) rfl 27 rfl (by kernel_rfl) (by kernel_rfl) (by kernel_rfl) (by kernel_rfl) (fun _ _ _ h => h) (by rfl) (by intro w' hS'; have hq := hS'.1.cell 1 (v := .slice pk k ck) rfl; unfold execOp; simp [go_sem, hq]) hcur _ rfl ?_
          simp only [Act.put, List.setIfInBounds_toArray, List.set_cons_zero, List.set_cons_succ]
          refine late_take (i := 2) (v := (.pointer (some ⟨b7, 0, none⟩))) rfl 28 rfl (by kernel_rfl) (by kernel_rfl) (by kernel_rfl) (by kernel_rfl) (fun _ _ _ h => h) (by rfl) (by intro w' hS'; unfold execOp; simp [go_sem]) hcur _ rfl ?_
          simp only [Act.put, List.setIfInBounds_toArray, List.set_cons_zero, List.set_cons_succ]
          refine late_take (i := 3) (v := (.agg pv)) rfl 29 rfl (by kernel_rfl) (by kernel_rfl) (by kernel_rfl) (by kernel_rfl) (fun _ _ _ h => h) (by rfl) (by intro w' hS'; exact exec_loadM 26 _ rfl _ _ rfl pv (HQ.out.2.1 _ hS'.2).1 Tryz.underlying26 rfl HQ.out.2.2.1) hcur _ rfl ?_
          simp only [Act.put, List.setIfInBounds_toArray, List.set_cons_zero, List.set_cons_succ]
          refine late_take (i := 4) (v := (.pointer (some ⟨b7, 32, none⟩))) rfl 30 rfl (by kernel_rfl) (by kernel_rfl) (by kernel_rfl) (by kernel_rfl) (fun _ _ _ h => h) (by rfl) (by intro w' hS'; unfold execOp; simp [go_sem]) hcur _ rfl ?_
          simp only [Act.put, List.setIfInBounds_toArray, List.set_cons_zero, List.set_cons_succ]
          refine late_take (i := 5) (v := (.string tv)) rfl 31 rfl (by kernel_rfl) (by kernel_rfl) (by kernel_rfl) (by kernel_rfl) (fun _ _ _ h => h) (by rfl) (by intro w' hS'; have hq := (HQ.out.2.1 _ hS'.2).2.1; unfold execOp; simp [go_sem, hq]) hcur _ rfl ?_
          simp only [Act.put, List.setIfInBounds_toArray, List.set_cons_zero, List.set_cons_succ]
          refine late_take (i := 6) (v := (.pointer (some ⟨b7, 33, none⟩))) rfl 32 rfl (by kernel_rfl) (by kernel_rfl) (by kernel_rfl) (by kernel_rfl) (fun _ _ _ h => h) (by rfl) (by intro w' hS'; unfold execOp; simp [go_sem]) hcur _ rfl ?_
          simp only [Act.put, List.setIfInBounds_toArray, List.set_cons_zero, List.set_cons_succ]
          refine late_take (i := 7) (v := (.agg #[.int .i64 (hiS t.w), .int .u64 (loN t.w)])) rfl 33 rfl (by kernel_rfl) (by kernel_rfl) (by kernel_rfl) (by kernel_rfl) (fun _ _ _ h => h) (by rfl) (by intro w' hS'; exact exec_loadM 48 _ rfl _ _ rfl #[.int .i64 (hiS t.w), .int .u64 (loN t.w)] (HQ.out.2.1 _ hS'.2).2.2 Tryz.underlying48 rfl info_wide) hcur _ rfl ?_
          simp only [Act.put, List.setIfInBounds_toArray, List.set_cons_zero, List.set_cons_succ]
          have hamt : Calls Tryz.prog 86 #[.agg #[.int .i64 (hiS t.w), .int .u64 (loN t.w)]] wd fun e w' => (∃ v, e = .returned v ∧ (fitsW t.w = true ∧ v = .int .i64 t.w.toNat ∧ Below wd.heap.size wd w')) ∨ (∃ c, e = .panicked c ∧ (fitsW t.w = false ∧ (∃ n, c = [{ v := .iface 139 (.int .i64 n), recovered := false }]) ∧ Below wd.heap.size wd w')) :=
            (amounts_any wd t.w).mono fun e w' hh => by
              rcases hh with ⟨⟨h1, h2⟩ | ⟨h1, n, h2⟩, h3⟩
              · exact .inl ⟨_, h2, h1, rfl, h3⟩
              · exact .inr ⟨_, h2, h1, ⟨n, rfl⟩, h3⟩
          refine late_one (i := 8) (by kernel_rfl) _ rfl (wpOp_callP rfl (by rfl) 34 rfl 86 #[.agg #[.int .i64 (hiS t.w), .int .u64 (loN t.w)]] (by unfold execOp; simp [go_sem]) _ _ hamt ?_ ?_)
          rotate_left
          · rintro c8 w8 ⟨hx, ⟨n, rfl⟩, hb8⟩
            have hb := HJ.out.1.below.trans ((H7.out.1.trans ((hbd.trans (hb8.mono hbd.size)).mono H7.out.1.size)).mono HJ.out.1.below.size)
            refine ⟨rfl, ⟨n, rfl⟩, fun c l hk => ?_, hb⟩
            obtain ⟨_, _, tl, h1, _, h3, _⟩ := hk
            have h4 := h3 t (by rw [ctT_inj (h1.eq H2.out.2.2.2.1)]; exact List.mem_of_getElem? HJ.out.2.2.1)
            rw [hx] at h4
            cases h4
          rintro v8 w8 ⟨hx, rfl, hb8⟩
          have hc8 := hbd.trans (hb8.mono hbd.size)
          have hcur := HS.out _ hc8
          refine ⟨fun _ => hcur, ?_⟩
          simp only [Act.put, List.setIfInBounds_toArray, List.set_cons_zero, List.set_cons_succ]
          have hbq := HQ.out.1 w8
          refine late_one (i := 9) (by kernel_rfl) _ rfl (wpOp_valG (v := .agg av) (w' := w8) rfl (by rfl) 35 rfl (by unfold execOp; simp [go_sem, hbq]) ?_)
          refine ⟨fun _ => hcur, ?_⟩
          simp only [Act.put, List.setIfInBounds_toArray, List.set_cons_zero, List.set_cons_succ]
          have hsq := HQ.out.2.2.2.2.1 w8
          refine late_one (i := 10) (by kernel_rfl) _ rfl (wpOp_valG (v := .slice (some ⟨w8.heap.size, 0, none⟩) 1 1) (w' := w8.alloc (.cells av 38)) rfl (by rfl) 36 rfl (by unfold execOp; simp [go_sem, hsq]) ?_)
          have hb10 : Below w8.heap.size w8 (w8.alloc (.cells av 38)) := (Below.refl _ _).alloc (Nat.le_refl _) _
          have hL10 : Lies (w8.alloc (.cells av 38)) w8.heap.size av 38 := Lies.new _ _ _
          clear hbq hsq
          obtain ⟨g10, hg10⟩ : ∃ g, g = w8.heap.size := ⟨_, rfl⟩
          generalize w8.alloc (.cells av 38) = w10 at hb10 hL10 ⊢
          rw [← hg10] at hL10 hb10 ⊢
          have hc10 : Below W7.heap.size W7 w10 := hc8.trans (hb10.mono (by rw [hg10]; exact hc8.size))
          have hcur := HS.out _ hc10
          refine ⟨fun _ => hcur, ?_⟩
          simp only [Act.put, List.setIfInBounds_toArray, List.set_cons_zero, List.set_cons_succ]
          have how10 : OwnAs w10 (b5 + 1) (.slice pk k ck) (asT (lt.take k)) := ownsRow_below H7.out.2.1 hc10
          have hlk : (asT (lt.take k)).length = k := by unfold asT; rw [List.length_map, List.length_take]; have := HJ.out.2.1; omega
          have hown10 : w10.ownsRow (b5 + 1) 38 34 (.slice pk k ck) k (cellsF asC (asT (lt.take k))) := by
            have h1 := how10
            unfold OwnAs at h1
            rw [hlk] at h1
            exact h1
          have hk30 : k + 1 ≤ 1000000 := by have := HJ.out.2.1; omega
          refine late_one (i := 11) (by kernel_rfl) _ rfl (wpOp_append rfl rfl 37 rfl _ _ 22 rfl (b5 + 1) 38 34 56 Tryz.underlying22 info54 (by decide) (.slice pk k ck) k (cellsF asC (asT (lt.take k))) rfl hown10 ⟨g10, 0, none⟩ 1 1 (cellsF asC [⟨t.nm, t.w.toNat⟩]) rfl (cellsF_len asC 34 [⟨t.nm, t.w.toNat⟩] (fun a ha => by rw [List.mem_singleton] at ha; subst ha; exact asC_size _ HJ.out.2.2.2.1.1)) (src_one asC (by rw [← HQ.out.2.2.2.2.2]; exact hL10)) (cellsF_one asC _ fun a _ => asC_one a) (by decide) (Nat.le_trans hk30 (by decide)) (by omega) (by have := H7.out.2.2; have := hcur.2.lt; omega) ?_)
          intro g11 cap11 w11 hown11 hgr11 hat11 hlt11
          have hS11 : Lies w11 b5 #[.int .i64 s.toNat, .slice pk k ck] 24 ∧ Lies w11 b7 ov 75 := ⟨lies_grown hgr11 hcur.1 (ownsRow_far how10 hcur.1 (by decide)), lies_grown hgr11 hcur.2 (ownsRow_far how10 hcur.2 (by decide))⟩
          refine ⟨fun _ => hS11, ?_⟩
          simp only [Act.put, List.setIfInBounds_toArray, List.set_cons_zero, List.set_cons_succ]
          refine late_one (i := 12) (by kernel_rfl) _ rfl (wpOp_valG (v := .pointer (some ⟨b5, 1, none⟩)) (w' := w11) rfl (by rfl) 38 rfl (by unfold execOp; simp [go_sem]) ?_)
          refine ⟨fun _ => hS11, ?_⟩
          simp only [Act.put, List.setIfInBounds_toArray, List.set_cons_zero, List.set_cons_succ]
          have hq11 := hS11.1.cell 1 (v := .slice pk k ck) rfl
          have hf11 := hS11.1.free 1
          refine late_one (i := 13) (by kernel_rfl) _ rfl (wpOp_skipG (w' := w11.setCell ⟨b5, 1, none⟩ (.slice (some ⟨g11, 0, none⟩) (k + 1) cap11)) rfl (by rfl) rfl (by unfold execOp; simp [go_sem, hq11, hf11]) ?_)
          refine ⟨fun h => absurd h (by decide), ?_⟩
          have hblk : ∀ j, (Value.slice pk k ck).ownBlock = some j → b5 + 1 ≤ j := fun j hj => (how10.lt j hj).1
          have hb710 : Below wr.heap.size wr w10 := H7.out.1.trans (hc10.mono H7.out.1.size)
          have hg13 := grown_setCell w11 ⟨b5, 1, none⟩ (.slice (some ⟨g11, 0, none⟩) (k + 1) cap11)
          have hsz : b5 + 1 ≤ w10.heap.size := by have := H7.out.2.2; have := hcur.2.lt; omega
          have hon13 : OnTog w (w11.setCell ⟨b5, 1, none⟩ (.slice (some ⟨g11, 0, none⟩) (k + 1) cap11)) (b5 + 1) b5 s.toNat lt (k + 1) (some ⟨g, off, none⟩) := by
            have hB := HJ.out.1
            have h10 : Below w.heap.size w w10 := hB.below.trans (hb710.mono hB.below.size)
            have hr10 : Lies w10 w.heap.size #[.int .i64 0, .slice none 0 0] 24 := hB.res.below hb710 hB.res.lt
            have ht10 : RowT w10 (some ⟨g, off, none⟩) lt := hB.tot.below hb710 (Nat.le_refl _)
            have hf := hB.first
            refine ⟨below_setCell (h10.grown hgr11 h10.size (fun j hj => by have := hblk j hj; omega)) _ _ (by show w.heap.size ≤ b5; omega), (lies_grown hgr11 hr10 (ownsRow_far how10 hr10 (by decide))).other _ _ (by show w.heap.size ≠ b5; omega), (ht10.but hgr11 (fun g' off' e h0 e2 => ?_)).but hg13 (fun g' off' e h0 e2 => ?_), ⟨some ⟨g11, 0, none⟩, cap11, hS11.1.set 1 _, ?_⟩, Nat.le_trans hsz (Nat.le_trans hgr11.size hg13.size), hB.far, hf, hB.blk⟩
            · have h1 := hblk g' e2.symm
              have h2 := hB.blk g' off' e h0
              omega
            · have h1 : g' = b5 := Option.some.inj e2
              have h2 := hB.blk g' off' e h0
              omega
            · have htk : asT (lt.take (k + 1)) = asT (lt.take k) ++ [⟨t.nm, t.w.toNat⟩] := by
                rw [List.take_add_one, HJ.out.2.2.1]
                simp [asT]
              have h1 : OwnAs w11 (b5 + 1) (.slice (some ⟨g11, 0, none⟩) (k + 1) cap11) (asT (lt.take (k + 1))) := by
                unfold OwnAs
                rw [htk, cellsF_app, List.length_append, hlk]
                exact hown11
              refine World.ownsRow.kept h1 hg13 (.inr fun e2 => ?_)
              have h3 : g11 = b5 := Option.some.inj e2
              have h4 := (h1.lt g11 rfl).1
              omega
          have hall13 : ∀ u, u ∈ lt.take (k + 1) → fitsW u.w = true := fun u hu => by
            rw [List.take_add_one, HJ.out.2.2.1] at hu
            rcases List.mem_append.1 hu with hu | hu
            · exact HJ.out.2.2.2.2 u hu
            · have : u = t := by simpa using hu
              rw [this]; exact hx
          generalize w11.setCell ⟨b5, 1, none⟩ (.slice (some ⟨g11, 0, none⟩) (k + 1) cap11) = w13 at hon13 ⊢
          have HE := Lib.hid (And.intro hon13 (And.intro hall13 HJ.out.2.1))
          clear hon13 hall13 hsz hg13 hb710 hblk hq11 hf11 hS11 hown11 hgr11 hat11 hlt11 hown10 how10 hlk hk30 hcur hc10 hb10 hL10 hc8 hb8 hx hbd hamt
          refine late_done (by kernel_rfl) ?_ _
          unfold OrPanic
          dsimp only
          go_wp2_with fail
          have e1 : (k : Int) + 1 = ((k + 1 : Nat) : Int) := by omega
          rw [e1]
          refine ⟨⟨k + 1, HE.out.2.2, rfl, HE.out.1, HE.out.2.1⟩, ?_⟩
          have h := HE.out.2.2
          show lt.length - (k + 1) < lt.length - k
          omega
        · have n1 : ¬ (k : Int) < (lt.length : Int) := by omega
          have hkl : k = lt.length := by omega
          subst hkl
          rw [List.take_length] at hall
          obtain ⟨pk, ck, hLk, howk⟩ := hon.all
          rw [List.take_length] at howk
          have c0 := hLk.cell 0 (v := .int .i64 s.toNat) rfl
          have c1 := hLk.cell 1 (v := .slice pk lt.length ck) rfl
          have q0 := hon.res.cell 0 (v := .int .i64 0) rfl
          have q1 := hon.res.cell 1 (v := .slice none 0 0) rfl
          have f0 := hon.res.free 0
          have f1 := hon.res.free 1
          have hok : ∀ a, a ∈ asT lt → AsOk a := fun a ha => by
            obtain ⟨t, ht, rfl⟩ := List.mem_map.1 ha
            have h1 := hon.tot.2.1 t ht
            have h2 := fits_nat (hall t ht)
            refine ⟨h1.1, h1.2, ?_, ?_⟩
            · show (-9223372036854775808 : Int) ≤ (t.w.toNat : Int)
              omega
            · show (t.w.toNat : Int) < 9223372036854775808
              omega
          have hlt : (asT lt).length = lt.length := by unfold asT; rw [List.length_map]
          have hfirst := hon.first
          have hrow2 : Row ((wr.setCell ⟨w.heap.size, 0, none⟩ (.int .i64 s.toNat)).setCell ⟨w.heap.size, 1, none⟩ (.slice pk lt.length ck)) pk (asT lt) := ⟨by rw [hlt]; exact hon.tot.1, hok, fun h0 => by
            have h1 := howk
            unfold OwnAs at h1
            rcases own_at asC 34 (fun a ha => asC_size a (hok a ha).1) h1 with ⟨_, h2⟩ | ⟨g, cap, h1, h2, h3, h4, h5, h6⟩
            · rw [h2] at h0; simp at h0
            · simp only [Value.slice.injEq] at h1
              refine ⟨g, 0, h1.1, by rw [size_set, size_set]; exact h3, fun i a hi j v hv => ?_⟩
              exact (World.cell?_of_block ((heap_setCell_other _ _ g _ (by show g ≠ w.heap.size; omega)).trans (heap_setCell_other _ _ g _ (by show g ≠ w.heap.size; omega)))).trans (h5 i a hi j v hv)⟩
          have hbR : Below w.heap.size w ((wr.setCell ⟨w.heap.size, 0, none⟩ (.int .i64 s.toNat)).setCell ⟨w.heap.size, 1, none⟩ (.slice pk lt.length ck)) := below_setCell (below_setCell hon.below _ _ (by simp)) _ _ (by simp)
          have hLR : Lies ((wr.setCell ⟨w.heap.size, 0, none⟩ (.int .i64 s.toNat)).setCell ⟨w.heap.size, 1, none⟩ (.slice pk lt.length ck)) w.heap.size #[.int .i64 s.toNat, .slice pk lt.length ck] 24 := (hon.res.set 0 _).set 1 _
          have hok2 : TogOk s f s.toNat (asT lt) := ⟨HC.out.2, rfl, lt, H2.out.2.2.2.1, hlen, hall, rfl⟩
          have hmine : Mine w.heap.size ((wr.setCell ⟨w.heap.size, 0, none⟩ (.int .i64 s.toNat)).setCell ⟨w.heap.size, 1, none⟩ (.slice pk lt.length ck)) pk (asT lt) ck := by
            refine Mine.mono (B := b5 + 1) ⟨hrow2, ?_⟩ (by omega)
            rw [hlt]
            have hne : (Value.slice pk lt.length ck).ownBlock ≠ some w.heap.size := fun e => by have := (howk.lt _ e).1; omega
            exact (howk.kept (grown_setCell wr _ _) (.inr hne)).kept (grown_setCell _ _ _) (.inr hne)
          have HE := Lib.hid (And.intro hmine (And.intro hbR (And.intro hLR (And.intro hok2 hlt))))
          clear hmine hrow2 hbR hLR hok2 hlt hok hfirst hLk howk hon hall hk H5
          go_wp2_with fail
          refine bodyPost_ret (v := .agg #[.int .i64 s.toNat, .slice pk lt.length ck]) (results_cell_row (p := 2) (ty := 24) (by kernel_rfl) _ _ w.heap.size 24 #[.int .i64 s.toNat, .slice pk lt.length ck] (0, 0) _ rfl HE.out.2.2.1 Tryz.underlying24 rfl info_value) rfl ⟨.inl ⟨s.toNat, asT lt, pk, ck, by rw [HE.out.2.2.2.2]; rfl, HE.out.1, HE.out.2.2.2.1⟩, HE.out.2.1⟩
  · have m1 : ¬ (lt.length : Int) ≤ 30 := by omega
    go_wp2_with fail
    exact ⟨rfl, .inr ⟨Fault.panic _, fun c l hk => by
      obtain ⟨_, _, tl, h1, h2, _, _⟩ := hk
      rw [ctT_inj (h1.eq H2.out.2.2.2.1)] at h2
      exact hlen h2⟩, H2.out.1.trans (H3.out.mono H2.out.1.size)⟩
end Go.Proofs.YtjngghihciimjaaGreat
