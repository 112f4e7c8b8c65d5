/-
  slices.Clone of assets; a bundle with all signs turned.
-/
import Derived.Test.YtjngghihciimjaaGreatJVe
import Derived.Test.YtjngghihciimjaaGreatJVj
import Derived.WalkSpells
import Derived.Laws.Cover3
namespace Go.Proofs.YtjngghihciimjaaGreat
set_option maxRecDepth 100000
section
variable {P : Program} {md : Region.Mode} {ops : Array Oper} {Q : Exit → Act → World → Prop} {late : Nat → Bool} {S : World → Prop}
def wpLate (P : Program) (md : Region.Mode) (ops : Array Oper) (Q : Exit → Act → World → Prop) (late : Nat → Bool) (S : World → Prop) : Nat → Array Bool → Act → World → Prop
  | 0, listed, a, w => Region.ready md ops listed = [] ∧ Q .normal a w
  | n + 1, listed, a, w =>
    (Region.ready md ops listed = [] → Q .normal a w) ∧
    ∀ j ∈ Region.ready md ops listed, wpOp P ops Q j (fun a' w' => (late j = false → S w') ∧ wpLate P md ops Q late S n (listed.setIfInBounds j true) a' w') a w
theorem wpLate.any : ∀ (n : Nat) (listed : Array Bool) (a : Act) (w : World), wpLate P md ops Q late S n listed a w → wpAny P md ops Q n listed a w
 | 0, _, _, _, h => h
 | n + 1, _, _, _, h => ⟨h.1, fun j hj => wpOp_mono (fun a' w' h' => wpLate.any n _ a' w' h'.2) (h.2 j hj)⟩
theorem late_first {i : Nat} {oi : Oper} {v : Value} (hi : ops[i]? = some oi) (hsel : ∀ (j : Nat) (o : Oper) cs b, ops[j]? = some o → o.op ≠ .select cs b)
    (hQ : ∀ c a w, Q (.panic c) (a.put oi.dst v) w → Q (.panic c) a w) (hlate : ∀ j oj, ops[j]? = some oj → late j = true → ∃ e, e ∈ oj.after ∧ Region.binds md e = true ∧ e.on = i) (n : Nat) :
    ∀ (listed : Array Bool) (a : Act) (w : World),
      (∀ j oj, ops[j]? = some oj → j ≠ i → listed.getD j true = false → (∀ e ∈ oj.after, Region.binds md e = true → e.on ≠ i) → oi.apart ops oj = true) →
      i ∈ Region.ready md ops listed → YieldsIf P ops S oi v a → S w → wpLate P md ops Q late S n (listed.setIfInBounds i true) (a.put oi.dst v) w → wpLate P md ops Q late S (n + 1) listed a w := by
  induction n with
  | zero =>
    intro listed a w _ hr hy hS H
    refine ⟨fun e => (by rw [e] at hr; cases hr), fun j hj => ?_⟩
    by_cases e : j = i
    · subst e
      exact hy.wpOp hi hS ⟨fun _ => hS, H⟩
    · have hm := ready_mono hj e
      rw [H.1] at hm
      cases hm
  | succ n ih =>
    intro listed a w hap hr hy hS H
    refine ⟨fun e => (by rw [e] at hr; cases hr), fun j hj => ?_⟩
    by_cases e : j = i
    · subst e
      exact hy.wpOp hi hS ⟨fun _ => hS, H⟩
    · obtain ⟨hu, oj, hoj, hall⟩ := mem_ready.1 hj
      have hfree : ∀ x ∈ oj.after, Region.binds md x = true → x.on ≠ i := fun x hx hb he => by
        have q1 := hall x hx hb
        have q0 := (mem_ready.1 hr).1
        rw [he] at q1
        rcases Nat.lt_or_ge i listed.size with hs | hs
        · simp [hs] at q0 q1
          rw [q0] at q1
          cases q1
        · simp [Array.getElem?_eq_none hs] at q1
      have hl : late j = false := by
        cases hlj : late j with
        | false => rfl
        | true =>
          obtain ⟨x, hx, hb, he⟩ := hlate j oj hoj hlj
          exact absurd he (hfree x hx hb)
      have q2 := wpOp_putIf hoj (hap j oj hoj e hu hfree) (fun cs b => hsel i oi cs b hi) (fun cs b => hsel j oj cs b hoj) hQ hy (H.2 j (ready_mono hj e))
      refine wpOp_mono (fun a' w' q3 => ⟨q3.2.1, ih (listed.setIfInBounds j true) a' w' (fun k ok hk hki hun hno => hap k ok hk hki ?_ hno) (ready_mono hr (Ne.symm e)) q3.1 (q3.2.1 hl) ?_⟩) q2
      · by_cases ejk : j = k
        · subst ejk
          exact hu
        · rw [getD_set_ne true ejk] at hun
          exact hun
      · rw [Array.setIfInBounds_comm _ _ e]
        exact q3.2.2
def waitsB (md : Region.Mode) (ops : Array Oper) (late : Nat → Bool) (i : Nat) : Bool := (List.range ops.size).all fun j => !late j || (match ops[j]? with | some o => o.after.any fun e => Region.binds md e && e.on == i | none => true)
theorem waits_of {i : Nat} (h : waitsB md ops late i = true) : ∀ j oj, ops[j]? = some oj → late j = true → ∃ e, e ∈ oj.after ∧ Region.binds md e = true ∧ e.on = i := fun j oj hj hl => by
 unfold waitsB at h
 rw [List.all_eq_true] at h
 have h2 := h j (List.mem_range.2 (Array.getElem?_eq_some_iff.1 hj).1)
 rw [hl, hj] at h2
 simp only [Bool.not_true, Bool.false_or, Array.any_eq_true'] at h2
 obtain ⟨e, he, h3⟩ := h2
 rw [Bool.and_eq_true, beq_iff_eq] at h3
 exact ⟨e, he, h3⟩
theorem late_take {i : Nat} {oi : Oper} {v : Value} {n : Nat} {listed : Array Bool} {a : Act} {w : World} (hi : ops[i]? = some oi) (d : Tmp) (hd : oi.dst = some d)
  (hs : Region.noSelect ops = true) (hf : Region.free md ops listed i = true) (hr : (Region.ready md ops listed).contains i = true) (hwt : waitsB md ops late i = true) (hQ : ∀ c a w, Q (.panic c) (a.put (some d) v) w → Q (.panic c) a w)
  (hw : Region.wanted oi (yielded ops a.tmps) = true) (hy : ∀ w, S w → (execOp a.eval oi).run P w = .ok (.value v) w) (hS : S w) (l2 : Array Bool) (hl : listed.setIfInBounds i true = l2)
  (h : wpLate P md ops Q late S n l2 (a.put (some d) v) w) : wpLate P md ops Q late S (n + 1) listed a w := by
 subst hl
 rw [← hd] at h hQ
 exact late_first hi (Region.noSelect_spec hs) hQ (waits_of hwt) n listed a w (Region.free_spec hi hf) (by simpa using hr) (.inl ⟨hw, hy⟩) hS h
theorem late_one {i : Nat} {n : Nat} {listed : Array Bool} {a : Act} {w : World} (hr : Region.ready md ops listed = [i]) (l2 : Array Bool) (hl : listed.setIfInBounds i true = l2)
  (h : wpOp P ops Q i (fun a' w' => (late i = false → S w') ∧ wpLate P md ops Q late S n l2 a' w') a w) : wpLate P md ops Q late S (n + 1) listed a w := by
 subst hl
 refine ⟨fun e => (by rw [hr] at e; cases e), fun j hj => ?_⟩
 rw [hr] at hj
 obtain rfl : j = i := by simpa using hj
 exact h
theorem late_done {listed : Array Bool} {a : Act} {w : World} (hr : Region.ready md ops listed = []) (h : Q .normal a w) : ∀ n, wpLate P md ops Q late S n listed a w
 | 0 => ⟨hr, h⟩
 | _ + 1 => ⟨fun _ => h, (by rw [hr]; simp)⟩
theorem wpOp_skipG {i : Nat} {o : Oper} {a : Act} {w w' : World} {K : Act → World → Prop} (hi : ops[i]? = some o) (hw : Region.wanted o (yielded ops a.tmps) = true) (hd : o.dst = none)
  (hr : (execOp a.eval o).run P w = .ok .skip w') (h : K a w') : wpOp P ops Q i K a w := by
 unfold wpOp
 rw [hi]
 show if Region.wanted o (yielded ops a.tmps) = true then _ else _
 rw [if_pos hw]
 refine .inl ?_
 unfold Oper.wp
 rw [hr]
 show K (a.put o.dst undef) w'
 rw [hd]
 exact h
def OrPanic (T : List PanicEntry → World → Prop) (Q : Exit → Act → World → Prop) : Exit → Act → World → Prop
 | .panic c, a, w => a.defers = [] ∧ T c w
 | e, a, w => Q e a w
theorem wp_region_orPanic {id : Nat} {b : Bool} {a : Act} {w : World} (T : List PanicEntry → World → Prop) (hT : ∀ c a w, a.defers = [] → T c w → Q (.panic c) a w) (h : (Code.region id ops b).wp P (OrPanic T Q) a w) : (Code.region id ops b).wp P Q a w :=
 Code.wp_mono (fun e a w h => by cases e <;> first | exact h | exact hT _ _ _ h.1 h.2) h
theorem wpOp_callP {i : Nat} {o : Oper} {a : Act} {w : World} {K : Act → World → Prop} (hi : ops[i]? = some o) (hw : Region.wanted o (yielded ops a.tmps) = true) (d : Tmp) (hd : o.dst = some d) (f : FuncId) (args : Array Value)
  (hr : (execOp a.eval o).run P w = .ok (.enter f args) w) (R : Value → World → Prop) (T : List PanicEntry → World → Prop) (hc : Calls P f args w fun e w' => (∃ v, e = .returned v ∧ R v w') ∨ (∃ c, e = .panicked c ∧ T c w')) (h : ∀ v w', R v w' → K (a.put (some d) v) w') (hp : ∀ c w', T c w' → Q (.panic c) a w') : wpOp P ops Q i K a w := by
 unfold wpOp
 rw [hi]
 show if Region.wanted o (yielded ops a.tmps) = true then _ else _
 rw [if_pos hw]
 refine .inl ?_
 unfold Oper.wp
 rw [hr, Oper.upon_enter]
 refine hc.mono fun e w' hh => ?_
 rcases hh with ⟨v, rfl, hR⟩ | ⟨c, rfl, hR⟩
 ·
  rw [hd]
  exact h v w' hR
 ·
  exact hp c w' hR
theorem wp_region_late {id : Nat} {a : Act} {w : World} (late : Nat → Bool) (S : World → Prop) (hm : P.follows .mixedOrders = true)
  (h : wpLate P .any ops Q late S ops.size (Array.replicate ops.size false) a { w with drawn := w.drawn + 1 }) : (Code.region id ops true).wp P Q a w :=
 wp_region_any hm (wpLate.any _ _ _ _ h)
end
end Go.Proofs.YtjngghihciimjaaGreat
namespace Go.Proofs.YtjngghihciimjaaGreat
set_option maxRecDepth 100000
open Go.RowKit Go.Sort Go.Maps
section
variable {α : Type} (enc : α → Array Value) (k : Nat)
theorem cellsF_src {w : World} {g off : Nat} {l : List α} (hk : 0 < k) (hs : ∀ a, a ∈ l → (enc a).size = k) (hh : ∀ (i : Nat) (a : α), l[i]? = some a → w.rangeAt g (off + i * k) (enc a).toList) : ∀ j u, (cellsF enc l)[j]? = some u → w.cell? ((⟨g, off, none⟩ : Addr).add j) = some u := fun j u hu => by
 have hl := (List.getElem?_eq_some_iff.1 hu).1
 rw [cellsF_len enc k l hs] at hl
 have hj : j / k < l.length := (Nat.div_lt_iff_lt_mul hk).2 hl
 have hm : j % k < k := Nat.mod_lt _ hk
 have e : j / k * k + j % k = j := by have := Nat.div_add_mod j k; rw [Nat.mul_comm] at this; exact this
 have ha := List.getElem?_eq_getElem hj
 rw [← e, cellsF_get enc k l hs (j / k) _ ha (j % k) hm] at hu
 have := hh (j / k) _ ha (j % k) u (by rw [Array.getElem?_toList]; exact hu)
 rw [Addr.add_lit]
 rw [Nat.add_assoc, e] at this
 exact this
end
theorem assets_nil (w : World) (a : Option Addr) (l c : Nat) : (binOp .eql 22 (.slice a l c) (.slice none 0 0)).run Tryz.prog w = .ok (.bool a.isNone) w := Lib.run_eql_slice_nil w _ _ a l c 0 0 Tryz.underlying22
set_option maxHeartbeats 1000000 in
theorem sclone_any (w : World) (a : Option Addr) (c : Nat) (l : List As) (h : Row w a l) (hl : l.length ≤ 1000000) :
    Calls Tryz.prog 87 #[.slice a l.length c] w fun e w' => (∃ v, e = .returned v ∧ OwnAs w' w.heap.size v l) ∧ Below w.heap.size w w' := by
  cases a with
  | none =>
    have hn : l = [] := by
      rcases Nat.eq_zero_or_pos l.length with h0 | h0
      · exact List.eq_nil_of_length_eq_zero h0
      · obtain ⟨g, off, h1, -⟩ := h.2.2 h0
        cases h1
    subst hn
    have hq := assets_nil w none 0 c
    clear h
    show Calls Tryz.prog 87 #[.slice none 0 c] w _
    go_enter Tryz.func87, Tryz.ntmps87
    go_wp2_with fail
    go_ret
    exact ⟨⟨_, rfl, World.ownsRow_nil _ _ _ _⟩, Below.refl _ _⟩
  | some ad =>
    have hok : ∀ a, a ∈ l → (asC a).size = 34 := fun a ha => asC_size a (h.2.1 a ha).1
    have he : (w.alloc (.cells #[] 38)).ownsRow w.heap.size 38 34 (.slice (some ⟨w.heap.size, 0, none⟩) 0 0) 0 [] := World.ownsRow_made w #[] 0 (Nat.le_refl _) (Nat.zero_le _) rfl
    have hb : Below w.heap.size w (w.alloc (.cells #[] 38)) := (Below.refl _ _).alloc (Nat.le_refl _) _
    have hs : ∀ j u, (cellsF asC l)[j]? = some u → (w.alloc (.cells #[] 38)).cell? (ad.add j) = some u := fun j u hu => by
      have h0 : 0 < l.length := by
        have := (List.getElem?_eq_some_iff.1 hu).1
        rw [cellsF_len asC 34 l hok] at this
        omega
      obtain ⟨g, off, h1, h2, h3⟩ := h.2.2 h0
      cases h1
      exact cellsF_src asC 34 (by decide) hok (h3.below hb h2) j u hu
    have hq := assets_nil w (some ad) l.length c
    obtain ⟨i0, z0, hi0, hz0, hz1, hz2, hz3⟩ := info_parts info54
    have hlen := cellsF_len asC 34 l hok
    have hone := cellsF_one asC l fun a _ => asC_one a
    have HE := Lib.hid he
    have HB := Lib.hid hb
    have HS := Lib.hid (And.intro hs (And.intro hlen (And.intro hone hl)))
    have HI := Lib.hid (And.intro hi0 (And.intro hz0 (And.intro hz1 (And.intro hz2 hz3))))
    clear he hb hs h hok hlen hone hi0 hz0 hz1 hz2 hz3 hl
    go_enter Tryz.func87, Tryz.ntmps87
    go_wp2_with (at_builtin; go_must (refine wpList_append_own_at _ rfl _ _ 22 rfl w.heap.size 38 i0 z0 34 56 Tryz.underlying22 HI.out.1 HI.out.2.1 HI.out.2.2.1 HI.out.2.2.2.1 HI.out.2.2.2.2 (by decide) _ 0 [] rfl HE.out ad l.length c (cellsF asC l) rfl HS.out.2.1 HS.out.1 HS.out.2.2.1 (by have := HS.out.2.2.2; unfold maxLen; omega) (by have := HS.out.2.2.2; omega) (by simp) ?_; intro v' w1 hown hgrow _ hat))
    go_ret
    refine ⟨⟨_, rfl, by unfold OwnAs; simpa using hown⟩, HB.out.grown hgrow (by simp) (fun k e => ?_)⟩
    have : w.heap.size = k := Option.some.inj e
    omega
theorem own_set {w : World} {B g n cap : Nat} {l : List As} {k : Nat} {a : As} (hok : ∀ a, a ∈ l → a.nm.1.length = 32) (h : OwnAs w B (.slice (some ⟨g, 0, none⟩) n cap) l) (hk : l[k]? = some a) (x : Int) :
  OwnAs (w.setCell ⟨g, k * 34 + 33, none⟩ (.int .i64 x)) B (.slice (some ⟨g, 0, none⟩) n cap) (l.set k ⟨a.nm, x⟩) := by
 have hs : ∀ a, a ∈ l → (asC a).size = 34 := fun a ha => asC_size a (hok a ha)
 have hkl : k < l.length := (List.getElem?_eq_some_iff.1 hk).1
 have hs' : ∀ b, b ∈ l.set k ⟨a.nm, x⟩ → (asC b).size = 34 := fun b hb => by
  rcases List.mem_or_eq_of_mem_set hb with hb | rfl
  ·
   exact hs b hb
  ·
   exact asC_size _ (hok a (List.mem_of_getElem? hk))
 have hcells : cellsF asC (l.set k ⟨a.nm, x⟩) = (cellsF asC l).set (k * 34 + 33) (.int .i64 x) := by
  apply List.ext_getElem?
  intro j
  have hl1 := cellsF_len asC 34 l hs
  have hl2 := cellsF_len asC 34 (l.set k ⟨a.nm, x⟩) hs'
  rw [List.length_set] at hl2
  by_cases hj : j < l.length * 34
  ·
   have hi : j / 34 < l.length := by omega
   have hm : j % 34 < 34 := Nat.mod_lt _ (by decide)
   have e : j / 34 * 34 + j % 34 = j := by omega
   have h1 := cellsF_get asC 34 l hs (j / 34) _ (List.getElem?_eq_getElem hi) (j % 34) hm
   have hi2 : j / 34 < (l.set k ⟨a.nm, x⟩).length := by rw [List.length_set]; exact hi
   have h2 := cellsF_get asC 34 (l.set k ⟨a.nm, x⟩) hs' (j / 34) _ (List.getElem?_eq_getElem hi2) (j % 34) hm
   rw [e] at h1 h2
   rw [h2, List.getElem?_set]
   by_cases hjk : k * 34 + 33 = j
   ·
    rw [if_pos hjk, if_pos (by rw [hl1]; omega)]
    have e1 : j / 34 = k := by omega
    have e2 : j % 34 = 33 := by omega
    rw [e2, List.getElem_set, if_pos e1.symm]
    exact asC_amt ⟨a.nm, x⟩ (hok a (List.mem_of_getElem? hk))
   ·
    rw [if_neg hjk, h1, List.getElem_set]
    by_cases e1 : k = j / 34
    ·
     rw [if_pos e1]
     have e2 : j % 34 < 33 := by omega
     have ea : l[j / 34] = a := by
      have h3 := hk
      rw [e1, List.getElem?_eq_getElem hi] at h3
      exact Option.some.inj h3
     rw [ea]
     have h32 := hok a (List.mem_of_getElem? hk)
     unfold asC
     by_cases e3 : j % 34 < 32
     ·
      rw [Array.getElem?_append_left (by rw [B8_size, h32]; exact e3), Array.getElem?_append_left (by rw [B8_size, h32]; exact e3)]
     ·
      have e4 : j % 34 = 32 := by omega
      rw [e4, Array.getElem?_append_right (by rw [B8_size, h32]; exact Nat.le_refl _), Array.getElem?_append_right (by rw [B8_size, h32]; exact Nat.le_refl _), B8_size, h32]
      rfl
    ·
     rw [if_neg e1]
  ·
   rw [List.getElem?_eq_none (by omega), List.getElem?_eq_none (by rw [List.length_set]; omega)]
 obtain ⟨hlen, hr⟩ := h
 rcases hr with ⟨h1, _⟩ | ⟨g', cap', cur, h1, h2, h3, h4, h5, h6, h7⟩
 ·
  cases h1
 ·
  cases h1
  unfold OwnAs
  rw [List.length_set, hcells]
  refine ⟨by rw [List.length_set]; exact hlen, .inr ⟨g, cap, cur.setIfInBounds (k * 34 + 33) (.int .i64 x), rfl, h2, Lies.set (cs := cur) h3 _ _, h4, h5, by rw [Array.size_setIfInBounds]; exact h6, ?_⟩⟩
  rw [Array.toList_setIfInBounds, List.take_set, h7]
theorem grown_setCell (w : World) (p : Addr) (v : Value) : w.grownBy (w.setCell p v) (some p.block) := ⟨rfl, rfl, rfl, by rw [size_set]; exact Nat.le_refl _, fun k _ hk => heap_setCell_other w p k v (fun e => hk (by rw [e]))⟩
theorem below_setCell {B : Nat} {a w : World} (h : Below B a w) (p : Addr) (v : Value) (hp : B ≤ p.block) : Below B a (w.setCell p v) := h.trans ⟨rfl, rfl, rfl, by rw [size_set]; exact Nat.le_refl _, fun k hk => heap_setCell_other w p k v (by omega)⟩
def turnA (a : As) : As := ⟨a.nm, -a.amt⟩
def turnL (l : List As) : List As := l.map turnA
theorem turn_step (l : List As) (k : Nat) (a : As) (h : (turnL (l.take k) ++ l.drop k)[k]? = some a) (hk : k < l.length) : (turnL (l.take k) ++ l.drop k).set k ⟨a.nm, -a.amt⟩ = turnL (l.take (k + 1)) ++ l.drop (k + 1) := by
 have hl : (turnL (l.take k)).length = k := by unfold turnL; rw [List.length_map, List.length_take]; omega
 rw [List.getElem?_append_right (by omega), hl, Nat.sub_self, List.getElem?_drop, Nat.add_zero, List.getElem?_eq_getElem hk] at h
 have ha : l[k] = a := Option.some.inj h
 rw [List.set_append_right _ _ (by omega), hl, Nat.sub_self, List.drop_eq_getElem_cons hk, List.set_cons_zero]
 unfold turnL
 rw [List.take_add_one, List.getElem?_eq_getElem hk, List.map_append, ha]
 simp [turnA]
def TurnRes (coin : Int) (l : List As) (e : Ending) (w' : World) : Prop := ∃ pa c, e = .returned (.agg (vC (-coin) pa l.length c)) ∧ Row w' pa (turnL l)
set_option maxHeartbeats 4000000 in
theorem turned_any (w : World) (coin : Int) (pa : Option Addr) (l : List As) (c : Nat) (h : Row w pa l) (hl : l.length ≤ 1000000) (h0 : -9223372036854775807 ≤ coin) (h1 : coin < 9223372036854775808) (hp : ∀ a, a ∈ l → -9223372036854775807 ≤ a.amt) :
    Calls Tryz.prog 53 #[.agg (vC coin pa l.length c)] w fun e w' => TurnRes coin l e w' ∧ Below w.heap.size w w' := by
  have hli : (l.length : Int) ≤ 9223372036854775807 := by omega
  have hneg : IntKind.i64.wrap (-coin) = -coin := by simp [IntKind.wrap, IntKind.bits, IntKind.signed]; omega
  have H := Lib.hid (And.intro h (And.intro hl (And.intro h0 (And.intro h1 hp))))
  clear h hl h0 h1 hp
  unfold vC
  go_enter Tryz.func53, Tryz.ntmps53
  go_upto_region 1 with fail
  have hL1 : Lies ((w.alloc (.cells #[.int .i64 coin, .slice pa l.length c] 24)).alloc (.cells #[.int .i64 0, .slice none 0 0] 24)) w.heap.size #[.int .i64 coin, .slice pa l.length c] 24 := (Lies.new _ _ _).alloc _
  have hL2 : Lies ((w.alloc (.cells #[.int .i64 coin, .slice pa l.length c] 24)).alloc (.cells #[.int .i64 0, .slice none 0 0] 24)) (w.heap.size + 1) #[.int .i64 0, .slice none 0 0] 24 := by
    have := Lies.new (w.alloc (.cells #[.int .i64 coin, .slice pa l.length c] 24)) #[.int .i64 0, .slice none 0 0] 24
    simpa using this
  have hb0 : Below w.heap.size w ((w.alloc (.cells #[.int .i64 coin, .slice pa l.length c] 24)).alloc (.cells #[.int .i64 0, .slice none 0 0] 24)) := ((Below.refl _ _).alloc (Nat.le_refl _) _).alloc (by simp) _
  generalize (w.alloc (.cells #[.int .i64 coin, .slice pa l.length c] 24)).alloc (.cells #[.int .i64 0, .slice none 0 0] 24) = W1 at hL1 hL2 hb0 ⊢
  have HS : Hid (∀ U, Below W1.heap.size W1 U → Lies U w.heap.size #[.int .i64 coin, .slice pa l.length c] 24) := Lib.hid fun U hU => hL1.below hU hL1.lt
  have H1 := Lib.hid (And.intro hL2 hb0)
  clear hL1 hL2 hb0
  refine wp_region_noPanic (wp_region_late (fun j => j == 7 || j == 8 || j == 9) (fun U => Lies U w.heap.size #[.int .i64 coin, .slice pa l.length c] 24) (by kernel_rfl) ?_)
  change wpLate _ _ _ _ _ _ 10 _ _ (World.drew W1)
  have hbd : Below W1.heap.size W1 W1.drew := (Below.refl _ _).drew
  generalize World.drew W1 = wd at hbd ⊢
  have hcur := HS.out _ hbd
  refine late_take (i := 0) (v := (.pointer (some ⟨w.heap.size, 0, none⟩))) rfl 4 rfl (by kernel_rfl) (by kernel_rfl) (by kernel_rfl) (by kernel_rfl) (fun _ _ _ h => h) (by rfl) (by intro w' hS'; unfold execOp; simp [go_sem]) hcur _ rfl ?_
  simp only [Act.put, List.setIfInBounds_toArray, List.set_cons_zero, List.set_cons_succ]
  refine late_take (i := 1) (v := (.int .i64 coin)) rfl 5 rfl (by kernel_rfl) (by kernel_rfl) (by kernel_rfl) (by kernel_rfl) (fun _ _ _ h => h) (by rfl) (by intro w' hS'; have hq := hS'.cell 0 (v := .int .i64 coin) rfl; unfold execOp; simp [go_sem, hq]) hcur _ rfl ?_
  simp only [Act.put, List.setIfInBounds_toArray, List.set_cons_zero, List.set_cons_succ]
  refine late_take (i := 2) (v := (.int .i64 (-coin))) rfl 6 rfl (by kernel_rfl) (by kernel_rfl) (by kernel_rfl) (by kernel_rfl) (fun _ _ _ h => h) (by rfl) (by intro w' hS'; unfold execOp; simp [go_sem, hneg]) hcur _ rfl ?_
  simp only [Act.put, List.setIfInBounds_toArray, List.set_cons_zero, List.set_cons_succ]
  refine late_take (i := 3) (v := (.pointer (some ⟨w.heap.size, 1, none⟩))) rfl 7 rfl (by kernel_rfl) (by kernel_rfl) (by kernel_rfl) (by kernel_rfl) (fun _ _ _ h => h) (by rfl) (by intro w' hS'; unfold execOp; simp [go_sem]) hcur _ rfl ?_
  simp only [Act.put, List.setIfInBounds_toArray, List.set_cons_zero, List.set_cons_succ]
  refine late_take (i := 4) (v := (.slice pa l.length c)) rfl 8 rfl (by kernel_rfl) (by kernel_rfl) (by kernel_rfl) (by kernel_rfl) (fun _ _ _ h => h) (by rfl) (by intro w' hS'; have hq := hS'.cell 1 (v := .slice pa l.length c) rfl; unfold execOp; simp [go_sem, hq]) hcur _ rfl ?_
  simp only [Act.put, List.setIfInBounds_toArray, List.set_cons_zero, List.set_cons_succ]
  refine late_take (i := 6) (v := (.pointer (some ⟨w.heap.size, 0, none⟩))) rfl 10 rfl (by kernel_rfl) (by kernel_rfl) (by kernel_rfl) (by kernel_rfl) (fun _ _ _ h => h) (by rfl) (by intro w' hS'; unfold execOp; simp [go_sem]) hcur _ rfl ?_
  simp only [Act.put, List.setIfInBounds_toArray, List.set_cons_zero, List.set_cons_succ]
  have hcl := sclone_any wd pa c l (H.out.1.below (H1.out.2.trans (hbd.mono H1.out.2.size)) (Nat.le_refl _)) H.out.2.1
  have hcl2 : Calls Tryz.prog 87 #[.slice pa l.length c] wd fun e w' => ∃ v, e = .returned v ∧ (OwnAs w' wd.heap.size v l ∧ Below wd.heap.size wd w') := hcl.mono fun e w' h => by
    obtain ⟨⟨v, h1, h2⟩, h3⟩ := h
    exact ⟨v, h1, h2, h3⟩
  refine late_one (i := 5) (by kernel_rfl) _ rfl (wpOp_callG rfl (by rfl) 9 rfl 87 #[.slice pa l.length c] (by unfold execOp; simp [go_sem]) _ hcl2 ?_)
  rintro v5 w5 ⟨hown5, hb5⟩
  have hc5 := hbd.trans (hb5.mono hbd.size)
  have hcur := HS.out _ hc5
  refine ⟨fun _ => hcur, ?_⟩
  simp only [Act.put, List.setIfInBounds_toArray, List.set_cons_zero, List.set_cons_succ]
  obtain ⟨p5, c5, rfl⟩ : ∃ p c, v5 = .slice p l.length c := by
    obtain ⟨p, c, h1, _⟩ := hown5.row (fun a ha => H.out.1.2.1 a ha) H.out.1.1
    exact ⟨p, c, h1⟩
  have hcA := hcur.cell 0 (v := .int .i64 coin) rfl
  have hfA := hcur.free 0
  refine late_one (i := 7) (by kernel_rfl) _ rfl (wpOp_skipG (w' := w5.setCell ⟨w.heap.size, 0, none⟩ (.int .i64 (-coin))) rfl (by rfl) rfl (by unfold execOp; simp [go_sem, hcA, hfA]) ?_)
  refine ⟨fun h => absurd h (by decide), ?_⟩
  have hL7 : Lies (w5.setCell ⟨w.heap.size, 0, none⟩ (.int .i64 (-coin))) w.heap.size #[.int .i64 (-coin), .slice pa l.length c] 24 := hcur.set 0 (.int .i64 (-coin))
  have hbw5 : Below w.heap.size w w5 := H1.out.2.trans (hc5.mono H1.out.2.size)
  have hlw : w.heap.size + 1 < wd.heap.size := Nat.lt_of_lt_of_le H1.out.1.lt hbd.size
  have hb7 : Below w.heap.size w (w5.setCell ⟨w.heap.size, 0, none⟩ (.int .i64 (-coin))) := below_setCell hbw5 _ _ (Nat.le_refl _)
  have hown7 : OwnAs (w5.setCell ⟨w.heap.size, 0, none⟩ (.int .i64 (-coin))) wd.heap.size (.slice p5 l.length c5) l := hown5.kept (grown_setCell w5 _ _) (by
    cases hv : (Value.slice p5 l.length c5).ownBlock with
    | none => exact .inl rfl
    | some k =>
      right
      intro e
      have h1 := (hown5.lt k hv).1
      have h2 : k = w.heap.size := Option.some.inj e
      omega)
  have hR7 : Lies (w5.setCell ⟨w.heap.size, 0, none⟩ (.int .i64 (-coin))) (w.heap.size + 1) #[.int .i64 0, .slice none 0 0] 24 := (H1.out.1.below hc5 H1.out.1.lt).other _ _ (by simp)
  generalize w5.setCell ⟨w.heap.size, 0, none⟩ (.int .i64 (-coin)) = w7 at hL7 hb7 hown7 hR7 ⊢
  have hcA := hL7.cell 1 (v := .slice pa l.length c) rfl
  have hfA := hL7.free 1
  refine late_one (i := 8) (by kernel_rfl) _ rfl (wpOp_valG (v := .pointer (some ⟨w.heap.size, 1, none⟩)) (w' := w7) rfl (by rfl) 11 rfl (by unfold execOp; simp [go_sem]) ?_)
  refine ⟨fun h => absurd h (by decide), ?_⟩
  simp only [Act.put, List.setIfInBounds_toArray, List.set_cons_zero, List.set_cons_succ]
  refine late_one (i := 9) (by kernel_rfl) _ rfl (wpOp_skipG (w' := w7.setCell ⟨w.heap.size, 1, none⟩ (.slice p5 l.length c5)) rfl (by rfl) rfl (by unfold execOp; simp [go_sem, hcA, hfA]) ?_)
  refine ⟨fun h => absurd h (by decide), ?_⟩
  have hL9 : Lies (w7.setCell ⟨w.heap.size, 1, none⟩ (.slice p5 l.length c5)) w.heap.size #[.int .i64 (-coin), .slice p5 l.length c5] 24 := hL7.set 1 (.slice p5 l.length c5)
  have hb9 : Below w.heap.size w (w7.setCell ⟨w.heap.size, 1, none⟩ (.slice p5 l.length c5)) := below_setCell hb7 _ _ (Nat.le_refl _)
  have hown9 : OwnAs (w7.setCell ⟨w.heap.size, 1, none⟩ (.slice p5 l.length c5)) wd.heap.size (.slice p5 l.length c5) l := hown7.kept (grown_setCell w7 _ _) (by
    cases hv : (Value.slice p5 l.length c5).ownBlock with
    | none => exact .inl rfl
    | some k =>
      right
      intro e
      have h1 := (hown7.lt k hv).1
      have h2 : k = w.heap.size := Option.some.inj e
      omega)
  have hR9 : Lies (w7.setCell ⟨w.heap.size, 1, none⟩ (.slice p5 l.length c5)) (w.heap.size + 1) #[.int .i64 0, .slice none 0 0] 24 := hR7.other _ _ (by simp)
  generalize w7.setCell ⟨w.heap.size, 1, none⟩ (.slice p5 l.length c5) = w9 at hL9 hb9 hown9 hR9 ⊢
  refine late_done (by kernel_rfl) ?_ _
  unfold NoPanic
  dsimp only
  have c1 := hL9.cell 1 (v := .slice p5 l.length c5) rfl
  generalize wd.heap.size = B at hown9 hlw
  have H9 := Lib.hid (And.intro hL9 (And.intro hb9 (And.intro hown9 (And.intro hR9 hlw))))
  clear hL9 hb9 hown9 hR9 hlw hcA hfA hL7 hb7 hown7 hR7 hbw5 hcur hc5 hb5 hown5 hbd hcl hcl2 HS
  go_upto_region 3 with fail
  go_loopw [15] (fun i W => ∃ k : Nat, k ≤ l.length ∧ i = .int .i64 k ∧ Lies W w.heap.size #[.int .i64 (-coin), .slice p5 l.length c5] 24 ∧ Below w.heap.size w W ∧ OwnAs W B (.slice p5 l.length c5) (turnL (l.take k) ++ l.drop k) ∧ Lies W (w.heap.size + 1) #[.int .i64 0, .slice none 0 0] 24) (fun i _ => l.length - (intOf i).toNat)
  case atStart => exact ⟨0, Nat.zero_le _, rfl, H9.out.1, H9.out.2.1, by simpa [turnL] using H9.out.2.2.1, H9.out.2.2.2.1⟩
  case round =>
    clear c1
    obtain ⟨k, hk, rfl, hLW, hbW, hoW, hRW⟩ := hrel
    have hB := H9.out.2.2.2.2
    have hnm : ∀ a, a ∈ turnL (l.take k) ++ l.drop k → a.nm.1.length = 32 := fun a ha => by
      rcases List.mem_append.1 ha with ha | ha
      · obtain ⟨b, hb, rfl⟩ := List.mem_map.1 ha
        exact (H.out.1.2.1 b (List.mem_of_mem_take hb)).1
      · exact (H.out.1.2.1 a (List.mem_of_mem_drop ha)).1
    by_cases hlt : k < l.length
    · have m1 : (k : Int) < (l.length : Int) := by omega
      have m0 : (0 : Int) ≤ (k : Int) := by omega
      have hlen : (turnL (l.take k) ++ l.drop k).length = l.length := by unfold turnL; rw [List.length_append, List.length_map, List.length_take, List.length_drop]; omega
      obtain ⟨a, ha⟩ : ∃ a, a = l[k] := ⟨_, rfl⟩
      have hka : (turnL (l.take k) ++ l.drop k)[k]? = some a := by
        have hl : (turnL (l.take k)).length = k := by unfold turnL; rw [List.length_map, List.length_take]; omega
        rw [List.getElem?_append_right (by omega), hl, Nat.sub_self, List.getElem?_drop, Nat.add_zero, List.getElem?_eq_getElem hlt, ha]
      have haok := H.out.1.2.1 a (by rw [ha]; exact List.getElem_mem hlt)
      have hap := H.out.2.2.2.2 a (by rw [ha]; exact List.getElem_mem hlt)
      have hoW' := hoW
      unfold OwnAs at hoW'
      rcases own_at asC 34 (fun a ha => asC_size a (hnm a ha)) hoW' with ⟨_, h2⟩ | ⟨g, cap, h1, h2, h3, h4, h5, h6⟩
      · rw [h2] at hlen; simp at hlen; omega
      simp only [Value.slice.injEq] at h1
      obtain ⟨rfl, hx5, rfl⟩ := h1
      clear hx5
      have cc := h5 k a hka 33 (.int .i64 a.amt) (by rw [Array.getElem?_toList]; exact asC_amt a haok.1)
      rw [Nat.zero_add] at cc
      have ff := h6 (k * 34 + 33)
      have c1 := hLW.cell 1 (v := .slice (some ⟨g, 0, none⟩) l.length c5) rfl
      obtain ⟨x, hx⟩ : ∃ x, x = a.amt := ⟨_, rfl⟩
      have hwrap : IntKind.i64.wrap (-a.amt) = -a.amt := by simp [IntKind.wrap, IntKind.bits, IntKind.signed]; have := haok.2.2.2; omega
      have hset := own_set hnm hoW hka (-a.amt)
      rw [turn_step l k a hka hlt] at hset
      have hLs : Lies (wr.setCell ⟨g, k * 34 + 33, none⟩ (.int .i64 (-a.amt))) w.heap.size #[.int .i64 (-coin), .slice (some ⟨g, 0, none⟩) l.length c5] 24 := hLW.other _ _ (by simp; omega)
      have hRs : Lies (wr.setCell ⟨g, k * 34 + 33, none⟩ (.int .i64 (-a.amt))) (w.heap.size + 1) #[.int .i64 0, .slice none 0 0] 24 := hRW.other _ _ (by simp; omega)
      have hbs : Below w.heap.size w (wr.setCell ⟨g, k * 34 + 33, none⟩ (.int .i64 (-a.amt))) := below_setCell hbW _ _ (by simp; omega)
      rw [← hx] at cc hwrap hLs hbs hset hRs
      have HE := Lib.hid (And.intro hlt (And.intro hLs (And.intro hbs (And.intro hset hRs))))
      clear hx hlt hLs hbs hset hRs hoW hoW' hLW hbW hRW hka haok hap hnm hlen ha h2 h3 h4 h5 h6 hB hk
      go_wp2_with fail
      have e1 : (k : Int) + 1 = ((k + 1 : Nat) : Int) := by omega
      rw [e1]
      refine ⟨⟨k + 1, HE.out.1, rfl, HE.out.2.1, HE.out.2.2.1, HE.out.2.2.2.1, HE.out.2.2.2.2⟩, ?_⟩
      have h := HE.out.1
      show l.length - (k + 1) < l.length - k
      omega
    · have m1 : ¬ (k : Int) < (l.length : Int) := by omega
      have hkl : k = l.length := by omega
      subst hkl
      rw [List.take_length, List.drop_length, List.append_nil] at hoW
      have c0 := hLW.cell 0 (v := .int .i64 (-coin)) rfl
      have c1 := hLW.cell 1 (v := .slice p5 l.length c5) rfl
      have hok : ∀ a, a ∈ turnL l → AsOk a := fun a ha => by
        obtain ⟨b, hb, rfl⟩ := List.mem_map.1 ha
        have h1 := H.out.1.2.1 b hb
        have h2 := H.out.2.2.2.2 b hb
        refine ⟨h1.1, h1.2.1, ?_, ?_⟩
        · show -9223372036854775808 ≤ -b.amt
          have := h1.2.2.2
          omega
        · show -b.amt < 9223372036854775808
          omega
      have hlt : (turnL l).length = l.length := by unfold turnL; rw [List.length_map]
      obtain ⟨pa', c', he, hrow⟩ := hoW.row hok (by rw [hlt]; exact H.out.1.1)
      rw [hlt] at he
      simp only [Value.slice.injEq] at he
      obtain ⟨rfl, -, rfl⟩ := he
      have hrow2 : Row ((wr.setCell ⟨w.heap.size + 1, 0, none⟩ (.int .i64 (-coin))).setCell ⟨w.heap.size + 1, 1, none⟩ (.slice p5 l.length c5)) p5 (turnL l) := ⟨hrow.1, hrow.2.1, fun h0 => by
        have hoW' := hoW
        unfold OwnAs at hoW'
        rcases own_at asC 34 (fun a ha => asC_size a (hok a ha).1) hoW' with ⟨_, h2⟩ | ⟨g, cap, h1, h2, h3, h4, h5, h6⟩
        · rw [h2] at h0; simp at h0
        · simp only [Value.slice.injEq] at h1
          have hB := H9.out.2.2.2.2
          refine ⟨g, 0, h1.1, by rw [size_set, size_set]; exact h3, fun i a hi j v hv => ?_⟩
          exact (World.cell?_of_block ((heap_setCell_other _ _ g _ (by show g ≠ w.heap.size + 1; omega)).trans (heap_setCell_other _ _ g _ (by show g ≠ w.heap.size + 1; omega)))).trans (h5 i a hi j v hv)⟩
      have hbR : Below w.heap.size w ((wr.setCell ⟨w.heap.size + 1, 0, none⟩ (.int .i64 (-coin))).setCell ⟨w.heap.size + 1, 1, none⟩ (.slice p5 l.length c5)) := below_setCell (below_setCell hbW _ _ (by simp)) _ _ (by simp)
      have q0 := hRW.cell 0 (v := .int .i64 0) rfl
      have q1 := hRW.cell 1 (v := .slice none 0 0) rfl
      have f0 := hRW.free 0
      have f1 := hRW.free 1
      have hLR : Lies ((wr.setCell ⟨w.heap.size + 1, 0, none⟩ (.int .i64 (-coin))).setCell ⟨w.heap.size + 1, 1, none⟩ (.slice p5 l.length c5)) (w.heap.size + 1) #[.int .i64 (-coin), .slice p5 l.length c5] 24 := (hRW.set 0 _).set 1 _
      have HE := Lib.hid (And.intro hrow2 (And.intro hbR hLR))
      clear hLR hrow2 hbR hRW hrow hok hlt hoW hbW hnm hB hk hLW
      go_wp2_with fail
      refine bodyPost_ret (v := .agg #[.int .i64 (-coin), .slice p5 l.length c5]) (results_cell_row (p := 2) (ty := 24) (by kernel_rfl) _ _ (w.heap.size + 1) 24 #[.int .i64 (-coin), .slice p5 l.length c5] (0, 0) _ rfl HE.out.2.2 Tryz.underlying24 rfl info_value) rfl ⟨⟨p5, c5, rfl, HE.out.1⟩, HE.out.2.1⟩
end Go.Proofs.YtjngghihciimjaaGreat
