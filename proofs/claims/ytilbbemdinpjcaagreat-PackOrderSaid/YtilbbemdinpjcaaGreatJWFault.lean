/-
  What spoils a writer, a reader: begun, answered, sound, spoilt. Its own place is nil (nobody made it) or itself.
-/
import Derived.Test.YtilbbemdinpjcaaGreatJVi
import Derived.Deep.AppendLies
import Derived.Deep.WholeRow
import Derived.Great.BuildSlice
import Derived.Test.YtilbbemdinpjcaaGreatJTLreals
import Derived.Test.YtilbbemdinpjcaaGreatProg
import Derived.WalkKit
import Derived.WalkSpells
import Derived.WalkLawsBesides
import Derived.Outline
import Derived.Maps.AppendAt
import Derived.OwnWalk
import Derived.Below
import Derived.Laws.Rows
import Derived.Lib.Hide
import Derived.WalkSmall
import Derived.LaidEqlPtr
namespace Go.Proofs.YtilbbemdinpjcaaGreat
set_option maxRecDepth 100000
open Go.RowKit Go.Sort Go.Maps

section
variable {α : Type} (enc : α → Array Value) (k : Nat)
def cellsF (l : List α) : List Value := l.flatMap fun a => (enc a).toList
theorem cellsF_cons (a : α) (l : List α) : cellsF enc (a :: l) = (enc a).toList ++ cellsF enc l := rfl
theorem cellsF_app (l m : List α) : cellsF enc (l ++ m) = cellsF enc l ++ cellsF enc m := by simp [cellsF]
theorem cellsF_len : ∀ (l : List α), (∀ a, a ∈ l → (enc a).size = k) → (cellsF enc l).length = l.length * k
  | [], _ => by simp [cellsF]
  | a :: l, h => by
    rw [cellsF_cons, List.length_append, Array.length_toList, h a (by simp), cellsF_len l fun b hb => h b (by simp [hb]), List.length_cons, Nat.succ_mul, Nat.add_comm]
theorem cellsF_get : ∀ (l : List α), (∀ a, a ∈ l → (enc a).size = k) → ∀ (i : Nat) (a : α), l[i]? = some a → ∀ j, j < k → (cellsF enc l)[i * k + j]? = (enc a)[j]?
  | [], _, i, a, h, _, _ => by simp at h
  | b :: l, hs, 0, a, h, j, hj => by
    simp only [List.getElem?_cons_zero, Option.some.injEq] at h
    subst h
    have hl : (enc b).toList.length = k := by rw [Array.length_toList]; exact hs b (by simp)
    rw [cellsF_cons, Nat.zero_mul, Nat.zero_add, List.getElem?_append_left (by rw [hl]; exact hj), Array.getElem?_toList]
  | b :: l, hs, i + 1, a, h, j, hj => by
    simp only [List.getElem?_cons_succ] at h
    have hl : (enc b).toList.length = k := by rw [Array.length_toList]; exact hs b (by simp)
    rw [cellsF_cons, List.getElem?_append_right (by rw [hl, Nat.succ_mul]; omega), hl, show (i + 1) * k + j - k = i * k + j by rw [Nat.succ_mul]; omega]
    exact cellsF_get l (fun c hc => hs c (by simp [hc])) i a h j hj
theorem cellsF_one (l : List α) (h : ∀ a, a ∈ l → (enc a).all (·.oneCell') = true) : ∀ u ∈ cellsF enc l, u.oneCell' = true := by
  intro u hu
  obtain ⟨a, ha, h2⟩ := List.mem_flatMap.1 hu
  have := h a ha
  rw [Array.all_eq_true_iff_forall_mem] at this
  exact this u (Array.mem_toList_iff.1 h2)
/-- What a row of the call's own looks like. -/
theorem own_at {w : World} {B : Nat} {e : TypeId} {v : Value} {l : List α} (hs : ∀ a, a ∈ l → (enc a).size = k) (h : w.ownsRow B e k v l.length (cellsF enc l)) :
    (v = .slice none 0 0 ∧ l = []) ∨ ∃ g cap, v = .slice (some ⟨g, 0, none⟩) l.length cap ∧ B ≤ g ∧ g < w.heap.size ∧ l.length ≤ cap ∧ (∀ (i : Nat) (a : α), l[i]? = some a → w.rangeAt g (0 + i * k) (enc a).toList) ∧ ∀ j, w.frozen? ⟨g, j, none⟩ = false := by
  rcases h.2 with ⟨h1, h2⟩ | ⟨g, cap, cur, h1, h2, h3, h4, h5, h6, h7⟩
  · exact .inl ⟨h1, List.eq_nil_of_length_eq_zero h2⟩
  · have hl : Lies w g cur e := h3
    refine .inr ⟨g, cap, h1, h2, hl.lt, h4, fun i a ha j v hv => ?_, fun j => hl.free j⟩
    have hj : j < k := by
      have := (List.getElem?_eq_some_iff.1 hv).1
      rw [Array.length_toList, hs a (List.mem_of_getElem? ha)] at this
      exact this
    have hi : i < l.length := (List.getElem?_eq_some_iff.1 ha).1
    rw [Array.getElem?_toList] at hv
    have h8 : (cellsF enc l)[i * k + j]? = some v := by rw [cellsF_get enc k l hs i a ha j hj]; exact hv
    have hm : i * k + j < l.length * k := by
      have : (i + 1) * k ≤ l.length * k := Nat.mul_le_mul_right k hi
      rw [Nat.succ_mul] at this
      omega
    rw [← h7, List.getElem?_take, if_pos hm] at h8
    rw [show 0 + i * k + j = i * k + j by omega]
    exact hl.cell (i * k + j) (by simpa using h8)
theorem src_one {w : World} {g : Nat} {t : TypeId} {a : α} (h : Lies w g (enc a) t) : ∀ j u, (cellsF enc [a])[j]? = some u → w.cell? ((⟨g, 0, none⟩ : Addr).add j) = some u := fun j u hu => by
  have : (enc a)[j]? = some u := by
    rw [cellsF_cons] at hu
    simpa [cellsF] using hu
  have h2 := h.cell j this
  have e : (⟨g, 0, none⟩ : Addr).add j = ⟨g, j, none⟩ := by cases j <;> simp [Addr.add]
  rw [e]; exact h2
end
theorem info48 : (Tryz.prog.info? 150).map (fun i => (i.zero.map (·.cells.size), i.size, i.bytes)) = some (some 35, 35, 64) := by kernel_rfl
theorem info54 : (Tryz.prog.info? 146).map (fun i => (i.zero.map (·.cells.size), i.size, i.bytes)) = some (some 34, 34, 56) := by kernel_rfl
theorem info_parts {P : Program} {t : TypeId} {k b : Nat} (h : (P.info? t).map (fun i => (i.zero.map (·.cells.size), i.size, i.bytes)) = some (some k, k, b)) : ∃ i z, P.info? t = some i ∧ i.zero = some z ∧ i.size = k ∧ i.bytes = b ∧ z.cells.size = k := by
  cases hi : P.info? t with
  | none => rw [hi] at h; simp at h
  | some i =>
    rw [hi] at h
    simp only [Option.map_some, Option.some.injEq, Prod.mk.injEq] at h
    obtain ⟨h1, h2, h3⟩ := h
    cases hz : i.zero with
    | none => rw [hz] at h1; simp at h1
    | some z =>
      rw [hz] at h1
      exact ⟨i, z, rfl, hz, h2, h3, by simpa using h1⟩
/-- A row of totals where another block is written. -/
theorem RowT.but {w w' : World} {pa : Option Addr} {l : List To} (h : RowT w pa l) {r : Option Nat} (hg : w.grownBy w' r) (hne : ∀ g off, pa = some ⟨g, off, none⟩ → 0 < l.length → some g ≠ r) : RowT w' pa l :=
  ⟨h.1, h.2.1, fun hl => by
    obtain ⟨g, off, e, hlt, hh⟩ := h.2.2 hl
    exact ⟨g, off, e, Nat.lt_of_lt_of_le hlt hg.size, fun i a hi j v hv => hg.cell (hh i a hi j v hv) (hne g off e hl)⟩⟩
theorem grown_setRow (w : World) (g : Nat) (cs : Array Value) : w.grownBy (w.setRow g cs) (some g) := ⟨rfl, rfl, rfl, by simp, fun k _ hk => setRow_other w g k cs (fun e => hk (by rw [e]))⟩
theorem RowT.setRow {w : World} {pa : Option Addr} {l : List To} (h : RowT w pa l) (b : Nat) (cs' : Array Value) {cs : Array Value} {t : TypeId} (hl : Lies w b cs t) (hlt : cs.size ≤ 34) : RowT (w.setRow b cs') pa l :=
  h.but (grown_setRow w b cs') (fun g off e h0 heq => by
    have hgb : g = b := Option.some.inj heq
    obtain ⟨g', off', e', _, hh⟩ := h.2.2 h0
    rw [e] at e'
    cases e'
    subst hgb
    obtain ⟨a, ha⟩ : ∃ a, l[0]? = some a := ⟨l[0], List.getElem?_eq_getElem h0⟩
    have hc := hh 0 a ha 34 _ (by rw [Array.getElem?_toList]; exact toC_lo a (h.2.1 a (List.mem_of_getElem? ha)).1)
    rw [cell_of_row w g _ cs t (0, 0) hl, Array.getElem?_eq_none (by omega)] at hc
    cases hc)
theorem setRow_alloc1 (w : World) (o : Obj) (B : Array Value) (u : TypeId) (cv : Array Value) : ((w.alloc o).alloc (.cells B u)).setRow (w.heap.size + 1) cv = (w.alloc o).alloc (.cells cv u) := by
  have h := World.setRow_alloc_new (w.alloc o) B cv u
  simpa using h
theorem setRow_alloc2 (w : World) (A : Array Value) (t : TypeId) (o : Obj) (nv : Array Value) : ((w.alloc (.cells A t)).alloc o).setRow w.heap.size nv = (w.alloc (.cells nv t)).alloc o := by
  have e : (((w.alloc (.cells A t)).alloc o).setRow w.heap.size nv).heap = ((w.alloc (.cells nv t)).alloc o).heap := by
    apply Array.ext_getElem?
    intro i
    by_cases hi : i = w.heap.size
    · subst hi
      have h1 : Lies (w.alloc (.cells A t)) w.heap.size A t := Lies.new _ _ _
      have h2 : Lies (w.alloc (.cells nv t)) w.heap.size nv t := Lies.new _ _ _
      exact ((h1.alloc o).setRow nv).trans (h2.alloc o).symm
    · rw [setRow_other _ _ _ _ hi]
      show ((w.heap.push _).push o)[i]? = ((w.heap.push _).push o)[i]?
      simp [Array.getElem?_push, hi]
  show ({ ((w.alloc (.cells A t)).alloc o) with heap := (((w.alloc (.cells A t)).alloc o).setRow w.heap.size nv).heap } : World) = _
  rw [e]
  rfl
theorem run_slice1 {P : Program} (w : World) (t e : TypeId) (k b : Nat) (cs : Array Value) (hu : P.underlying t = some (.slice e)) (hi : (P.info? e).map (fun i => (i.zero.map (·.cells.size), i.size, i.bytes)) = some (some k, k, b)) (hk : 0 < k) (hk2 : k ≤ 1000) (hc : cs.size = k) :
    (Instr.buildSlice t 1 #[(0, .agg cs)]).run P w = .ok (.slice (some ⟨w.heap.size, 0, none⟩) 1 1) (w.alloc (.cells cs e)) := by
  obtain ⟨i, z, h1, h2, h3, h4, h5⟩ := info_parts hi
  refine run_buildSlice w t e 1 _ cs i z hu h1 h2 (by rw [h3]; omega) (by rw [h3]; omega) ?_
  rw [h3]
  have h := Great.fill_whole hk [Value.agg cs] ((Array.range (1 * k)).map (z.cells[· % z.cells.size]!)) (by simpa [Value.cells] using hc) (by simp)
  simpa [Value.cells] using h
theorem built_total (a : To) (h : a.nm.1.length = 32) : Tryz.prog.built 150 [(0, .agg (B8 a.nm.1)), (1, .string (txt a.nm.2)), (2, .agg #[.int .i64 (hiS a.w), .int .u64 (loN a.w)])] = some (toC a) := by
  obtain ⟨⟨p, t⟩, x⟩ := a
  obtain ⟨a0, a1, a2, a3, a4, a5, a6, a7, a8, a9, a10, a11, a12, a13, a14, a15, a16, a17, a18, a19, a20, a21, a22, a23, a24, a25, a26, a27, a28, a29, a30, a31, rfl⟩ := list32 p h
  kernel_rfl
theorem built_asset (a : As) (h : a.nm.1.length = 32) : Tryz.prog.built 146 [(0, .agg (B8 a.nm.1)), (1, .string (txt a.nm.2)), (2, .int .i64 a.amt)] = some (asC a) := by
  obtain ⟨⟨p, t⟩, x⟩ := a
  obtain ⟨a0, a1, a2, a3, a4, a5, a6, a7, a8, a9, a10, a11, a12, a13, a14, a15, a16, a17, a18, a19, a20, a21, a22, a23, a24, a25, a26, a27, a28, a29, a30, a31, rfl⟩ := list32 p h
  kernel_rfl
/-- An append, at a step of a region that draws. -/
theorem wpOp_append {P : Program} {ops : Array Oper} {Q : Exit → Act → World → Prop} {j : Nat} {o : Oper} {a : Act} {w : World} {K : Act → World → Prop} (hj : ops[j]? = some o) (hgd : o.guard = none) (d : Tmp) (hd : o.dst = some d) (s x : Operand) (t : TypeId)
    (ho : o.op = .call { callee := .builtin .append, args := #[s, x], argTypes := #[t, t] })
    (base : Nat) (e : TypeId) (size bytes : Nat) (ht : P.underlying t = some (.slice e)) (hi : (P.info? e).map (fun i => (i.zero.map (·.cells.size), i.size, i.bytes)) = some (some size, size, bytes)) (hsz : 0 < size)
    (v : Value) (n : Nat) (xs : List Value) (hs : a.eval s = v) (hown : w.ownsRow base e size v n xs)
    (ad : Addr) (m c : Nat) (news : List Value) (hx : a.eval x = .slice (some ad) m c) (hl : news.length = m * size) (hnews : ∀ j u, news[j]? = some u → w.cell? (ad.add j) = some u) (h1 : ∀ u ∈ news, u.oneCell' = true)
    (hm : 0 < m) (h63 : n + m ≤ maxLen) (hbytes : (n + m) * bytes ≤ 140737488355328) (hbase : base ≤ w.heap.size)
    (h : ∀ g cap w', w'.ownsRow base e size (.slice (some ⟨g, 0, none⟩) (n + m) cap) (n + m) (xs ++ news) → w.grownBy w' v.ownBlock → (v.ownBlock = some g ∨ g = w.heap.size) → g < w'.heap.size → K (a.put (some d) (.slice (some ⟨g, 0, none⟩) (n + m) cap)) w') : wpOp P ops Q j K a w := by
  obtain ⟨i0, z0, hi0, hz0, hz1, hz2, hz3⟩ := info_parts hi
  exact wpOp_wp hj hgd (wp_append_lies w s x t ho base e i0 z0 size bytes ht hi0 hz0 hz1 hz2 hz3 hsz v n xs hs hown ad m c news hx hl hnews h1 hm h63 hbytes hbase _ rfl (by rw [hd]; exact h))
/-- Totals, assets in memory of the call's own. -/
def OwnTo (w : World) (B : Nat) (v : Value) (l : List To) : Prop := w.ownsRow B 150 35 v l.length (cellsF toC l)
def OwnAs (w : World) (B : Nat) (v : Value) (l : List As) : Prop := w.ownsRow B 146 34 v l.length (cellsF asC l)
theorem OwnTo.row {w : World} {B : Nat} {v : Value} {l : List To} (h : OwnTo w B v l) (ho : ∀ a, a ∈ l → ToOk a) (hl : l.length ≤ maxLen) : ∃ pa c, v = .slice pa l.length c ∧ RowT w pa l := by
  rcases own_at toC 35 (fun a ha => toC_size a (ho a ha).1) h with ⟨h1, rfl⟩ | ⟨g, cap, h1, h2, h3, h4, h5, _⟩
  · exact ⟨none, 0, h1, hl, ho, fun h => absurd h (by simp)⟩
  · exact ⟨_, cap, h1, hl, ho, fun _ => ⟨g, 0, rfl, h3, h5⟩⟩
theorem OwnAs.row {w : World} {B : Nat} {v : Value} {l : List As} (h : OwnAs w B v l) (ho : ∀ a, a ∈ l → AsOk a) (hl : l.length ≤ maxLen) : ∃ pa c, v = .slice pa l.length c ∧ Row w pa l := by
  rcases own_at asC 34 (fun a ha => asC_size a (ho a ha).1) h with ⟨h1, rfl⟩ | ⟨g, cap, h1, h2, h3, h4, h5, _⟩
  · exact ⟨none, 0, h1, hl, ho, fun h => absurd h (by simp)⟩
  · exact ⟨_, cap, h1, hl, ho, fun _ => ⟨g, 0, rfl, h3, h5⟩⟩
theorem ownsRow_below {w w' : World} {B : Nat} {e : TypeId} {k n : Nat} {v : Value} {xs : List Value} (h : w.ownsRow B e k v n xs) (hb : Below w.heap.size w w') : w'.ownsRow B e k v n xs :=
  h.kept (grown_of (r := none) hb) (by
    cases hv : v.ownBlock
    · exact .inl rfl
    · exact .inr (by simp))
theorem ownsRow_far {w : World} {B : Nat} {e : TypeId} {k n : Nat} {v : Value} {xs : List Value} (h : w.ownsRow B e k v n xs) {g : Nat} {cs : Array Value} {t : TypeId} (hg : Lies w g cs t) (hne : t ≠ e) : some g ≠ v.ownBlock := by
  rcases h.2 with ⟨h1, _⟩ | ⟨g', cap, cur, h1, h2, h3, _⟩
  · rw [h1]; exact fun e => by cases e
  · rw [h1]
    intro e'
    have e2 : g = g' := Option.some.inj e'
    subst e2
    unfold Lies at hg
    rw [h3] at hg
    simp only [Option.some.injEq, Obj.cells.injEq] at hg
    exact hne hg.2.1.symm
theorem ownsRow_new {w : World} {B : Nat} {e : TypeId} {k n : Nat} {v : Value} {xs : List Value} (h : w.ownsRow B e k v n xs) : v.ownBlock ≠ some w.heap.size := by
  rcases h.2 with ⟨h1, _⟩ | ⟨g', cap, cur, h1, h2, h3, _⟩
  · rw [h1]; exact fun e => by cases e
  · rw [h1]
    intro e'
    have e2 : g' = w.heap.size := Option.some.inj e'
    have := (Array.getElem?_eq_some_iff.1 h3).1
    omega
theorem lies_grown {w w' : World} {r : Option Nat} {g : Nat} {cs : Array Value} {t : TypeId} (hg : w.grownBy w' r) (h : Lies w g cs t) (hn : some g ≠ r) : Lies w' g cs t := (hg.block g h.lt hn).trans h
end Go.Proofs.YtilbbemdinpjcaaGreat
namespace Go.Proofs.YtilbbemdinpjcaaGreat.T
open Go.RowKit

set_option maxRecDepth 1000000 in
set_option maxHeartbeats 1000000 in
theorem termOfL_any (lim : Nat) (hlim : lim ≤ 1000000) (w : World) (a : Option Addr) (c : Nat) (xs : List Nd) (hr : TRaw w a xs) (ht : TxtRaw xs) (hl : xs.length ≤ 140737488355328) :
    Calls Tryz.prog 41 #[.agg #[.slice a xs.length c], .int .i64 (lim : Int)] w fun e w' => ∃ r : Nat, e = .returned (.int .i64 r) ∧ (r ≤ lim → r = cost xs) ∧ r ≤ 1000000000000000 ∧ Below w.heap.size w w' := by
  have hA : Lies (w.alloc (.cells #[.slice a xs.length c] 24)) w.heap.size #[.slice a xs.length c] 24 := Lies.new _ _ _
  have hb0 : Below w.heap.size w (w.alloc (.cells #[.slice a xs.length c] 24)) := (Below.refl _ _).alloc (Nat.le_refl _) _
  obtain ⟨n, hn⟩ : ∃ n, n = xs.length := ⟨_, rfl⟩
  rw [← hn] at hA hb0 hl ⊢
  have H := Lib.hid (And.intro hr (And.intro ht (And.intro hl hn)))
  clear hr ht hl hn
  go_enter Tryz.func41, Tryz.ntmps41
  go_upto_region 1 with fail
  generalize w.alloc (.cells #[.slice a n c] 24) = W0 at hA hb0 ⊢
  have c0 := hA.cell 0 (v := .slice a n c) rfl
  have HB := Lib.hid hb0
  clear hA hb0
  go_wp2_with fail
  go_loop [5, 6] (fun s i => ∃ k t : Nat, k ≤ n ∧ i = .int .i64 k ∧ s = .int .i64 t ∧ t = cost (xs.take k) ∧ t ≤ 1000000000000000) (fun _ i => (n - intOf i).toNat)
  case atStart => exact ⟨0, 0, by omega, by go_num, by go_num, rfl, by omega⟩
  case round =>
    obtain ⟨k, t, hk, rfl, rfl, hs, hts⟩ := hrel
    by_cases hlt : k < n
    · have q1 : (k : Int) < (n : Int) := by omega
      by_cases h3 : t ≤ lim
      · have q2 : (t : Int) ≤ (lim : Int) := by omega
        have hxl : k < xs.length := by rw [← H.out.2.2.2]; exact hlt
        obtain ⟨g, off, rfl, hN⟩ := H.out.1 (by omega)
        have hNW := hN.below HB.out hN.1
        obtain ⟨tx, htx⟩ : ∃ z, z = xs[k].txt := ⟨_, rfl⟩
        have c3 : W0.cell? ⟨g, off + k * 5 + 3, none⟩ = some (.string tx) := by rw [htx]; exact hNW.2 k hxl 3 _ rfl
        have hz : tx.size ≤ 140737488355328 := by rw [htx]; exact H.out.2.1 _ (List.getElem_mem hxl)
        have hct := cost_take hxl
        rw [← htx, ← hs] at hct
        have q0 : (0 : Int) ≤ (k : Int) := by omega
        have q3 : (k : Int) ≤ 140737488355328 := by have := H.out.2.2.1; omega
        have HC := Lib.hid (And.intro hct (And.intro hz hs))
        have q4 : (tx.size : Int) ≤ 140737488355328 := by omega
        have q5 : (0 : Int) ≤ (tx.size : Int) := by omega
        clear hN hNW htx hct hs hxl hz
        go_wp2_with fail
        have hz := HC.out.2.1
        refine ⟨⟨k + 1, t + 1 + tx.size / 16, by omega, by go_num, congrArg (Value.int .i64) (by omega), HC.out.1.symm, by omega⟩, by simp [intOf]; omega⟩
      · have q2 : ¬ (t : Int) ≤ (lim : Int) := by omega
        have HT := Lib.hid hs
        clear hs
        go_wp2_with fail
        go_ret
        exact ⟨t, rfl, fun h => by omega, hts, HB.out⟩
    · have q1 : ¬ (k : Int) < (n : Int) := by omega
      have hke : k = n := by omega
      have hz : t = cost xs := by rw [hs, hke, H.out.2.2.2, List.take_length]
      have HT := Lib.hid hz
      clear hs hz hke
      go_wp2_with fail
      go_ret
      exact ⟨t, rfl, fun _ => HT.out, hts, HB.out⟩
end Go.Proofs.YtilbbemdinpjcaaGreat.T
namespace Go.Proofs.YtilbbemdinpjcaaGreat.P
set_option maxRecDepth 100000
open Go.RowKit Go.Sort

/- counts of assets and bundles, as in value's text Vgx -/
def cntA (l : List As) : Nat := (l.map fun a => 1 + a.nm.2.length / 16).sum
theorem cntA_take {l : List As} {k : Nat} {a : As} (h : l[k]? = some a) : cntA (l.take (k + 1)) = cntA (l.take k) + (1 + a.nm.2.length / 16) := by
  unfold cntA
  rw [List.take_add_one, h, List.map_append, List.sum_append]
  simp
theorem cntA_len : ∀ l : List As, l.length ≤ cntA l
  | [] => Nat.zero_le _
  | a :: l => by
    have h := cntA_len l
    unfold cntA at h ⊢
    simp only [List.map_cons, List.sum_cons, List.length_cons]
    omega
theorem cntA_mem : ∀ {l : List As} {a : As}, a ∈ l → a.nm.2.length / 16 ≤ cntA l
  | b :: l, a, h => by
    unfold cntA
    simp only [List.map_cons, List.sum_cons]
    rcases List.mem_cons.1 h with rfl | h
    · omega
    · have := cntA_mem h
      unfold cntA at this
      omega
def CntRes (x : Nat) (lim B : Int) (e : Ending) : Prop := ∃ n : Nat, e = .returned (.int .i64 n) ∧ (n : Int) ≤ B ∧ ((n : Int) ≤ lim → n = x)
set_option maxHeartbeats 4000000 in
theorem assetsX_any (w : World) (pa : Option Addr) (l : List As) (c : Nat) (lim : Int) (h : Row w pa l) (hlim : lim ≤ 1000000) :
    Calls Tryz.prog 42 #[.slice pa l.length c, .int .i64 lim] w fun e w' => CntRes (cntA l) lim 600000000000000000 e ∧ Below w.heap.size w w' := by
  have hli : (l.length : Int) ≤ 9223372036854775807 := by have := h.1; unfold maxLen at this; omega
  have H := Lib.hid (And.intro h hlim)
  clear h hlim
  go_enter Tryz.func42, Tryz.ntmps42
  go_wp2_with fail
  go_loopw [5, 6] (fun s i W => ∃ (k n : Nat), k ≤ l.length ∧ s = .int .i64 n ∧ i = .int .i64 k ∧ Below w.heap.size w W ∧ n = cntA (l.take k) ∧ (n : Int) ≤ 600000000000000000) (fun _ i _ => l.length - (intOf i).toNat)
  case atStart => exact ⟨0, 0, Nat.zero_le _, rfl, rfl, Below.refl _ _, rfl, by omega⟩
  case round =>
    obtain ⟨k, n, hk, rfl, rfl, hb, hcn, hn0⟩ := hrel
    by_cases hlt : k < l.length
    · have m1 : (k : Int) < (l.length : Int) := by omega
      have m0 : (0 : Int) ≤ (k : Int) := by omega
      by_cases hn : (n : Int) ≤ lim
      · obtain ⟨g, off, rfl, hg, hh⟩ := H.out.1.2.2 (by omega)
        obtain ⟨a, ha⟩ : ∃ a, a = l[k] := ⟨_, rfl⟩
        have hka : l[k]? = some a := by rw [ha, List.getElem?_eq_getElem hlt]
        have oka := H.out.1.2.1 a (List.mem_of_getElem? hka)
        have c32 := (hh.below hb hg) k a hka 32 (.string (txt a.nm.2)) (by rw [Array.getElem?_toList]; exact asC_txt a oka.1)
        have hts := txt_size a.nm.2
        have ht := oka.2.1
        have hl := H.out.2
        have hnx : n + (1 + (txt a.nm.2).size / 16) = cntA (l.take (k + 1)) := by rw [cntA_take hka, ← hcn, hts]
        generalize txt a.nm.2 = tv at c32 hts hnx
        have hti : (tv.size : Int) ≤ 9223372036854775807 := by unfold maxLen at ht; omega
        obtain ⟨z, hz⟩ : ∃ z, z = tv.size / 16 := ⟨_, rfl⟩
        have hzl : z ≤ 576460752303423488 := by omega
        have hdiv : Int.tdiv (tv.size : Int) 16 = (z : Int) := by rw [hz]; rfl
        have hw1 : IntKind.i64.wrap ((n : Int) + 1) = (n : Int) + 1 := by rw [IntKind.wrap_i64]; omega
        have hwz : IntKind.i64.wrap (z : Int) = (z : Int) := by rw [IntKind.wrap_i64]; omega
        have hw2 : IntKind.i64.wrap ((n : Int) + 1 + (z : Int)) = (n : Int) + 1 + (z : Int) := by rw [IntKind.wrap_i64]; omega
        rw [← hz] at hnx
        have hnl : ((n + (1 + z) : Nat) : Int) ≤ 600000000000000000 := by omega
        have HR := Lib.hid (And.intro hb (And.intro hlt (And.intro hnx hnl)))
        clear ha hka oka hg hh hb hlt hk hts ht hcn hl hz hzl hnx hn0 hnl
        go_wp2_with fail
        have e1 : (k : Int) + 1 = ((k + 1 : Nat) : Int) := by omega
        have e2 : (n : Int) + 1 + (z : Int) = ((n + (1 + z) : Nat) : Int) := by omega
        rw [e1, e2]
        refine ⟨⟨k + 1, n + (1 + z), HR.out.2.1, rfl, rfl, HR.out.1, HR.out.2.2.1, HR.out.2.2.2⟩, ?_⟩
        have h := HR.out.2.1
        show l.length - (k + 1) < l.length - k
        omega
      · have HB := Lib.hid (And.intro hb (And.intro hn0 hn))
        clear hb hlt hk hcn hn0
        go_wp2_with fail
        go_ret
        exact ⟨⟨n, rfl, HB.out.2.1, fun h => absurd h (by have := HB.out.2.2; omega)⟩, HB.out.1⟩
    · have m1 : ¬ (k : Int) < (l.length : Int) := by omega
      have hkl : k = l.length := by omega
      subst hkl
      rw [List.take_length] at hcn
      have HB := Lib.hid (And.intro hb (And.intro hn0 hcn))
      clear hb hlt hk hcn hn0
      go_wp2_with fail
      go_ret
      exact ⟨⟨n, rfl, HB.out.2.1, fun _ => HB.out.2.2⟩, HB.out.1⟩
def cntV (v : Va) : Nat := 1 + cntA v.l
set_option maxHeartbeats 1000000 in
theorem valueX_any (w : World) (x : Int) (pa : Option Addr) (l : List As) (c : Nat) (lim : Int) (h : Row w pa l) (hlim : lim ≤ 1000000) :
    Calls Tryz.prog 43 #[.agg #[.int .i64 x, .slice pa l.length c], .int .i64 lim] w fun e w' => CntRes (1 + cntA l) lim 600000000000000001 e ∧ Below w.heap.size w w' := by
  have hli : (l.length : Int) ≤ 9223372036854775807 := by have := h.1; unfold maxLen at this; omega
  have hb1 : Below w.heap.size w (w.alloc (.cells #[.int .i64 x, .slice pa l.length c] 27)) := (Below.refl _ _).alloc (Nat.le_refl _) _
  have hL : Lies (w.alloc (.cells #[.int .i64 x, .slice pa l.length c] 27)) w.heap.size #[.int .i64 x, .slice pa l.length c] 27 := Lies.new _ _ _
  have hC := assetsX_any _ pa l c lim (h.below hb1 (Nat.le_refl _)) hlim
  have H := Lib.hid (And.intro hC (And.intro hb1 hlim))
  have c0 := hL.cell 0 (v := .int .i64 x) rfl
  have c1 := hL.cell 1 (v := .slice pa l.length c) rfl
  clear h hC hb1 hL hlim
  go_enter Tryz.func43, Tryz.ntmps43
  go_wp2_with fail
  refine H.out.1.mono ?_
  rintro e w2 ⟨⟨n, rfl, hn0, hn⟩, hb2⟩
  have hw : IntKind.i64.wrap (1 + (n : Int)) = 1 + (n : Int) := by rw [IntKind.wrap_i64]; omega
  have HB := Lib.hid (And.intro (H.out.2.1.trans (hb2.mono H.out.2.1.size)) (And.intro hn0 hn))
  clear hb2 c0 c1 hn0 hn
  go_wp2_with fail
  go_ret
  have h0 := HB.out.2.1
  have h1 := HB.out.2.2
  have hl := H.out.2.2
  refine ⟨⟨1 + n, by push_cast; rfl, by omega, fun h => by have := h1 (by omega); omega⟩, HB.out.1⟩
/-- An output as it may come in: nothing is known of its term's length. -/
structure OtRaw (w : World) (o : Ot) : Prop where
  ah : o.ah.length = 32
  v : VaOk w o.v
  dh : o.dh.length = 32
  t : T.TRaw w o.tp o.ns
  txt : T.TxtRaw o.ns
  len : o.ns.length ≤ 140737488355328
  kids : ∀ x ∈ o.ns, x.kids ≤ 9223372036854775807
  tc : o.ns.length ≤ o.tc
theorem OtRaw.below {w w' : World} {o : Ot} {B : Nat} (h : OtRaw w o) (hb : Below B w w') (hB : w.heap.size ≤ B) : OtRaw w' o := ⟨h.ah, ⟨h.v.1, h.v.2.1, h.v.2.2.below hb hB⟩, h.dh, h.t.below hb hB, h.txt, h.len, h.kids, h.tc⟩
def cntO (o : Ot) : Nat := cntV o.v + T.cost o.ns
/-- One that is not too great. -/
theorem OtRaw.small {w : World} {o : Ot} (h : OtRaw w o) (hc : cntO o ≤ 1000000) : OtOk w o := ⟨h.ah, h.v, h.dh, ⟨h.t, by have := T.cost_len o.ns; unfold cntO at hc; omega, h.kids⟩, h.tc⟩
theorem outputOf_any (w : World) (o : Ot) (lim : Nat) (hlim : lim ≤ 1000000) (h : OtRaw w o) :
    Calls Tryz.prog 45 #[.agg (otC o), .int .i64 (lim : Int)] w fun e w' => CntRes (cntO o) lim 700000000000000001 e ∧ Below w.heap.size w w' := by
  obtain ⟨ov, hov⟩ : ∃ v, v = otC o := ⟨_, rfl⟩
  have hL : Lies (w.alloc (.cells ov 35)) w.heap.size ov 35 := Lies.new _ _ _
  have hb0 : Below w.heap.size w (w.alloc (.cells ov 35)) := (Below.refl _ _).alloc (Nat.le_refl _) _
  generalize hW : w.alloc (.cells ov 35) = W0 at hL hb0
  have hr := h.below hb0 (Nat.le_refl _)
  have HS : Hid (∀ V, Below W0.heap.size W0 V → V.cell? ⟨w.heap.size, 33, none⟩ = some (.int .i64 o.v.coin) ∧ V.cell? ⟨w.heap.size, 34, none⟩ = some (.slice o.v.pa o.v.l.length o.v.c) ∧ V.cell? ⟨w.heap.size, 68, none⟩ = some (.slice o.tp o.ns.length o.tc)) := Lib.hid fun V hV => by
    have hl := hL.below hV hL.lt
    rw [hov] at hl
    have h1 := lies_at hl h.ah h.dh
    exact ⟨by simpa using h1.coin, by simpa using h1.assets, by simpa using h1.term⟩
  have K1 : Hid (∀ V, Below W0.heap.size W0 V → Calls Tryz.prog 43 #[.agg #[.int .i64 o.v.coin, .slice o.v.pa o.v.l.length o.v.c], .int .i64 (lim : Int)] V fun e w' => CntRes (cntV o.v) lim 600000000000000001 e ∧ Below V.heap.size V w') := Lib.hid fun V hV => valueX_any V o.v.coin o.v.pa o.v.l o.v.c lim (hr.v.2.2.below hV (Nat.le_refl _)) (by omega)
  have K2 : Hid (∀ V, Below W0.heap.size W0 V → Calls Tryz.prog 41 #[.agg #[.slice o.tp o.ns.length o.tc], .int .i64 (lim : Int)] V fun e w' => (∃ r : Nat, e = .returned (.int .i64 r) ∧ (r ≤ lim → r = T.cost o.ns) ∧ r ≤ 1000000000000000) ∧ Below V.heap.size V w') := Lib.hid fun V hV =>
    (T.termOfL_any lim hlim V o.tp o.tc o.ns (hr.t.below hV (Nat.le_refl _)) hr.txt hr.len).mono fun e w' k => by
      obtain ⟨r, h1, h2, h3, h4⟩ := k
      exact ⟨⟨r, h1, h2, h3⟩, h4⟩
  have HB := Lib.hid (And.intro hb0 hlim)
  have HW := hW
  rw [← hov]
  clear hL hr h hov hb0 hlim hW
  go_enter Tryz.func45, Tryz.ntmps45
  go_upto_region 1 with fail
  clear HW
  obtain ⟨g, hg⟩ : ∃ g, g = w.heap.size := ⟨_, rfl⟩
  rw [← hg] at HS ⊢
  clear hg
  refine wp_region_held (S := Below W0.heap.size W0) (by kernel_rfl) ?_
  change wpAnyH _ _ _ _ _ 10 _ _ (World.drew W0)
  have hcur : Below W0.heap.size W0 W0.drew := (Below.refl _ _).drew
  refine tk 0 (.pointer (some ⟨g, 33, none⟩)) 5 rfl rfl hcur ?_
  refine tk 1 (.agg #[.int .i64 o.v.coin, .slice o.v.pa o.v.l.length o.v.c]) 6 rfl rfl hcur ?_ (by intro w' hS'; obtain ⟨x0, x1, -⟩ := HS.out w' hS'; unfold execOp; simp [go_sem, x0, x1])
  refine tk 2 (.int .i64 (lim : Int)) 7 rfl rfl hcur ?_
  refine tk 4 (.pointer (some ⟨g, 68, none⟩)) 9 rfl rfl hcur ?_
  refine tk 5 (.agg #[.slice o.tp o.ns.length o.tc]) 10 rfl rfl hcur ?_ (by intro w' hS'; have x0 := (HS.out w' hS').2.2; unfold execOp; simp [go_sem, x0])
  refine tk 6 (.int .i64 (lim : Int)) 11 rfl rfl hcur ?_
  generalize W0.drew = V0 at hcur ⊢
  refine held_one (i := 3) (by kernel_rfl) _ rfl (wpOp_callG rfl (by rfl) 8 rfl 43 #[.agg #[.int .i64 o.v.coin, .slice o.v.pa o.v.l.length o.v.c], .int .i64 (lim : Int)] (by unfold execOp; simp [go_sem]) (fun v w' => ∃ n : Nat, v = .int .i64 (n : Int) ∧ (n : Int) ≤ 600000000000000001 ∧ ((n : Int) ≤ (lim : Int) → n = cntV o.v) ∧ Below V0.heap.size V0 w') ((K1.out V0 hcur).mono fun e w' k => by obtain ⟨⟨n, h1, h2, h3⟩, h4⟩ := k; exact ⟨_, h1, n, rfl, h2, h3, h4⟩) ?_)
  rintro _ U1 ⟨n, rfl, hn1, hn2, hn⟩
  have hcur := hcur.trans (hn.mono hcur.size)
  clear hn
  refine ⟨hcur, ?_⟩
  simp only [Act.put, List.setIfInBounds_toArray, List.set_cons_zero, List.set_cons_succ]
  refine held_one (i := 7) (by kernel_rfl) _ rfl (wpOp_callG rfl (by rfl) 12 rfl 41 #[.agg #[.slice o.tp o.ns.length o.tc], .int .i64 (lim : Int)] (by unfold execOp; simp [go_sem]) (fun v w' => ∃ r : Nat, v = .int .i64 (r : Int) ∧ (r ≤ lim → r = T.cost o.ns) ∧ r ≤ 1000000000000000 ∧ Below U1.heap.size U1 w') ((K2.out U1 hcur).mono fun e w' k => by obtain ⟨⟨r, h1, h2, h3⟩, h4⟩ := k; exact ⟨_, h1, r, rfl, h2, h3, h4⟩) ?_)
  rintro _ U2 ⟨r, rfl, hr1, hr2, hn⟩
  have hcur := hcur.trans (hn.mono hcur.size)
  clear hn
  refine ⟨hcur, ?_⟩
  simp only [Act.put, List.setIfInBounds_toArray, List.set_cons_zero, List.set_cons_succ]
  have hwr : IntKind.i64.wrap ((n : Int) + (r : Int)) = (n : Int) + (r : Int) := by rw [IntKind.wrap_i64]; omega
  refine tk 8 (.int .i64 ((n : Int) + (r : Int))) 13 rfl rfl hcur ?_ (by intro w' hS'; unfold execOp; simp [go_sem, hwr])
  refine tk 9 (.int .i64 ((n : Int) + (r : Int))) 4 rfl rfl hcur ?_
  refine held_done (by kernel_rfl) ?_
  have HN := Lib.hid (And.intro hn1 (And.intro hn2 (And.intro hr1 (And.intro hr2 (HB.out.1.trans (hcur.mono HB.out.1.size))))))
  clear hwr hn1 hn2 hr1 hr2 hcur
  go_wp2_with fail
  go_ret
  refine ⟨⟨n + r, ret_i (by simp), ?_, ?_⟩, HN.out.2.2.2.2⟩
  · have h1 := HN.out.1; have h2 := HN.out.2.2.2.1; omega
  · intro hh
    have h1 := HN.out.2.1 (by omega)
    have h2 := HN.out.2.2.1 (by omega)
    unfold cntO
    rw [← h1, ← h2]
end Go.Proofs.YtilbbemdinpjcaaGreat.P
namespace Go.Proofs.YtilbbemdinpjcaaGreat.P
set_option maxRecDepth 100000
open Go.RowKit Go.Sort

/-- An entry as it may come in. -/
structure EnRaw (w : World) (e : En) : Prop where
  r : RfOk e.r
  o : OtRaw w e.o
theorem EnRaw.below {w w' : World} {e : En} {B : Nat} (h : EnRaw w e) (hb : Below B w w') (hB : w.heap.size ≤ B) : EnRaw w' e := ⟨h.r, h.o.below hb hB⟩
def HasER (w : World) (g off : Nat) (es : List En) : Prop := ∀ (i : Nat) (e : En), es[i]? = some e → w.rangeAt g (off + i * 102) (enC e).toList ∧ EnRaw w e
theorem HasER.below {B : Nat} {w w' : World} {g off : Nat} {es : List En} (h : HasER w g off es) (hb : Below B w w') (hg : g < B) (hB : w.heap.size ≤ B) : HasER w' g off es :=
  fun i e hi => ⟨fun j v hj => (hb.cell (p := ⟨g, off + i * 102 + j, none⟩) hg).trans ((h i e hi).1 j v hj), (h i e hi).2.below hb hB⟩
def RowER (w : World) (pa : Option Addr) (es : List En) : Prop := es.length ≤ maxLen ∧ (0 < es.length → ∃ g off, pa = some ⟨g, off, none⟩ ∧ g < w.heap.size ∧ HasER w g off es)
def cntE (es : List En) : Nat := (es.map fun e => 1 + cntO e.o).sum
theorem cntE_take {es : List En} {k : Nat} {e : En} (h : es[k]? = some e) : cntE (es.take (k + 1)) = cntE (es.take k) + (1 + cntO e.o) := by
  unfold cntE
  rw [List.take_add_one, h, List.map_append, List.sum_append]
  simp
theorem cntE_mem : ∀ {es : List En} {e : En}, e ∈ es → cntO e.o ≤ cntE es
  | d :: es, e, h => by
    have e1 : cntE (d :: es) = 1 + cntO d.o + cntE es := by simp [cntE]
    rw [e1]
    rcases List.mem_cons.1 h with rfl | h
    · omega
    · have := cntE_mem h
      omega
/-- Entries that are not too great. -/
theorem RowER.small {w : World} {pa : Option Addr} {es : List En} (h : RowER w pa es) (hc : cntE es ≤ 1000000) : RowE w pa es := ⟨h.1, fun h0 => by
  obtain ⟨g, off, h1, h2, h3⟩ := h.2 h0
  exact ⟨g, off, h1, h2, fun i e hi => ⟨(h3 i e hi).1, (h3 i e hi).2.r, (h3 i e hi).2.o.small (Nat.le_trans (cntE_mem (List.mem_of_getElem? hi)) hc)⟩⟩⟩
theorem enC_outR {e : En} (h : e.r.tx.length = 32) (j : Nat) (v : Value) (hv : (otC e.o).toList[j]? = some v) : (enC e).toList[33 + j]? = some v := by
  have hl : (refC e.r).toList.length = 33 := by rw [Array.length_toList, refC_size _ h]
  unfold enC
  rw [Array.toList_append, List.getElem?_append_right (by omega), hl, Nat.add_sub_cancel_left]
  exact hv
set_option maxHeartbeats 4000000 in
theorem entriesOf_any (w : World) (pa : Option Addr) (es : List En) (c lim : Nat) (hlim : lim ≤ 1000000) (h : RowER w pa es) :
    Calls Tryz.prog 40 #[.slice pa es.length c, .int .i64 (lim : Int)] w fun e w' => CntRes (cntE es) lim 800000000000000000 e ∧ Below w.heap.size w w' := by
  obtain ⟨N, hN⟩ : ∃ N, N = es.length := ⟨_, rfl⟩
  have hli : (N : Int) ≤ 9223372036854775807 := by have := h.1; unfold maxLen at this; omega
  have hlm : (lim : Int) ≤ 1000000 := by omega
  rw [← hN]
  have H := Lib.hid (And.intro h (And.intro hlim hN))
  clear h hlim hN
  go_enter Tryz.func40, Tryz.ntmps40
  go_wp2_with fail
  go_loopw [5, 6] (fun s i W => ∃ (k n : Nat), k ≤ N ∧ s = .int .i64 n ∧ i = .int .i64 k ∧ Below w.heap.size w W ∧ (n : Int) ≤ 800000000000000000 ∧ ((n : Int) ≤ (lim : Int) → n = cntE (es.take k))) (fun _ i _ => N - (intOf i).toNat)
  case atStart => exact ⟨0, 0, Nat.zero_le _, rfl, rfl, Below.refl _ _, by omega, fun _ => rfl⟩
  case round =>
    obtain ⟨k, n, hk, rfl, rfl, hb, hn0, hcn⟩ := hrel
    by_cases hlt : k < N
    · have m1 : (k : Int) < (N : Int) := by omega
      have m0 : (0 : Int) ≤ (k : Int) := by omega
      by_cases hn : (n : Int) ≤ (lim : Int)
      · have hNl := H.out.2.2
        obtain ⟨g, off, hpa, hg, hh⟩ := H.out.1.2 (by omega)
        subst hpa
        obtain ⟨e, hke⟩ : ∃ e, es[k]? = some e := ⟨es[k]'(by omega), List.getElem?_eq_getElem _⟩
        have hE := hh.below hb hg (Nat.le_refl _) k e hke
        obtain ⟨ov, hov⟩ : ∃ v, v = otC e.o := ⟨_, rfl⟩
        have hos : ov.size = 69 := by rw [hov]; exact otC_size _ hE.2.o.ah hE.2.o.dh
        have hrg : wr.rangeAt g (off + k * 102 + 33) ov.toList := fun j v hj => by
          rw [Nat.add_assoc]
          exact hE.1 (33 + j) v (enC_outR hE.2.r.1 j v (by rw [← hov]; exact hj))
        have hinf : (Tryz.prog.info? 35).map (·.size) = some ov.toList.length := by rw [Array.length_toList, hos]; exact info_output
        have hcall : Calls Tryz.prog 45 #[.agg ov, .int .i64 (lim : Int)] wr fun x w' => CntRes (cntO e.o) lim 700000000000000001 x ∧ Below wr.heap.size wr w' := by rw [hov]; exact outputOf_any wr e.o lim H.out.2.1 hE.2.o
        have HC := Lib.hid (And.intro hcall (And.intro hrg hinf))
        have HR := Lib.hid (And.intro hb (And.intro hlt (And.intro hke (And.intro (hcn hn) hn))))
        have hnl : (n : Int) ≤ 1000000 := by omega
        clear hNl hke hE hov hos hrg hinf hcall hg hh hb hlt hk hcn hn0
        go_wp2_with (refine wpList_load_mid rfl 35 _ rfl g (off + k * 102 + 33) rfl ov.toList _ HC.out.2.1 Tryz.underlying35 rfl HC.out.2.2 ?_)
        refine HC.out.1.mono ?_
        rintro x w2 ⟨⟨m, rfl, hm0, hm⟩, hb2⟩
        have hw : IntKind.i64.wrap ((n : Int) + 1 + (m : Int)) = (n : Int) + 1 + (m : Int) := by rw [IntKind.wrap_i64]; omega
        have hbd : ((n + 1 + m : Nat) : Int) ≤ 800000000000000000 := by omega
        have HB2 := Lib.hid (And.intro (HR.out.1.trans (hb2.mono HR.out.1.size)) (And.intro hm hbd))
        clear hb2 hm hm0 hbd
        go_wp2_with fail
        have e1 : (k : Int) + 1 = ((k + 1 : Nat) : Int) := by omega
        have e2 : (n : Int) + 1 + (m : Int) = ((n + 1 + m : Nat) : Int) := by omega
        rw [e1, e2]
        refine ⟨⟨k + 1, n + 1 + m, HR.out.2.1, rfl, rfl, HB2.out.1, HB2.out.2.2, fun h => ?_⟩, ?_⟩
        · rw [cntE_take HR.out.2.2.1, ← HR.out.2.2.2.1, ← HB2.out.2.1 (by omega)]
          omega
        · have h := HR.out.2.1
          show N - (k + 1) < N - k
          omega
      · have HB := Lib.hid (And.intro hb (And.intro hn0 hn))
        clear hb hlt hk hcn hn0
        go_wp2_with fail
        go_ret
        exact ⟨⟨n, rfl, HB.out.2.1, fun h => absurd h (by have := HB.out.2.2; omega)⟩, HB.out.1⟩
    · have m1 : ¬ (k : Int) < (N : Int) := by omega
      have hkl : es.take k = es := List.take_of_length_le (by have := H.out.2.2; omega)
      rw [hkl] at hcn
      have HB := Lib.hid (And.intro hb (And.intro hn0 hcn))
      clear hb hlt hk hcn hn0 hkl
      go_wp2_with fail
      go_ret
      exact ⟨⟨n, rfl, HB.out.2.1, HB.out.2.2⟩, HB.out.1⟩
end Go.Proofs.YtilbbemdinpjcaaGreat.P
namespace Go.Proofs.YtilbbemdinpjcaaGreat.P
set_option maxRecDepth 100000
open Go.RowKit Go.Sort

def cntT (l : List To) : Nat := (l.map fun a => 1 + a.nm.2.length / 16).sum
theorem cntT_take {l : List To} {k : Nat} {a : To} (h : l[k]? = some a) : cntT (l.take (k + 1)) = cntT (l.take k) + (1 + a.nm.2.length / 16) := by
  unfold cntT
  rw [List.take_add_one, h, List.map_append, List.sum_append]
  simp
set_option maxHeartbeats 4000000 in
theorem totalsX_any (w : World) (pa : Option Addr) (l : List To) (c : Nat) (lim : Int) (h : RowT w pa l) (hlim : lim ≤ 1000000) :
    Calls Tryz.prog 44 #[.slice pa l.length c, .int .i64 lim] w fun e w' => CntRes (cntT l) lim 600000000000000000 e ∧ Below w.heap.size w w' := by
  have hli : (l.length : Int) ≤ 9223372036854775807 := by have := h.1; unfold maxLen at this; omega
  have H := Lib.hid (And.intro h hlim)
  clear h hlim
  go_enter Tryz.func44, Tryz.ntmps44
  go_wp2_with fail
  go_loopw [5, 6] (fun s i W => ∃ (k n : Nat), k ≤ l.length ∧ s = .int .i64 n ∧ i = .int .i64 k ∧ Below w.heap.size w W ∧ n = cntT (l.take k) ∧ (n : Int) ≤ 600000000000000000) (fun _ i _ => l.length - (intOf i).toNat)
  case atStart => exact ⟨0, 0, Nat.zero_le _, rfl, rfl, Below.refl _ _, rfl, by omega⟩
  case round =>
    obtain ⟨k, n, hk, rfl, rfl, hb, hcn, hn0⟩ := hrel
    by_cases hlt : k < l.length
    · have m1 : (k : Int) < (l.length : Int) := by omega
      have m0 : (0 : Int) ≤ (k : Int) := by omega
      by_cases hn : (n : Int) ≤ lim
      · obtain ⟨g, off, rfl, hg, hh⟩ := H.out.1.2.2 (by omega)
        obtain ⟨a, ha⟩ : ∃ a, a = l[k] := ⟨_, rfl⟩
        have hka : l[k]? = some a := by rw [ha, List.getElem?_eq_getElem hlt]
        have oka := H.out.1.2.1 a (List.mem_of_getElem? hka)
        have c32 := (hh.below hb hg) k a hka 32 (.string (txt a.nm.2)) (by rw [Array.getElem?_toList]; exact toC_txt a oka.1)
        have hts := txt_size a.nm.2
        have ht := oka.2
        have hl := H.out.2
        have hnx : n + (1 + (txt a.nm.2).size / 16) = cntT (l.take (k + 1)) := by rw [cntT_take hka, ← hcn, hts]
        generalize txt a.nm.2 = tv at c32 hts hnx
        have hti : (tv.size : Int) ≤ 9223372036854775807 := by unfold maxLen at ht; omega
        obtain ⟨z, hz⟩ : ∃ z, z = tv.size / 16 := ⟨_, rfl⟩
        have hzl : z ≤ 576460752303423488 := by omega
        have hdiv : Int.tdiv (tv.size : Int) 16 = (z : Int) := by rw [hz]; rfl
        have hw1 : IntKind.i64.wrap ((n : Int) + 1) = (n : Int) + 1 := by rw [IntKind.wrap_i64]; omega
        have hwz : IntKind.i64.wrap (z : Int) = (z : Int) := by rw [IntKind.wrap_i64]; omega
        have hw2 : IntKind.i64.wrap ((n : Int) + 1 + (z : Int)) = (n : Int) + 1 + (z : Int) := by rw [IntKind.wrap_i64]; omega
        rw [← hz] at hnx
        have hnl : ((n + (1 + z) : Nat) : Int) ≤ 600000000000000000 := by omega
        have HR := Lib.hid (And.intro hb (And.intro hlt (And.intro hnx hnl)))
        clear ha hka oka hg hh hb hlt hk hts ht hcn hl hz hzl hnx hn0 hnl
        go_wp2_with fail
        have e1 : (k : Int) + 1 = ((k + 1 : Nat) : Int) := by omega
        have e2 : (n : Int) + 1 + (z : Int) = ((n + (1 + z) : Nat) : Int) := by omega
        rw [e1, e2]
        refine ⟨⟨k + 1, n + (1 + z), HR.out.2.1, rfl, rfl, HR.out.1, HR.out.2.2.1, HR.out.2.2.2⟩, ?_⟩
        have h := HR.out.2.1
        show l.length - (k + 1) < l.length - k
        omega
      · have HB := Lib.hid (And.intro hb (And.intro hn0 hn))
        clear hb hlt hk hcn hn0
        go_wp2_with fail
        go_ret
        exact ⟨⟨n, rfl, HB.out.2.1, fun h => absurd h (by have := HB.out.2.2; omega)⟩, HB.out.1⟩
    · have m1 : ¬ (k : Int) < (l.length : Int) := by omega
      have hkl : k = l.length := by omega
      subst hkl
      rw [List.take_length] at hcn
      have HB := Lib.hid (And.intro hb (And.intro hn0 hcn))
      clear hb hlt hk hcn hn0
      go_wp2_with fail
      go_ret
      exact ⟨⟨n, rfl, HB.out.2.1, fun _ => HB.out.2.2⟩, HB.out.1⟩
end Go.Proofs.YtilbbemdinpjcaaGreat.P
namespace Go.Proofs.YtilbbemdinpjcaaGreat.P
set_option maxRecDepth 100000
open Go.RowKit Go.Sort

def cntD (s m : List En) (n : Nat) : Nat := 1 + cntE s + cntE m + n
theorem RowER.below {B : Nat} {w w' : World} {pa : Option Addr} {es : List En} (h : RowER w pa es) (hb : Below B w w') (hB : w.heap.size ≤ B) : RowER w' pa es :=
  ⟨h.1, fun h0 => by
    obtain ⟨g, off, h1, h2, h3⟩ := h.2 h0
    exact ⟨g, off, h1, Nat.lt_of_lt_of_le h2 hb.size, h3.below hb (Nat.lt_of_lt_of_le h2 hB) hB⟩⟩
set_option maxHeartbeats 1000000 in
theorem diffOf_any (w : World) (p1 p2 p3 : Option Addr) (s m : List En) (n c1 c2 c3 : Nat) (fe fo : Int) (lim : Nat) (hlim : lim ≤ 1000000) (h1 : RowER w p1 s) (h2 : RowER w p2 m) (h3 : n ≤ 140737488355328) :
    Calls Tryz.prog 46 #[.agg #[.slice p1 s.length c1, .slice p2 m.length c2, .int .i64 fe, .int .i64 fo, .slice p3 n c3], .int .i64 (lim : Int)] w fun e w' => CntRes (cntD s m n) lim 3000000000000000000 e ∧ Below w.heap.size w w' := by
  obtain ⟨ov, hov⟩ : ∃ v : Array Value, v = #[.slice p1 s.length c1, .slice p2 m.length c2, .int .i64 fe, .int .i64 fo, .slice p3 n c3] := ⟨_, rfl⟩
  have hL : Lies (w.alloc (.cells ov 40)) w.heap.size ov 40 := Lies.new _ _ _
  have hb0 : Below w.heap.size w (w.alloc (.cells ov 40)) := (Below.refl _ _).alloc (Nat.le_refl _) _
  generalize hW : w.alloc (.cells ov 40) = W0 at hL hb0
  have HS : Hid (∀ V, Below W0.heap.size W0 V → V.cell? ⟨w.heap.size, 0, none⟩ = some (.slice p1 s.length c1) ∧ V.cell? ⟨w.heap.size, 1, none⟩ = some (.slice p2 m.length c2) ∧ V.cell? ⟨w.heap.size, 4, none⟩ = some (.slice p3 n c3)) := Lib.hid fun V hV => by
    have hl := hL.below hV hL.lt
    rw [hov] at hl
    exact ⟨hl.cell 0 rfl, hl.cell 1 rfl, hl.cell 4 rfl⟩
  have K1 : Hid (∀ V, Below W0.heap.size W0 V → Calls Tryz.prog 40 #[.slice p1 s.length c1, .int .i64 (lim : Int)] V fun e w' => CntRes (cntE s) lim 800000000000000000 e ∧ Below V.heap.size V w') := Lib.hid fun V hV => entriesOf_any V p1 s c1 lim hlim ((h1.below hb0 (Nat.le_refl _)).below hV (Nat.le_refl _))
  have K2 : Hid (∀ V, Below W0.heap.size W0 V → Calls Tryz.prog 40 #[.slice p2 m.length c2, .int .i64 (lim : Int)] V fun e w' => CntRes (cntE m) lim 800000000000000000 e ∧ Below V.heap.size V w') := Lib.hid fun V hV => entriesOf_any V p2 m c2 lim hlim ((h2.below hb0 (Nat.le_refl _)).below hV (Nat.le_refl _))
  have hnn : (n : Int) ≤ 1000000000000000000 := by omega
  have HB := Lib.hid (And.intro hb0 (And.intro hlim hnn))
  have HW := hW
  rw [← hov]
  clear hL hb0 hlim hW h1 h2 h3 hnn hov
  go_enter Tryz.func46, Tryz.ntmps46
  go_upto_region 1 with fail
  clear HW
  obtain ⟨g, hg⟩ : ∃ g, g = w.heap.size := ⟨_, rfl⟩
  rw [← hg] at HS ⊢
  clear hg
  refine wp_region_held (S := Below W0.heap.size W0) (by kernel_rfl) ?_
  change wpAnyH _ _ _ _ _ 15 _ _ (World.drew W0)
  have hcur : Below W0.heap.size W0 W0.drew := (Below.refl _ _).drew
  refine tk 0 (.pointer (some ⟨g, 0, none⟩)) 5 rfl rfl hcur ?_
  refine tk 1 (.slice p1 s.length c1) 6 rfl rfl hcur ?_ (by intro w' hS'; have x0 := (HS.out w' hS').1; unfold execOp; simp [go_sem, x0])
  refine tk 2 (.int .i64 (lim : Int)) 7 rfl rfl hcur ?_
  refine tk 5 (.pointer (some ⟨g, 1, none⟩)) 10 rfl rfl hcur ?_
  refine tk 6 (.slice p2 m.length c2) 11 rfl rfl hcur ?_ (by intro w' hS'; have x0 := (HS.out w' hS').2.1; unfold execOp; simp [go_sem, x0])
  refine tk 7 (.int .i64 (lim : Int)) 12 rfl rfl hcur ?_
  refine tk 10 (.pointer (some ⟨g, 4, none⟩)) 15 rfl rfl hcur ?_
  refine tk 11 (.slice p3 n c3) 16 rfl rfl hcur ?_ (by intro w' hS'; have x0 := (HS.out w' hS').2.2; unfold execOp; simp [go_sem, x0])
  refine tk 12 (.int .i64 (n : Int)) 17 rfl rfl hcur ?_ (by intro w' hS'; unfold execOp; simp [go_sem])
  generalize W0.drew = V0 at hcur ⊢
  refine held_one (i := 3) (by kernel_rfl) _ rfl (wpOp_callG rfl (by rfl) 8 rfl 40 #[.slice p1 s.length c1, .int .i64 (lim : Int)] (by unfold execOp; simp [go_sem]) (fun v w' => ∃ n : Nat, v = .int .i64 (n : Int) ∧ (n : Int) ≤ 800000000000000000 ∧ ((n : Int) ≤ (lim : Int) → n = cntE s) ∧ Below V0.heap.size V0 w') ((K1.out V0 hcur).mono fun e w' k => by obtain ⟨⟨n, h1, h2, h3⟩, h4⟩ := k; exact ⟨_, h1, n, rfl, h2, h3, h4⟩) ?_)
  rintro _ U1 ⟨x, rfl, hn1, hn2, hn⟩
  have hcur := hcur.trans (hn.mono hcur.size)
  clear hn
  refine ⟨hcur, ?_⟩
  simp only [Act.put, List.setIfInBounds_toArray, List.set_cons_zero, List.set_cons_succ]
  have hw0 : IntKind.i64.wrap (1 + (x : Int)) = 1 + (x : Int) := by rw [IntKind.wrap_i64]; omega
  refine tk 4 (.int .i64 (1 + (x : Int))) 9 rfl rfl hcur ?_ (by intro w' hS'; unfold execOp; simp [go_sem, hw0])
  refine held_one (i := 8) (by kernel_rfl) _ rfl (wpOp_callG rfl (by rfl) 13 rfl 40 #[.slice p2 m.length c2, .int .i64 (lim : Int)] (by unfold execOp; simp [go_sem]) (fun v w' => ∃ n : Nat, v = .int .i64 (n : Int) ∧ (n : Int) ≤ 800000000000000000 ∧ ((n : Int) ≤ (lim : Int) → n = cntE m) ∧ Below U1.heap.size U1 w') ((K2.out U1 hcur).mono fun e w' k => by obtain ⟨⟨n, h1, h2, h3⟩, h4⟩ := k; exact ⟨_, h1, n, rfl, h2, h3, h4⟩) ?_)
  rintro _ U2 ⟨r, rfl, hr1, hr2, hn⟩
  have hcur := hcur.trans (hn.mono hcur.size)
  clear hn
  refine ⟨hcur, ?_⟩
  simp only [Act.put, List.setIfInBounds_toArray, List.set_cons_zero, List.set_cons_succ]
  have hnn := HB.out.2.2
  have hw1 : IntKind.i64.wrap (1 + (x : Int) + (r : Int)) = 1 + (x : Int) + (r : Int) := by rw [IntKind.wrap_i64]; omega
  have hw2 : IntKind.i64.wrap (1 + (x : Int) + (r : Int) + (n : Int)) = 1 + (x : Int) + (r : Int) + (n : Int) := by rw [IntKind.wrap_i64]; omega
  refine tk 9 (.int .i64 (1 + (x : Int) + (r : Int))) 14 rfl rfl hcur ?_ (by intro w' hS'; unfold execOp; simp [go_sem, hw1])
  refine tk 13 (.int .i64 (1 + (x : Int) + (r : Int) + (n : Int))) 18 rfl rfl hcur ?_ (by intro w' hS'; unfold execOp; simp [go_sem, hw2])
  refine tk 14 (.int .i64 (1 + (x : Int) + (r : Int) + (n : Int))) 4 rfl rfl hcur ?_
  refine held_done (by kernel_rfl) ?_
  have HN := Lib.hid (And.intro hn1 (And.intro hn2 (And.intro hr1 (And.intro hr2 (And.intro hnn (HB.out.1.trans (hcur.mono HB.out.1.size)))))))
  clear hw0 hw1 hw2 hn1 hn2 hr1 hr2 hcur hnn
  go_wp2_with fail
  go_ret
  refine ⟨⟨1 + x + r + n, ret_i (by simp), ?_, ?_⟩, HN.out.2.2.2.2.2⟩
  · have h1 := HN.out.1; have h2 := HN.out.2.2.1; have h3 := HN.out.2.2.2.2.1; omega
  · intro hh
    have h1 := HN.out.2.1 (by omega)
    have h2 := HN.out.2.2.2.1 (by omega)
    unfold cntD
    omega
end Go.Proofs.YtilbbemdinpjcaaGreat.P
namespace Go.Proofs.YtilbbemdinpjcaaGreat.W
open Go.RowKit

def B8 (l : List UInt8) : Array Value := (l.map fun b => Value.int .u8 b.toNat).toArray

theorem B8_size (l : List UInt8) : (B8 l).size = l.length := by simp [B8]
theorem B8_get (l : List UInt8) (i : Nat) (h : i < l.length) : (B8 l)[i]? = some (.int .u8 (l.getD i 0).toNat) := by
  simp [B8, h]
theorem B8_set (l : List UInt8) (i : Nat) (b : UInt8) : (B8 l).setIfInBounds i (.int .u8 b.toNat) = B8 (l.set i b) := by
  simp [B8, List.map_set]

/-- A block of cells that stands whole in a world. -/
def Lies (w : World) (g : Nat) (cs : Array Value) (t : TypeId) : Prop := w.heap[g]? = some (.cells cs t (0, 0))

theorem Lies.cell {w : World} {g : Nat} {cs : Array Value} {t : TypeId} (h : Lies w g cs t) (j : Nat) {v : Value} (hv : cs[j]? = some v) : w.cell? ⟨g, j, none⟩ = some v :=
  (cell_of_row w g j cs t (0, 0) h).trans hv
theorem Lies.free {w : World} {g : Nat} {cs : Array Value} {t : TypeId} (h : Lies w g cs t) (j : Nat) : w.frozen? ⟨g, j, none⟩ = false :=
  frozen_of_row w g j cs t h
theorem Lies.drew {w : World} {g : Nat} {cs : Array Value} {t : TypeId} (h : Lies w g cs t) : Lies w.drew g cs t := h
theorem Lies.alloc {w : World} {g : Nat} {cs : Array Value} {t : TypeId} (h : Lies w g cs t) (o : Obj) : Lies (w.alloc o) g cs t :=
  (Below.heap_alloc w o g (Array.getElem?_eq_some_iff.1 h).1).trans h
theorem Lies.lt {w : World} {g : Nat} {cs : Array Value} {t : TypeId} (h : Lies w g cs t) : g < w.heap.size := (Array.getElem?_eq_some_iff.1 h).1
theorem Lies.set {w : World} {g : Nat} {cs : Array Value} {t : TypeId} (h : Lies w g cs t) (j : Nat) (v : Value) : Lies (w.setCell ⟨g, j, none⟩ v) g (cs.setIfInBounds j v) t :=
  heap_setCell_same w g j cs t v h
theorem Lies.other {w : World} {g : Nat} {cs : Array Value} {t : TypeId} (h : Lies w g cs t) (a : Addr) (v : Value) (hne : g ≠ a.block) : Lies (w.setCell a v) g cs t :=
  (heap_setCell_other w a g v hne).trans h
theorem Lies.below {B : Nat} {w w' : World} {g : Nat} {cs : Array Value} {t : TypeId} (h : Lies w g cs t) (hb : Below B w w') (hg : g < B) : Lies w' g cs t :=
  (hb.block g hg).trans h
theorem Lies.new (w : World) (cs : Array Value) (t : TypeId) : Lies (w.alloc (.cells cs t)) w.heap.size cs t := heap_alloc_new w _

theorem size_set (w : World) (a : Addr) (v : Value) : (w.setCell a v).heap.size = w.heap.size := by simp [World.setCell]

theorem B8_one (l : List UInt8) : (B8 l).all (·.oneCell') = true := by
  rw [Array.all_eq_true_iff_forall_mem]; intro v hv; simp [B8] at hv; obtain ⟨_, _, rfl⟩ := hv; rfl
theorem Lies.setRow {w : World} {g : Nat} {cs : Array Value} {t : TypeId} (h : Lies w g cs t) (cs' : Array Value) : Lies (w.setRow g cs') g cs' t := setRow_heap w g cs cs' t _ h
theorem Lies.setRowOther {w : World} {g : Nat} {cs : Array Value} {t : TypeId} (h : Lies w g cs t) (k : Nat) (cs' : Array Value) (hne : g ≠ k) : Lies (w.setRow k cs') g cs t := (setRow_other w k g cs' hne).trans h
theorem below_setRow {B : Nat} {a w : World} (h : Below B a w) (g : Nat) (cs : Array Value) (hg : B ≤ g) : Below B a (w.setRow g cs) :=
  h.trans ⟨rfl, rfl, rfl, by simp, fun k hk => setRow_other w g k cs (by omega)⟩

theorem grown_set {w wr : World} {b : Nat} (h : w.grownBy wr (some b)) (j : Nat) (v : Value) : w.grownBy (wr.setCell ⟨b, j, none⟩ v) (some b) :=
  ⟨h.os, h.tape, h.output, by rw [size_set]; exact h.size, fun k hk hne => (heap_setCell_other wr _ k v (fun e => hne (by rw [e]))).trans (h.block k hk hne)⟩
theorem grown_drewN {w wr : World} {o : Option Nat} (h : w.grownBy wr o) (q : Nat) : w.grownBy (wr.drewN q) o := ⟨h.os, h.tape, h.output, h.size, h.block⟩
theorem grown_drew {w wr : World} {o : Option Nat} (h : w.grownBy wr o) : w.grownBy wr.drew o := ⟨h.os, h.tape, h.output, h.size, h.block⟩
theorem grown_trans {w w1 w2 : World} {b : Nat} (h : w.grownBy w1 (some b)) (k : w1.grownBy w2 (some b)) : w.grownBy w2 (some b) :=
  ⟨k.os.trans h.os, k.tape.trans h.tape, k.output.trans h.output, Nat.le_trans h.size k.size, fun i hi hne => (k.block i (Nat.lt_of_lt_of_le hi h.size) hne).trans (h.block i hi hne)⟩
theorem grown_below {w w' : World} (h : Below w.heap.size w w') (o : Option Nat) : w.grownBy w' o := ⟨h.os, h.tape, h.output, h.size, fun k hk _ => h.block k hk⟩
theorem grown_refl (w : World) (o : Option Nat) : w.grownBy w o := ⟨rfl, rfl, rfl, Nat.le_refl _, fun _ _ _ => rfl⟩
theorem Lies.grown {w w' : World} {g b : Nat} {cs : Array Value} {t : TypeId} (h : Lies w g cs t) (hb : w.grownBy w' (some b)) (hne : g ≠ b) : Lies w' g cs t :=
  (hb.block g h.lt (fun e => hne (Option.some.inj e))).trans h
theorem own_kept {w w' : World} {base : Nat} {e : TypeId} {size n : Nat} {u : Value} {xs : List Value} {o : Option Nat} (h : w.ownsRow base e size u n xs) (hg : w.grownBy w' o) (hne : ∀ g, u.ownBlock = some g → o ≠ some g) :
    w'.ownsRow base e size u n xs := by
  refine ⟨h.1, ?_⟩
  rcases h.2 with hn | ⟨g, cap, cur, h1, h2, h3, h4⟩
  · exact .inl hn
  · exact .inr ⟨g, cap, cur, h1, h2, (hg.block g (Array.getElem?_eq_some_iff.1 h3).1 (fun e => hne g (by rw [h1]; rfl) e.symm)).trans h3, h4⟩
theorem own_lt {w : World} {base : Nat} {e : TypeId} {size n : Nat} {u : Value} {xs : List Value} (h : w.ownsRow base e size u n xs) {g : Nat} (hu : u.ownBlock = some g) : g < w.heap.size := by
  rcases h.2 with ⟨rfl, _⟩ | ⟨g2, cap, cur, rfl, h2, h3, h4⟩
  · simp [Value.ownBlock] at hu
  · obtain rfl : g2 = g := by simpa [Value.ownBlock] using hu
    exact (Array.getElem?_eq_some_iff.1 h3).1
/-- The two lie in two blocks, or in none. -/
def Apart (v u : Value) : Prop := ∀ g, v.ownBlock = some g → u.ownBlock ≠ some g
theorem Apart.symm {v u : Value} (h : Apart v u) : Apart u v := fun g h1 h2 => h g h2 h1
theorem Apart.grown {v v' u : Value} {B : Nat} (h : Apart v u) (hat : v'.ownBlock = v.ownBlock ∨ v'.ownBlock = some B) (hlt : ∀ g, u.ownBlock = some g → g < B) : Apart v' u := by
  intro g h1 h2
  rcases hat with e | e
  · exact h g (e ▸ h1) h2
  · have := hlt g h2
    rw [e] at h1
    have := Option.some.inj h1
    omega
end Go.Proofs.YtilbbemdinpjcaaGreat.W
namespace Go.Proofs.YtilbbemdinpjcaaGreat.W
open Go.RowKit

theorem info53 : (Tryz.prog.info? 127).isSome = true := by kernel_rfl
theorem eql_self (w : World) (a : Addr) : (binOp .eql 125 (.pointer (some a)) (.pointer (some a))).run Tryz.prog w = .ok (.bool true) w := by
  obtain ⟨i, hi⟩ := Option.isSome_iff_exists.1 info53
  exact run_eql_ptr_same (tp := 125) (te := 127) w a Tryz.underlying125 hi
theorem eql_none (w : World) (a : Addr) : (binOp .eql 125 (.pointer none) (.pointer (some a))).run Tryz.prog w = .ok (.bool false) w := by
  have h : ∀ d : Nat, (Op.equalIn (d + 1) 125 (.pointer none) (.pointer (some a))).run Tryz.prog w = .ok false w := fun d => by
    simp [Op.equalIn, run_underlying (P := Tryz.prog) Tryz.underlying125]
  simp only [binOp]
  simp [Op.equal, Op.maxDepth, h 9999]

set_option maxRecDepth 100000 in
theorem begin_any (w : World) (g : Nat) (v : Value) (h : w.cell? ⟨g, 0, none⟩ = some v) (hf : w.frozen? ⟨g, 0, none⟩ = false) (h1 : v.oneCell' = true) :
    Calls Tryz.prog 86 #[.pointer (some ⟨g, 0, none⟩)] w fun e w' => e = .returned (.tuple #[]) ∧ w' = w.setCell ⟨g, 0, none⟩ (.pointer (some ⟨g, 0, none⟩)) := by
  go_enter Tryz.func86, Tryz.ntmps86
  go_wp2
  go_end0
  exact ⟨rfl, rfl⟩
set_option maxRecDepth 100000 in
theorem answered_self (w : World) (g : Nat) (h : w.cell? ⟨g, 0, none⟩ = some (.pointer (some ⟨g, 0, none⟩))) :
    Calls Tryz.prog 103 #[.pointer (some ⟨g, 0, none⟩)] w fun e w' => e = .returned (.bool true) ∧ w = w' := by
  have he := eql_self w ⟨g, 0, none⟩
  go_enter Tryz.func103, Tryz.ntmps103
  go_wp2
  go_ret
  exact ⟨rfl, rfl⟩
set_option maxRecDepth 100000 in
theorem answered_none (w : World) (g : Nat) (h : w.cell? ⟨g, 0, none⟩ = some (.pointer none)) :
    Calls Tryz.prog 103 #[.pointer (some ⟨g, 0, none⟩)] w fun e w' => e = .returned (.bool false) ∧ w = w' := by
  have he := eql_none w ⟨g, 0, none⟩
  go_enter Tryz.func103, Tryz.ntmps103
  go_wp2
  go_ret
  exact ⟨rfl, rfl⟩
set_option maxRecDepth 100000 in
theorem sound_self (w : World) (g : Nat) (sp : Bool) (h : w.cell? ⟨g, 0, none⟩ = some (.pointer (some ⟨g, 0, none⟩))) (hs : w.cell? ⟨g, 1, none⟩ = some (.bool sp)) :
    Calls Tryz.prog 174 #[.pointer (some ⟨g, 0, none⟩)] w fun e w' => e = .returned (.bool (!sp)) ∧ w = w' := by
  have he := answered_self w g h
  go_enter Tryz.func174, Tryz.ntmps174
  go_wp2_with fail
  refine he.mono ?_
  rintro e w' ⟨rfl, rfl⟩
  clear he
  go_wp2_with fail
  go_ret
  exact ⟨rfl, rfl⟩
set_option maxRecDepth 100000 in
theorem sound_none (w : World) (g : Nat) (h : w.cell? ⟨g, 0, none⟩ = some (.pointer none)) :
    Calls Tryz.prog 174 #[.pointer (some ⟨g, 0, none⟩)] w fun e w' => e = .returned (.bool false) ∧ w = w' := by
  have he := answered_none w g h
  go_enter Tryz.func174, Tryz.ntmps174
  go_wp2_with fail
  refine he.mono ?_
  rintro e w' ⟨rfl, rfl⟩
  clear he
  go_wp2_with fail
  go_ret
  exact ⟨rfl, rfl⟩
set_option maxRecDepth 100000 in
theorem spoil_any (w : World) (g : Nat) (v : Value) (h : w.cell? ⟨g, 1, none⟩ = some v) (hf : w.frozen? ⟨g, 1, none⟩ = false) (h1 : v.oneCell' = true) :
    Calls Tryz.prog 202 #[.pointer (some ⟨g, 0, none⟩)] w fun e w' => e = .returned (.tuple #[]) ∧ w' = w.setCell ⟨g, 1, none⟩ (.bool true) := by
  go_enter Tryz.func202, Tryz.ntmps202
  go_wp2
  go_end0
  exact ⟨rfl, rfl⟩

/-! ## A writer: its own place, whether it is spoilt, its bytes -/
/-- 'takes': no writer takes nothing. -/
theorem takes_nil (w : World) : Calls Tryz.prog 201 #[.pointer none] w fun e w' => e = .returned (.bool false) ∧ w = w' := by
  go_enter Tryz.func201, Tryz.ntmps201
  go_wp2
  go_ret
  exact ⟨rfl, rfl⟩
set_option maxRecDepth 100000 in
theorem takes_self (w : World) (g : Nat) (sp : Bool) (h : w.cell? ⟨g, 0, none⟩ = some (.pointer (some ⟨g, 0, none⟩))) (hs : w.cell? ⟨g, 1, none⟩ = some (.bool sp)) :
    Calls Tryz.prog 201 #[.pointer (some ⟨g, 0, none⟩)] w fun e w' => e = .returned (.bool (!sp)) ∧ w = w' := by
  have he := sound_self w g sp h hs
  go_enter Tryz.func201, Tryz.ntmps201
  go_wp2_with fail
  refine he.mono ?_
  rintro e w' ⟨rfl, rfl⟩
  clear he
  go_wp2_with fail
  go_ret
  exact ⟨rfl, rfl⟩
set_option maxRecDepth 100000 in
theorem takes_none (w : World) (g : Nat) (h : w.cell? ⟨g, 0, none⟩ = some (.pointer none)) :
    Calls Tryz.prog 201 #[.pointer (some ⟨g, 0, none⟩)] w fun e w' => e = .returned (.bool false) ∧ w = w' := by
  have he := sound_none w g h
  go_enter Tryz.func201, Tryz.ntmps201
  go_wp2_with fail
  refine he.mono ?_
  rintro e w' ⟨rfl, rfl⟩
  clear he
  go_wp2_with fail
  go_ret
  exact ⟨rfl, rfl⟩
end Go.Proofs.YtilbbemdinpjcaaGreat.W
