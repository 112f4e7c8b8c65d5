/-
  Rows of elements of several cells that grow, in memory of the call's own.
-/
import Derived.Test.YtilbbemdinpjcaaGreatJVz
import Derived.Maps.Range
import Derived.Deep.AppendLies
import Derived.Deep.WholeRow
import Derived.Great.BuildSlice
namespace Go.Proofs.YtilbbemdinpjcaaGreat
set_option maxRecDepth 100000
open Go.RowKit Go.Sort Go.Maps

theorem mapM_inv {α β : Type} {f : α → Option β} : ∀ {is : List α} {ls : List β}, is.mapM f = some ls → ∀ i, i ∈ is → ∃ y, f i = some y
  | [], _, _, i, hi => by simp at hi
  | j :: is, ls, h, i, hi => by
    rw [List.mapM_cons] at h
    simp only [bind, Option.bind_eq_some_iff, pure, Option.some.injEq] at h
    obtain ⟨y, hy, ys, hys, _⟩ := h
    rcases List.mem_cons.1 hi with rfl | hi
    · exact ⟨y, hy⟩
    · exact mapM_inv hys i hi
theorem lit8_inv {d : Nat} {cs : List Value} {l : List Lit} (h : Tryz.prog.keyLits (d + 1) 5 cs = some l) : ∃ b : UInt8, cs = [.int .u8 b.toNat] := by
  unfold Program.keyLits at h
  rw [Tryz.underlying5] at h
  split at h
  all_goals first
    | (rename_i q q' n hq
       split at h
       · rename_i hw
         simp only [Option.some.injEq, TypeDesc.int.injEq] at hq
         obtain ⟨rfl, hw⟩ := hw
         subst hq
         have h2 : (decide ((0 : Int) ≤ n) && decide (n ≤ 255)) = true := hw
         rw [Bool.and_eq_true_iff, decide_eq_true_iff, decide_eq_true_iff] at h2
         refine ⟨UInt8.ofNat n.toNat, ?_⟩
         have : ((UInt8.ofNat n.toNat).toNat : Int) = n := by simp; omega
         rw [this]
       · cases h)
    | (simp_all; done)
theorem litT_inv {d : Nat} {cs : List Value} {l : List Lit} (h : Tryz.prog.keyLits (d + 1) 9 cs = some l) : ∃ t : List UInt8, t.length ≤ maxLen ∧ cs = [.string (txt t)] := by
  unfold Program.keyLits at h
  rw [Tryz.underlying9] at h
  split at h
  all_goals first
    | (rename_i q sx hq
       split at h
       · rename_i hw
         refine ⟨sx.data.toList, ?_, ?_⟩
         · rw [Array.length_toList]; exact hw
         · show _ = [Value.string ⟨sx.data.toList.toArray⟩]
           rw [Array.toArray_toList]
       · cases h)
    | (simp_all; done)
theorem litsH_inv {d : Nat} {cs : List Value} {l : List Lit} (h : Tryz.prog.keyLits (d + 2) 30 cs = some l) : ∃ p : List UInt8, p.length = 32 ∧ cs = (B8 p).toList := by
  unfold Program.keyLits at h
  simp only [Tryz.underlying30, cells26, cells5] at h
  split at h
  · rename_i hl
    rw [Option.map_eq_some_iff] at h
    obtain ⟨ls, hm, _⟩ := h
    have hall : ∀ i, i < 32 → ∃ b : UInt8, cs[i]? = some (.int .u8 b.toNat) := fun i hi => by
      obtain ⟨y, hy⟩ := mapM_inv hm i (List.mem_range.2 hi)
      obtain ⟨b, hb⟩ := lit8_inv hy
      refine ⟨b, ?_⟩
      rw [Nat.mul_one, List.drop_eq_getElem_cons (by omega), List.take_succ_cons, List.take_zero] at hb
      rw [List.getElem?_eq_getElem (by omega)]
      simpa using hb
    let g : Nat → UInt8 := fun i => if hi : i < 32 then Classical.choose (hall i hi) else 0
    have hg : ∀ i, i < 32 → cs[i]? = some (.int .u8 (g i).toNat) := fun i hi => by
      show cs[i]? = some (.int .u8 (if hi : i < 32 then Classical.choose (hall i hi) else 0 : UInt8).toNat)
      rw [dif_pos hi]
      exact Classical.choose_spec (hall i hi)
    refine ⟨(List.range 32).map g, by simp, List.ext_getElem? fun i => ?_⟩
    by_cases hi : i < 32
    · rw [hg i hi, Array.getElem?_toList, B8_get _ i (by simpa using hi)]
      simp [hi]
    · rw [List.getElem?_eq_none (by omega), List.getElem?_eq_none (by rw [Array.length_toList, B8_size]; simp; omega)]
  · cases h
theorem lits_inv {d : Nat} {cs : Array Value} {l : List Lit} (h : Tryz.prog.keyLits (d + 3) 255 cs.toList = some l) : ∃ n : Nm, n.1.length = 32 ∧ n.2.length ≤ maxLen ∧ cs = nmC n := by
  unfold Program.keyLits at h
  simp only [Tryz.underlying255, cells68] at h
  split at h
  · rename_i hl
    rw [Option.map_eq_some_iff] at h
    obtain ⟨ls, hm, _⟩ := h
    obtain ⟨y0, h0⟩ := mapM_inv hm _ (by simp; exact .inl rfl)
    obtain ⟨y1, h1⟩ := mapM_inv hm _ (by simp; exact .inr rfl)
    simp only [cells26, cells9, List.drop_zero] at h0 h1
    obtain ⟨p, hp, e0⟩ := litsH_inv h0
    obtain ⟨t, ht, e1⟩ := litT_inv h1
    refine ⟨(p, t), hp, ht, ?_⟩
    apply Array.ext'
    have hd : cs.toList.drop 32 = [Value.string (txt t)] := by
      rw [← e1, List.take_of_length_le (by rw [List.length_drop]; omega)]
    rw [← List.take_append_drop 32 cs.toList, e0, hd]
    simp [nmC]
  · cases h
theorem key_inv {v : Value} {kl : Lit} (h : keyOf Tryz.prog 255 v = some kl) : ∃ n : Nm, n.1.length = 32 ∧ n.2.length ≤ maxLen ∧ v = .agg (nmC n) ∧ kl = kN n := by
  obtain ⟨d, hd⟩ : ∃ d, Tryz.prog.types.size + 1 = d + 3 := ⟨Tryz.prog.types.size - 2, by have : 2 ≤ Tryz.prog.types.size := of_decide_eq_true (by kernel_rfl); omega⟩
  have h' := h
  unfold keyOf at h
  rw [Tryz.underlying255] at h
  simp only at h
  split at h
  · rename_i hf
    rw [Option.map_eq_some_iff] at h
    obtain ⟨ls, hl, _⟩ := h
    rw [hd] at hl
    have hform := (Bool.and_eq_true_iff.1 hf).2
    cases v with
    | agg cs =>
      obtain ⟨n, hn, ht, rfl⟩ := lits_inv hl
      refine ⟨n, hn, ht, rfl, ?_⟩
      rw [key_nm n hn ht] at h'
      exact (Option.some.inj h').symm
    | _ => simp [Value.formed, Tryz.underlying255] at hform
  · cases h
/-- A name that may stand in the map. -/
abbrev OkNm := {n : Nm // n.1.length = 32 ∧ n.2.length ≤ maxLen}
def mkK (n : OkNm) : Value := .agg (nmC n.1)
theorem invK (key : Value) (kl : Lit) (h : keyOf Tryz.prog 255 key = some kl) : ∃ n : OkNm, key = mkK n := by
  obtain ⟨n, hn, ht, e, _⟩ := key_inv h
  exact ⟨⟨n, hn, ht⟩, e⟩
theorem invV (v : Value) (y : DataW Unit × List MemPlace) (h : rdW v = some y) : ∃ c, v = wv c := by
  unfold rdW at h
  split at h
  · rename_i hh
    exact hh
  · cases h
/-- What comes up at a step of the range: a name, what the map holds of it. -/
theorem next_is {D : DataW Unit} {f : Nm → BitVec 128} (hf : HoldsF D f) {n : OkNm} {c : BitVec 128} {kl : Lit} {y : DataW Unit × List MemPlace} (hk : keyOf Tryz.prog 255 (mkK n) = some kl) (hy : rdW (wv c) = some y) (hat : ∀ zd, D.atKey kl zd = y.1) : kl = kN n.1 ∧ c = f n.1 := by
  have h1 := key_nm n.1 n.2.1 n.2.2
  unfold mkK at hk
  rw [h1] at hk
  obtain rfl := Option.some.inj hk
  have h2 := hat (dW 0)
  rw [hf n.1 n.2.1 n.2.2] at h2
  rw [rdW_wv] at hy
  obtain rfl := Option.some.inj hy
  exact ⟨rfl, (dW_inj h2).symm⟩
end Go.Proofs.YtilbbemdinpjcaaGreat
namespace Go.Proofs.YtilbbemdinpjcaaGreat
set_option maxRecDepth 100000
open Go.RowKit Go.Sort Go.Maps

section
variable {α : Type} (enc : α → Array Value) (k : Nat)
def cellsF (l : List α) : List Value := l.flatMap fun a => (enc a).toList
theorem cellsF_cons (a : α) (l : List α) : cellsF enc (a :: l) = (enc a).toList ++ cellsF enc l := rfl
theorem cellsF_app (l m : List α) : cellsF enc (l ++ m) = cellsF enc l ++ cellsF enc m := by simp [cellsF]
theorem cellsF_len : ∀ (l : List α), (∀ a, a ∈ l → (enc a).size = k) → (cellsF enc l).length = l.length * k
  | [], _ => by simp [cellsF]
  | a :: l, h => by
    rw [cellsF_cons, List.length_append, Array.length_toList, h a (by simp), cellsF_len l fun b hb => h b (by simp [hb]), List.length_cons, Nat.succ_mul, Nat.add_comm]
theorem cellsF_get : ∀ (l : List α), (∀ a, a ∈ l → (enc a).size = k) → ∀ (i : Nat) (a : α), l[i]? = some a → ∀ j, j < k → (cellsF enc l)[i * k + j]? = (enc a)[j]?
  | [], _, i, a, h, _, _ => by simp at h
  | b :: l, hs, 0, a, h, j, hj => by
    simp only [List.getElem?_cons_zero, Option.some.injEq] at h
    subst h
    have hl : (enc b).toList.length = k := by rw [Array.length_toList]; exact hs b (by simp)
    rw [cellsF_cons, Nat.zero_mul, Nat.zero_add, List.getElem?_append_left (by rw [hl]; exact hj), Array.getElem?_toList]
  | b :: l, hs, i + 1, a, h, j, hj => by
    simp only [List.getElem?_cons_succ] at h
    have hl : (enc b).toList.length = k := by rw [Array.length_toList]; exact hs b (by simp)
    rw [cellsF_cons, List.getElem?_append_right (by rw [hl, Nat.succ_mul]; omega), hl, show (i + 1) * k + j - k = i * k + j by rw [Nat.succ_mul]; omega]
    exact cellsF_get l (fun c hc => hs c (by simp [hc])) i a h j hj
theorem cellsF_one (l : List α) (h : ∀ a, a ∈ l → (enc a).all (·.oneCell') = true) : ∀ u ∈ cellsF enc l, u.oneCell' = true := by
  intro u hu
  obtain ⟨a, ha, h2⟩ := List.mem_flatMap.1 hu
  have := h a ha
  rw [Array.all_eq_true_iff_forall_mem] at this
  exact this u (Array.mem_toList_iff.1 h2)
/-- What a row of the call's own looks like. -/
theorem own_at {w : World} {B : Nat} {e : TypeId} {v : Value} {l : List α} (hs : ∀ a, a ∈ l → (enc a).size = k) (h : w.ownsRow B e k v l.length (cellsF enc l)) :
    (v = .slice none 0 0 ∧ l = []) ∨ ∃ g cap, v = .slice (some ⟨g, 0, none⟩) l.length cap ∧ B ≤ g ∧ g < w.heap.size ∧ l.length ≤ cap ∧ (∀ (i : Nat) (a : α), l[i]? = some a → w.rangeAt g (0 + i * k) (enc a).toList) ∧ ∀ j, w.frozen? ⟨g, j, none⟩ = false := by
  rcases h.2 with ⟨h1, h2⟩ | ⟨g, cap, cur, h1, h2, h3, h4, h5, h6, h7⟩
  · exact .inl ⟨h1, List.eq_nil_of_length_eq_zero h2⟩
  · have hl : Lies w g cur e := h3
    refine .inr ⟨g, cap, h1, h2, hl.lt, h4, fun i a ha j v hv => ?_, fun j => hl.free j⟩
    have hj : j < k := by
      have := (List.getElem?_eq_some_iff.1 hv).1
      rw [Array.length_toList, hs a (List.mem_of_getElem? ha)] at this
      exact this
    have hi : i < l.length := (List.getElem?_eq_some_iff.1 ha).1
    rw [Array.getElem?_toList] at hv
    have h8 : (cellsF enc l)[i * k + j]? = some v := by rw [cellsF_get enc k l hs i a ha j hj]; exact hv
    have hm : i * k + j < l.length * k := by
      have : (i + 1) * k ≤ l.length * k := Nat.mul_le_mul_right k hi
      rw [Nat.succ_mul] at this
      omega
    rw [← h7, List.getElem?_take, if_pos hm] at h8
    rw [show 0 + i * k + j = i * k + j by omega]
    exact hl.cell (i * k + j) (by simpa using h8)
theorem src_one {w : World} {g : Nat} {t : TypeId} {a : α} (h : Lies w g (enc a) t) : ∀ j u, (cellsF enc [a])[j]? = some u → w.cell? ((⟨g, 0, none⟩ : Addr).add j) = some u := fun j u hu => by
  have : (enc a)[j]? = some u := by
    rw [cellsF_cons] at hu
    simpa [cellsF] using hu
  have h2 := h.cell j this
  have e : (⟨g, 0, none⟩ : Addr).add j = ⟨g, j, none⟩ := by cases j <;> simp [Addr.add]
  rw [e]; exact h2
end
theorem info48 : (Tryz.prog.info? 150).map (fun i => (i.zero.map (·.cells.size), i.size, i.bytes)) = some (some 35, 35, 64) := by kernel_rfl
theorem info54 : (Tryz.prog.info? 146).map (fun i => (i.zero.map (·.cells.size), i.size, i.bytes)) = some (some 34, 34, 56) := by kernel_rfl
theorem info_parts {P : Program} {t : TypeId} {k b : Nat} (h : (P.info? t).map (fun i => (i.zero.map (·.cells.size), i.size, i.bytes)) = some (some k, k, b)) : ∃ i z, P.info? t = some i ∧ i.zero = some z ∧ i.size = k ∧ i.bytes = b ∧ z.cells.size = k := by
  cases hi : P.info? t with
  | none => rw [hi] at h; simp at h
  | some i =>
    rw [hi] at h
    simp only [Option.map_some, Option.some.injEq, Prod.mk.injEq] at h
    obtain ⟨h1, h2, h3⟩ := h
    cases hz : i.zero with
    | none => rw [hz] at h1; simp at h1
    | some z =>
      rw [hz] at h1
      exact ⟨i, z, rfl, hz, h2, h3, by simpa using h1⟩
/-- A row of totals where another block is written. -/
theorem RowT.but {w w' : World} {pa : Option Addr} {l : List To} (h : RowT w pa l) {r : Option Nat} (hg : w.grownBy w' r) (hne : ∀ g off, pa = some ⟨g, off, none⟩ → 0 < l.length → some g ≠ r) : RowT w' pa l :=
  ⟨h.1, h.2.1, fun hl => by
    obtain ⟨g, off, e, hlt, hh⟩ := h.2.2 hl
    exact ⟨g, off, e, Nat.lt_of_lt_of_le hlt hg.size, fun i a hi j v hv => hg.cell (hh i a hi j v hv) (hne g off e hl)⟩⟩
theorem grown_setRow (w : World) (g : Nat) (cs : Array Value) : w.grownBy (w.setRow g cs) (some g) := ⟨rfl, rfl, rfl, by simp, fun k _ hk => setRow_other w g k cs (fun e => hk (by rw [e]))⟩
theorem RowT.setRow {w : World} {pa : Option Addr} {l : List To} (h : RowT w pa l) (b : Nat) (cs' : Array Value) {cs : Array Value} {t : TypeId} (hl : Lies w b cs t) (hlt : cs.size ≤ 34) : RowT (w.setRow b cs') pa l :=
  h.but (grown_setRow w b cs') (fun g off e h0 heq => by
    have hgb : g = b := Option.some.inj heq
    obtain ⟨g', off', e', _, hh⟩ := h.2.2 h0
    rw [e] at e'
    cases e'
    subst hgb
    obtain ⟨a, ha⟩ : ∃ a, l[0]? = some a := ⟨l[0], List.getElem?_eq_getElem h0⟩
    have hc := hh 0 a ha 34 _ (by rw [Array.getElem?_toList]; exact toC_lo a (h.2.1 a (List.mem_of_getElem? ha)).1)
    rw [cell_of_row w g _ cs t (0, 0) hl, Array.getElem?_eq_none (by omega)] at hc
    cases hc)
theorem setRow_alloc1 (w : World) (o : Obj) (B : Array Value) (u : TypeId) (cv : Array Value) : ((w.alloc o).alloc (.cells B u)).setRow (w.heap.size + 1) cv = (w.alloc o).alloc (.cells cv u) := by
  have h := World.setRow_alloc_new (w.alloc o) B cv u
  simpa using h
theorem setRow_alloc2 (w : World) (A : Array Value) (t : TypeId) (o : Obj) (nv : Array Value) : ((w.alloc (.cells A t)).alloc o).setRow w.heap.size nv = (w.alloc (.cells nv t)).alloc o := by
  have e : (((w.alloc (.cells A t)).alloc o).setRow w.heap.size nv).heap = ((w.alloc (.cells nv t)).alloc o).heap := by
    apply Array.ext_getElem?
    intro i
    by_cases hi : i = w.heap.size
    · subst hi
      have h1 : Lies (w.alloc (.cells A t)) w.heap.size A t := Lies.new _ _ _
      have h2 : Lies (w.alloc (.cells nv t)) w.heap.size nv t := Lies.new _ _ _
      exact ((h1.alloc o).setRow nv).trans (h2.alloc o).symm
    · rw [setRow_other _ _ _ _ hi]
      show ((w.heap.push _).push o)[i]? = ((w.heap.push _).push o)[i]?
      simp [Array.getElem?_push, hi]
  show ({ ((w.alloc (.cells A t)).alloc o) with heap := (((w.alloc (.cells A t)).alloc o).setRow w.heap.size nv).heap } : World) = _
  rw [e]
  rfl
theorem run_slice1 {P : Program} (w : World) (t e : TypeId) (k b : Nat) (cs : Array Value) (hu : P.underlying t = some (.slice e)) (hi : (P.info? e).map (fun i => (i.zero.map (·.cells.size), i.size, i.bytes)) = some (some k, k, b)) (hk : 0 < k) (hk2 : k ≤ 1000) (hc : cs.size = k) :
    (Instr.buildSlice t 1 #[(0, .agg cs)]).run P w = .ok (.slice (some ⟨w.heap.size, 0, none⟩) 1 1) (w.alloc (.cells cs e)) := by
  obtain ⟨i, z, h1, h2, h3, h4, h5⟩ := info_parts hi
  refine run_buildSlice w t e 1 _ cs i z hu h1 h2 (by rw [h3]; omega) (by rw [h3]; omega) ?_
  rw [h3]
  have h := Great.fill_whole hk [Value.agg cs] ((Array.range (1 * k)).map (z.cells[· % z.cells.size]!)) (by simpa [Value.cells] using hc) (by simp)
  simpa [Value.cells] using h
theorem built_total (a : To) (h : a.nm.1.length = 32) : Tryz.prog.built 150 [(0, .agg (B8 a.nm.1)), (1, .string (txt a.nm.2)), (2, .agg #[.int .i64 (hiS a.w), .int .u64 (loN a.w)])] = some (toC a) := by
  obtain ⟨⟨p, t⟩, x⟩ := a
  obtain ⟨a0, a1, a2, a3, a4, a5, a6, a7, a8, a9, a10, a11, a12, a13, a14, a15, a16, a17, a18, a19, a20, a21, a22, a23, a24, a25, a26, a27, a28, a29, a30, a31, rfl⟩ := list32 p h
  kernel_rfl
theorem built_asset (a : As) (h : a.nm.1.length = 32) : Tryz.prog.built 146 [(0, .agg (B8 a.nm.1)), (1, .string (txt a.nm.2)), (2, .int .i64 a.amt)] = some (asC a) := by
  obtain ⟨⟨p, t⟩, x⟩ := a
  obtain ⟨a0, a1, a2, a3, a4, a5, a6, a7, a8, a9, a10, a11, a12, a13, a14, a15, a16, a17, a18, a19, a20, a21, a22, a23, a24, a25, a26, a27, a28, a29, a30, a31, rfl⟩ := list32 p h
  kernel_rfl
/-- An append, at a step of a region that draws. -/
theorem wpOp_append {P : Program} {ops : Array Oper} {Q : Exit → Act → World → Prop} {j : Nat} {o : Oper} {a : Act} {w : World} {K : Act → World → Prop} (hj : ops[j]? = some o) (hgd : o.guard = none) (d : Tmp) (hd : o.dst = some d) (s x : Operand) (t : TypeId)
    (ho : o.op = .call { callee := .builtin .append, args := #[s, x], argTypes := #[t, t] })
    (base : Nat) (e : TypeId) (size bytes : Nat) (ht : P.underlying t = some (.slice e)) (hi : (P.info? e).map (fun i => (i.zero.map (·.cells.size), i.size, i.bytes)) = some (some size, size, bytes)) (hsz : 0 < size)
    (v : Value) (n : Nat) (xs : List Value) (hs : a.eval s = v) (hown : w.ownsRow base e size v n xs)
    (ad : Addr) (m c : Nat) (news : List Value) (hx : a.eval x = .slice (some ad) m c) (hl : news.length = m * size) (hnews : ∀ j u, news[j]? = some u → w.cell? (ad.add j) = some u) (h1 : ∀ u ∈ news, u.oneCell' = true)
    (hm : 0 < m) (h63 : n + m ≤ maxLen) (hbytes : (n + m) * bytes ≤ 140737488355328) (hbase : base ≤ w.heap.size)
    (h : ∀ g cap w', w'.ownsRow base e size (.slice (some ⟨g, 0, none⟩) (n + m) cap) (n + m) (xs ++ news) → w.grownBy w' v.ownBlock → (v.ownBlock = some g ∨ g = w.heap.size) → g < w'.heap.size → K (a.put (some d) (.slice (some ⟨g, 0, none⟩) (n + m) cap)) w') : wpOp P ops Q j K a w := by
  obtain ⟨i0, z0, hi0, hz0, hz1, hz2, hz3⟩ := info_parts hi
  exact wpOp_wp hj hgd (wp_append_lies w s x t ho base e i0 z0 size bytes ht hi0 hz0 hz1 hz2 hz3 hsz v n xs hs hown ad m c news hx hl hnews h1 hm h63 hbytes hbase _ rfl (by rw [hd]; exact h))
/-- Totals, assets in memory of the call's own. -/
def OwnTo (w : World) (B : Nat) (v : Value) (l : List To) : Prop := w.ownsRow B 150 35 v l.length (cellsF toC l)
def OwnAs (w : World) (B : Nat) (v : Value) (l : List As) : Prop := w.ownsRow B 146 34 v l.length (cellsF asC l)
theorem OwnTo.row {w : World} {B : Nat} {v : Value} {l : List To} (h : OwnTo w B v l) (ho : ∀ a, a ∈ l → ToOk a) (hl : l.length ≤ maxLen) : ∃ pa c, v = .slice pa l.length c ∧ RowT w pa l := by
  rcases own_at toC 35 (fun a ha => toC_size a (ho a ha).1) h with ⟨h1, rfl⟩ | ⟨g, cap, h1, h2, h3, h4, h5, _⟩
  · exact ⟨none, 0, h1, hl, ho, fun h => absurd h (by simp)⟩
  · exact ⟨_, cap, h1, hl, ho, fun _ => ⟨g, 0, rfl, h3, h5⟩⟩
theorem OwnAs.row {w : World} {B : Nat} {v : Value} {l : List As} (h : OwnAs w B v l) (ho : ∀ a, a ∈ l → AsOk a) (hl : l.length ≤ maxLen) : ∃ pa c, v = .slice pa l.length c ∧ Row w pa l := by
  rcases own_at asC 34 (fun a ha => asC_size a (ho a ha).1) h with ⟨h1, rfl⟩ | ⟨g, cap, h1, h2, h3, h4, h5, _⟩
  · exact ⟨none, 0, h1, hl, ho, fun h => absurd h (by simp)⟩
  · exact ⟨_, cap, h1, hl, ho, fun _ => ⟨g, 0, rfl, h3, h5⟩⟩
theorem ownsRow_below {w w' : World} {B : Nat} {e : TypeId} {k n : Nat} {v : Value} {xs : List Value} (h : w.ownsRow B e k v n xs) (hb : Below w.heap.size w w') : w'.ownsRow B e k v n xs :=
  h.kept (grown_of (r := none) hb) (by
    cases hv : v.ownBlock
    · exact .inl rfl
    · exact .inr (by simp))
theorem ownsRow_far {w : World} {B : Nat} {e : TypeId} {k n : Nat} {v : Value} {xs : List Value} (h : w.ownsRow B e k v n xs) {g : Nat} {cs : Array Value} {t : TypeId} (hg : Lies w g cs t) (hne : t ≠ e) : some g ≠ v.ownBlock := by
  rcases h.2 with ⟨h1, _⟩ | ⟨g', cap, cur, h1, h2, h3, _⟩
  · rw [h1]; exact fun e => by cases e
  · rw [h1]
    intro e'
    have e2 : g = g' := Option.some.inj e'
    subst e2
    unfold Lies at hg
    rw [h3] at hg
    simp only [Option.some.injEq, Obj.cells.injEq] at hg
    exact hne hg.2.1.symm
theorem ownsRow_new {w : World} {B : Nat} {e : TypeId} {k n : Nat} {v : Value} {xs : List Value} (h : w.ownsRow B e k v n xs) : v.ownBlock ≠ some w.heap.size := by
  rcases h.2 with ⟨h1, _⟩ | ⟨g', cap, cur, h1, h2, h3, _⟩
  · rw [h1]; exact fun e => by cases e
  · rw [h1]
    intro e'
    have e2 : g' = w.heap.size := Option.some.inj e'
    have := (Array.getElem?_eq_some_iff.1 h3).1
    omega
theorem lies_grown {w w' : World} {r : Option Nat} {g : Nat} {cs : Array Value} {t : TypeId} (hg : w.grownBy w' r) (h : Lies w g cs t) (hn : some g ≠ r) : Lies w' g cs t := (hg.block g h.lt hn).trans h
end Go.Proofs.YtilbbemdinpjcaaGreat
