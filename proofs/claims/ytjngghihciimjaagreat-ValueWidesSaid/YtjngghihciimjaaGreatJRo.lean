/-
  Rows of elements of whatever sort that are marked, grown and looked at: what a world holds of them. An append to a row: where it grows, the old row stays as it was.
  The document's own sums: totals that rise, one more put in its place; those that are not 0.
  The document's own order of names.
  The kit's marks: mark (120), markText (121), markAsset (65), markValue (64).
-/
import Derived.Test.YtjngghihciimjaaGreatJVj
import Derived.Test.YtjngghihciimjaaGreatJVto
import Derived.Deep.MidRow
import Derived.IntWalk
import Derived.Test.YtjngghihciimjaaGreatJVe
import Derived.Test.YtjngghihciimjaaGreatJVor
import Derived.Laws.IdiomStrings
import Derived.Test.YtjngghihciimjaaGreatJVx
import Derived.Test.YtjngghihciimjaaGreatJVcc
namespace Go.Proofs.YtjngghihciimjaaGreat
open Go.RowKit

theorem run_append_keepE {P : Program} (w : World) (B : Nat) (t ty e : TypeId) (sz bytes : Nat) (ht : P.underlying t = some (.slice e)) (hinf : (P.info? e).map (fun i => (i.zero.map (·.cells.size), i.size, i.bytes)) = some (some sz, sz, bytes))
    (a : Option Addr) (n d : Nat) (xs : List Value) (hown : w.ownsRow B e sz (.slice a n d) n xs)
    (ad : Addr) (m c : Nat) (news : List Value) (hl : news.length = m * sz) (hnews : ∀ j u, news[j]? = some u → w.cell? (ad.add j) = some u) (h1 : ∀ u ∈ news, u.oneCell' = true)
    (hm : 0 < m) (h63 : n + m ≤ maxLen) (hbytes : (n + m) * bytes ≤ 140737488355328) (hbase : B ≤ w.heap.size) :
    ∃ g' c' w', (Builtin.append_ #[t, t] ty #[.slice a n d, .slice (some ad) m c]).run P w = .ok (.slice (some ⟨g', 0, none⟩) (n + m) c') w' ∧
      w'.ownsRow B e sz (.slice (some ⟨g', 0, none⟩) (n + m) c') (n + m) (xs ++ news) ∧ ((a = some ⟨g', 0, none⟩ ∧ c' = d ∧ w.grownBy w' (some g')) ∨ (g' = w.heap.size ∧ Below w.heap.size w w')) := by
  obtain ⟨i, z, hi, hz, hsize, hby, hzs⟩ := info_parts hinf
  clear hinf
  subst hsize
  subst hby
  have hsmall : n + m ≤ 9223372036854775807 := by simp only [maxLen] at h63; omega
  have hlen : (xs ++ news).length = (n + m) * i.size := by rw [List.length_append, hown.1, hl, Nat.add_mul]
  rcases hown.2 with ⟨h, h0⟩ | ⟨g2, cap2, cur, heq, hbg, hg, hnc, hcm, hcs, htake⟩
  · obtain ⟨rfl, rfl, rfl⟩ : a = none ∧ n = 0 ∧ d = 0 := by simp at h; exact ⟨h.1, h.2.1, h.2.2⟩
    have hx : xs = [] := List.eq_nil_of_length_eq_zero (by simpa using hown.1)
    subst hx
    simp only [Nat.zero_add] at hsmall hlen h63 hbytes ⊢
    have hr := run_append_nil (P := P) w t ty e i z ht hi hz ad m c news hl hnews hm (by omega) (by omega)
    have hge := grownCap_ge w m 0 e
    have hcm' : grownCap w m 0 e ≤ maxLen := grownCap_le_maxLen w m 0 e h63
    refine ⟨_, _, _, hr, ⟨hlen, .inr ⟨w.heap.size, _, _, rfl, hbase, heap_alloc_new w.drew _, hge, hcm', ?_, ?_⟩⟩, .inr ⟨rfl, (Below.refl _ _).drew.alloc (Nat.le_refl _) _⟩⟩
    · simp only [Array.size_append, List.size_toArray, size_zeroCells, hzs, hl, ← Nat.add_mul]
      congr 1
      omega
    · simp only [Array.toList_append, List.nil_append]
      rw [show m * i.size = news.length from hl.symm]
      exact List.take_left
  · obtain ⟨rfl, rfl⟩ : a = some ⟨g2, 0, none⟩ ∧ d = cap2 := by simp at heq; exact ⟨heq.1, heq.2⟩
    by_cases hroom : n + m ≤ d
    · have hfit : n * i.size + news.length ≤ cur.size := by rw [hl, hcs, ← Nat.add_mul]; exact Nat.mul_le_mul_right _ hroom
      have hr := run_append_room (P := P) w t ty e i ht hi g2 n d cur hg ad m c news hl hnews h1 hroom hfit
      refine ⟨_, _, _, hr, ⟨hlen, .inr ⟨g2, d, _, rfl, hbg, setRow_heap w g2 cur _ e _ hg, hroom, hcm, ?_, ?_⟩⟩, .inl ⟨rfl, rfl, ⟨rfl, rfl, rfl, by simp, fun k _ hk => setRow_other w g2 k _ (fun e => hk (by simp [e]))⟩⟩⟩
      · simp only [List.size_toArray, List.length_append, List.length_take, List.length_drop, Array.length_toList]
        omega
      · rw [htake, ← hlen]
        exact List.take_left
    · have holds : ∀ j u, xs[j]? = some u → w.cell? ((⟨g2, 0, none⟩ : Addr).add j) = some u := hown.cells (g := g2) rfl
      have hr := run_append_grow (P := P) w t ty e i z ht hi hz ⟨g2, 0, none⟩ n d xs hown.1 holds ad m c news hl hnews (by omega) (by omega) (growslice_fits (by omega) hbytes)
      have hge := grownCap_ge w (n + m) d e
      have hcm' : grownCap w (n + m) d e ≤ maxLen := grownCap_le_maxLen w (n + m) d e h63
      refine ⟨_, _, _, hr, ⟨hlen, .inr ⟨w.heap.size, _, _, rfl, hbase, heap_alloc_new w.drew _, hge, hcm', ?_, ?_⟩⟩, .inr ⟨rfl, (Below.refl _ _).drew.alloc (Nat.le_refl _) _⟩⟩
      · simp only [Array.size_append, List.size_toArray, size_zeroCells, hzs, hown.1, hl, ← Nat.add_mul]
        congr 1
        omega
      · simp only [Array.toList_append, List.append_assoc]
        rw [← List.append_assoc, ← hlen]
        exact List.take_left

theorem lies_setCells {g : Nat} {t : TypeId} : ∀ (vs : List Value) (o : Nat) (w : World) (cs : Array Value), Lies w g cs t → ∃ cs', Lies (w.setCells g o vs) g cs' t ∧ cs'.size = cs.size
  | [], _, _, cs, h => ⟨cs, h, rfl⟩
  | v :: r, o, w, cs, h => by
    obtain ⟨cs', h1, h2⟩ := lies_setCells r (o + 1) (w.setCell ⟨g, o, none⟩ v) _ (h.set o v)
    exact ⟨cs', h1, h2.trans (by simp)⟩
theorem lies_setCells_other {g g' : Nat} {t : TypeId} {cs : Array Value} (hne : g ≠ g') : ∀ (vs : List Value) (o : Nat) (w : World), Lies w g cs t → Lies (w.setCells g' o vs) g cs t
  | [], _, _, h => h
  | v :: r, o, w, h => lies_setCells_other hne r (o + 1) _ (h.other ⟨g', o, none⟩ v hne)
theorem below_setCellsA {B b : Nat} {a : World} (hb : B ≤ b) : ∀ (vs : List Value) (o : Nat) (w : World), Below B a w → Below B a (w.setCells b o vs)
  | [], _, _, h => h
  | v :: r, o, w, h => below_setCellsA hb r (o + 1) _ (h.setCell (p := ⟨b, o, none⟩) (by exact hb) v)
theorem size_setCellsA (b : Nat) : ∀ (vs : List Value) (o : Nat) (w : World), (w.setCells b o vs).heap.size = w.heap.size
  | [], _, _ => rfl
  | v :: r, o, w => (size_setCellsA b r (o + 1) _).trans (size_set _ _ _)
theorem heap_setCellsA (g : Nat) {i : Nat} (hne : i ≠ g) : ∀ (vs : List Value) (o : Nat) (w : World), (w.setCells g o vs).heap[i]? = w.heap[i]?
  | [], _, _ => rfl
  | v :: r, o, w => (heap_setCellsA g hne r (o + 1) _).trans (heap_setCell_other w ⟨g, o, none⟩ i v hne)
theorem cell_block {w w' : World} {g : Nat} (h : w'.heap[g]? = w.heap[g]?) (j : Nat) : w'.cell? ⟨g, j, none⟩ = w.cell? ⟨g, j, none⟩ := by
  unfold World.cell?
  simp only [h]

section
variable {e : TypeId} {sz : Nat}
/-- A block with room for c elements. -/
def Blk (e : TypeId) (sz : Nat) (w : World) (g c : Nat) : Prop := ∃ cs, Lies w g cs e ∧ cs.size = c * sz
theorem Blk.lt {w : World} {g c : Nat} (h : Blk e sz w g c) : g < w.heap.size := by obtain ⟨cs, h, _⟩ := h; exact h.lt
theorem Blk.grown {w w' : World} {g c : Nat} {o : Option Nat} (h : Blk e sz w g c) (hg : w.grownBy w' o) (hne : o ≠ some g) : Blk e sz w' g c := by
  obtain ⟨cs, h1, h2⟩ := h
  exact ⟨cs, (hg.block g h1.lt (fun e => hne e.symm)).trans h1, h2⟩
theorem Blk.below {w w' : World} {g c B : Nat} (h : Blk e sz w g c) (hb : Below B w w') (hg : g < B) : Blk e sz w' g c := by
  obtain ⟨cs, h1, h2⟩ := h
  exact ⟨cs, h1.below hb hg, h2⟩
theorem Blk.setCells {w : World} {g c : Nat} (h : Blk e sz w g c) (o : Nat) (vs : List Value) : Blk e sz (w.setCells g o vs) g c := by
  obtain ⟨cs, h1, h2⟩ := h
  obtain ⟨cs', h3, h4⟩ := lies_setCells vs o w cs h1
  exact ⟨cs', h3, h4.trans h2⟩
theorem Blk.setOther {w : World} {g c g' : Nat} (h : Blk e sz w g c) (hne : g ≠ g') (o : Nat) (vs : List Value) : Blk e sz (w.setCells g' o vs) g c := by
  obtain ⟨cs, h1, h2⟩ := h
  exact ⟨cs, lies_setCells_other hne vs o w h1, h2⟩
theorem Blk.cellAt {w : World} {g c : Nat} (h : Blk e sz w g c) (j : Nat) (hj : j < c * sz) : ∃ v, w.cell? ⟨g, j, none⟩ = some v := by
  obtain ⟨cs, h1, h2⟩ := h
  exact ⟨cs[j]'(by omega), h1.cell j (Array.getElem?_eq_getElem (by omega))⟩
theorem mul_lt {i c sz j : Nat} (hi : i < c) (hj : j < sz) : i * sz + j < c * sz := by
  have := Nat.mul_le_mul_right sz hi
  rw [Nat.succ_mul] at this
  omega
theorem Blk.there {w : World} {g c : Nat} (h : Blk e sz w g c) (i : Nat) (hi : i < c) : w.there g (i * sz) sz := fun j hj => by
  obtain ⟨v, hv⟩ := h.cellAt (i * sz + j) (mul_lt hi hj)
  obtain ⟨cs, h1, _⟩ := h
  exact ⟨by rw [hv]; rfl, h1.free _⟩

/-- The first n elements of a block are those that f says. -/
def Has (sz : Nat) (w : World) (g n : Nat) (f : Nat → Array Value) : Prop := ∀ i, i < n → w.rangeAt g (i * sz) (f i).toList
theorem Has.block {w w' : World} {g n : Nat} {f : Nat → Array Value} (h : Has sz w g n f) (hk : w'.heap[g]? = w.heap[g]?) : Has sz w' g n f := fun i hi j v hv => by
  have := h i hi j v hv
  rw [← this]
  unfold World.cell?
  simp only [hk]
theorem Has.grown {w w' : World} {g n : Nat} {f : Nat → Array Value} {o : Option Nat} (h : Has sz w g n f) (hg : w.grownBy w' o) (hlt : g < w.heap.size) (hne : o ≠ some g) : Has sz w' g n f := h.block (hg.block g hlt (fun e => hne e.symm))
theorem Has.below {w w' : World} {g n B : Nat} {f : Nat → Array Value} (h : Has sz w g n f) (hb : Below B w w') (hg : g < B) : Has sz w' g n f := h.block (hb.block g hg)
theorem Has.mono {w : World} {g n m : Nat} {f : Nat → Array Value} (h : Has sz w g n f) (hm : m ≤ n) : Has sz w g m f := fun i hi => h i (by omega)
theorem Has.zero (w : World) (g : Nat) (f : Nat → Array Value) : Has sz w g 0 f := fun i hi => absurd hi (by omega)
theorem Has.congr {w : World} {g n : Nat} {f h : Nat → Array Value} (hh : Has sz w g n f) (he : ∀ i, i < n → f i = h i) : Has sz w g n h := fun i hi => by rw [← he i hi]; exact hh i hi
theorem Has.setOther {w : World} {g n g' : Nat} {f : Nat → Array Value} (h : Has sz w g n f) (hne : g ≠ g') (o : Nat) (vs : List Value) : Has sz (w.setCells g' o vs) g n f := fun i hi => World.rangeAt_setCells_apart (h i hi) _ _ _ (.inl hne)
/-- One more is marked. -/
theorem Has.step {w : World} {g n c : Nat} {f : Nat → Array Value} (h : Has sz w g n f) (hb : Blk e sz w g c) (hn : n < c) (hf : ∀ i, (f i).size = sz) : Has sz (w.setCells g (n * sz) (f n).toList) g (n + 1) f := fun i hi => by
  have hl : ∀ i, (f i).toList.length = sz := fun i => by rw [Array.length_toList, hf]
  by_cases he : i = n
  · subst he
    exact World.rangeAt_setCells_same _ _ _ _ (by rw [hl]; exact hb.there i hn)
  · refine World.rangeAt_setCells_apart (h i (by omega)) _ _ _ (.inr (.inl ?_))
    rw [hl]
    have := Nat.mul_le_mul_right sz (show i + 1 ≤ n by omega)
    rw [Nat.succ_mul] at this
    exact this
/-- f's first n elements in a row. -/
def flatC (f : Nat → Array Value) (n : Nat) : List Value := (List.range n).flatMap fun i => (f i).toList
theorem flatC_succ (f : Nat → Array Value) (n : Nat) : flatC f (n + 1) = flatC f n ++ (f n).toList := by simp [flatC, List.range_succ]
theorem flatC_length {f : Nat → Array Value} (hf : ∀ i, (f i).size = sz) : ∀ n, (flatC f n).length = n * sz
  | 0 => by simp [flatC]
  | n + 1 => by rw [flatC_succ, List.length_append, flatC_length hf n, Array.length_toList, hf, Nat.succ_mul]
theorem flatC_get {f : Nat → Array Value} (hf : ∀ i, (f i).size = sz) : ∀ n i j, i < n → j < sz → (flatC f n)[i * sz + j]? = (f i)[j]?
  | 0, _, _, h, _ => absurd h (by omega)
  | n + 1, i, j, h, hj => by
    rw [flatC_succ]
    by_cases he : i = n
    · subst he
      rw [List.getElem?_append_right (by rw [flatC_length hf]; omega), flatC_length hf, show i * sz + j - i * sz = j by omega, Array.getElem?_toList]
    · rw [List.getElem?_append_left (by rw [flatC_length hf]; exact mul_lt (by omega) hj)]
      exact flatC_get hf n i j (by omega) hj
theorem flatC_one {f : Nat → Array Value} (h1 : ∀ i, (f i).all (·.oneCell') = true) (n : Nat) : ∀ u ∈ flatC f n, u.oneCell' = true := by
  intro u hu
  obtain ⟨i, _, h2⟩ := List.mem_flatMap.1 hu
  have := h1 i
  rw [Array.all_eq_true_iff_forall_mem] at this
  exact this u (Array.mem_toList_iff.1 h2)
theorem flatC_add {f h : Nat → Array Value} (n : Nat) : ∀ m, flatC (fun i => if i < n then f i else h (i - n)) (n + m) = flatC f n ++ flatC h m
  | 0 => by
    unfold flatC
    simp only [Nat.add_zero, List.range_zero, List.flatMap_nil, List.append_nil]
    rw [List.flatMap_def, List.flatMap_def]
    congr 1
    refine List.map_congr_left fun i hi => ?_
    rw [if_pos (List.mem_range.1 hi)]
  | m + 1 => by
    rw [← Nat.add_assoc, flatC_succ, flatC_add n m, flatC_succ, List.append_assoc, if_neg (by omega), show n + m - n = m by omega]
/-- A row has what its list says. -/
theorem has_row {w : World} {B n g c : Nat} {f : Nat → Array Value} (hf : ∀ i, (f i).size = sz) (h : w.ownsRow B e sz (.slice (some ⟨g, 0, none⟩) n c) n (flatC f n)) : Has sz w g n f := fun i hi j v hv => by
  have hj : j < sz := by
    have := (List.getElem?_eq_some_iff.1 hv).1
    rwa [Array.length_toList, hf] at this
  have h1 := h.cells (g := g) rfl (i * sz + j) v (by rw [flatC_get hf n i j hi hj]; rwa [Array.getElem?_toList] at hv)
  rwa [Addr.add_mid, Nat.zero_add] at h1
theorem blk_row {w : World} {B n g c : Nat} {l : List Value} (h : w.ownsRow B e sz (.slice (some ⟨g, 0, none⟩) n c) n l) : Blk e sz w g c ∧ B ≤ g ∧ n ≤ c ∧ c ≤ maxLen := by
  rcases h.2 with ⟨e, _⟩ | ⟨g2, cap2, cur, e, hb, hg, h1, h2, h3, _⟩
  · cases e
  · obtain ⟨rfl, rfl⟩ : g2 = g ∧ cap2 = c := by simp at e; exact ⟨e.1.symm, e.2.symm⟩
    exact ⟨⟨cur, hg, h3⟩, hb, h1, h2⟩
theorem row_has {w : World} {B n g c : Nat} {f : Nat → Array Value} (hf : ∀ i, (f i).size = sz) (h0 : 0 < sz) (hb : Blk e sz w g c) (h : Has sz w g n f) (hB : B ≤ g) (hn : n ≤ c) (hc : c ≤ maxLen) : w.ownsRow B e sz (.slice (some ⟨g, 0, none⟩) n c) n (flatC f n) := by
  obtain ⟨cs, h1, h2⟩ := hb
  refine ⟨flatC_length hf n, .inr ⟨g, c, cs, rfl, hB, h1, hn, hc, h2, ?_⟩⟩
  have hle := Nat.mul_le_mul_right sz hn
  apply List.ext_getElem?
  intro j
  by_cases hj : j < n * sz
  · have hq : j / sz < n := Nat.div_lt_of_lt_mul (by rw [Nat.mul_comm]; exact hj)
    have hr : j % sz < sz := Nat.mod_lt _ h0
    have ej : j / sz * sz + j % sz = j := by rw [Nat.mul_comm]; exact Nat.div_add_mod j sz
    have e3 := flatC_get hf n (j / sz) (j % sz) hq hr
    rw [ej] at e3
    have hv : (f (j / sz))[j % sz]? = some ((f (j / sz))[j % sz]'(by rw [hf]; exact hr)) := Array.getElem?_eq_getElem _
    have e1 := h (j / sz) hq (j % sz) _ (by rw [Array.getElem?_toList]; exact hv)
    rw [ej] at e1
    have e2 := h1.cell j (Array.getElem?_eq_getElem (show j < cs.size by rw [h2]; omega))
    rw [List.getElem?_take_of_lt hj, Array.getElem?_toList, e3, hv, Array.getElem?_eq_getElem (show j < cs.size by rw [h2]; omega), ← e2, e1]
  · rw [List.getElem?_eq_none (by rw [List.length_take]; omega), List.getElem?_eq_none (by rw [flatC_length hf]; omega)]
theorem src_mark {W : World} {M n : Nat} {f : Nat → Array Value} (hf : ∀ i, (f i).size = sz) (h0 : 0 < sz) (h : Has sz W M n f) : ∀ j u, (flatC f n)[j]? = some u → W.cell? ((⟨M, 0, none⟩ : Addr).add j) = some u := fun j u hu => by
  have hj : j < n * sz := by
    have := (List.getElem?_eq_some_iff.1 hu).1
    rwa [flatC_length hf] at this
  have hq : j / sz < n := Nat.div_lt_of_lt_mul (by rw [Nat.mul_comm]; exact hj)
  have hr : j % sz < sz := Nat.mod_lt _ h0
  have ej : j / sz * sz + j % sz = j := by rw [Nat.mul_comm]; exact Nat.div_add_mod j sz
  have e3 := flatC_get hf n (j / sz) (j % sz) hq hr
  rw [ej, hu] at e3
  have e1 := h (j / sz) hq (j % sz) u (by rw [Array.getElem?_toList]; exact e3.symm)
  rw [ej] at e1
  rw [Addr.add_mid, Nat.zero_add]
  exact e1
theorem src_newE {W : World} {x : Array Value} : ∀ j u, x.toList[j]? = some u → (W.alloc (.cells x e)).cell? ((⟨W.heap.size, 0, none⟩ : Addr).add j) = some u := fun j u hu => by
  rw [Addr.add_mid, Nat.zero_add]
  exact (Lies.new W x e).cell j (by rwa [Array.getElem?_toList] at hu)

/-- Rows (the k-th of N k elements, where there is one in a block G k of the call's own, each in another one); a list of them. -/
structure Stt (w : World) (L B K : Nat) (A : Nat → Option Addr) (G N C : Nat → Nat) : Prop where
  lt : L < w.heap.size
  cell : ∀ k, k < K → w.cell? ⟨L, k, none⟩ = some (.slice (A k) (N k) (C k))
  ok : ∀ k, k < K → (A k = none ∧ N k = 0 ∧ C k = 0) ∨ (A k = some ⟨G k, 0, none⟩ ∧ N k ≤ C k ∧ C k ≤ maxLen ∧ B ≤ G k ∧ G k < w.heap.size ∧ G k ≠ L)
  few : ∀ k, k < K → N k ≤ 100000
  ne : ∀ i j, i < K → j < K → i ≠ j → A i ≠ none → A j ≠ none → G i ≠ G j
  bb : B ≤ w.heap.size
structure Bs (e : TypeId) (sz : Nat) (w W : World) (B K : Nat) (A : Nat → Option Addr) (G C : Nat → Nat) : Prop where
  below : Below B w W
  rest : ∀ g, g < w.heap.size → (∀ k, k < K → A k ≠ none → g ≠ G k) → W.heap[g]? = w.heap[g]?
  blk : ∀ k, k < K → A k ≠ none → Blk e sz W (G k) (C k)
section
variable {w W W' : World} {L B K : Nat} {A : Nat → Option Addr} {G N C : Nat → Nat}
theorem Stt.on (s : Stt w L B K A G N C) {k : Nat} (hk : k < K) (h : A k ≠ none) : A k = some ⟨G k, 0, none⟩ ∧ N k ≤ C k ∧ C k ≤ maxLen ∧ B ≤ G k ∧ G k < w.heap.size ∧ G k ≠ L := by
  rcases s.ok k hk with h1 | h1
  · exact absurd h1.1 h
  · exact h1
theorem Stt.pos (s : Stt w L B K A G N C) {k j : Nat} (hk : k < K) (h : j < N k) : A k ≠ none := fun e => by
  rcases s.ok k hk with h1 | h1
  · omega
  · rw [h1.1] at e; cases e
theorem Bs.size (h : Bs e sz w W B K A G C) : w.heap.size ≤ W.heap.size := h.below.size
theorem Bs.row (h : Bs e sz w W B K A G C) (s : Stt w L B K A G N C) : W.heap[L]? = w.heap[L]? := h.rest L s.lt (fun k hk ha => fun e => (s.on hk ha).2.2.2.2.2 e.symm)
theorem Bs.cell (h : Bs e sz w W B K A G C) (s : Stt w L B K A G N C) (k : Nat) (hk : k < K) : W.cell? ⟨L, k, none⟩ = some (.slice (A k) (N k) (C k)) := (cell_block (h.row s) k).trans (s.cell k hk)
theorem Bs.calls (h : Bs e sz w W B K A G C) (hB : B ≤ w.heap.size) (hb : Below W.heap.size W W') : Bs e sz w W' B K A G C :=
  ⟨h.below.trans (hb.mono (Nat.le_trans hB h.size)), fun g hg h0 => (hb.block g (Nat.lt_of_lt_of_le hg h.size)).trans (h.rest g hg h0), fun k hk ha => (h.blk k hk ha).below hb (h.blk k hk ha).lt⟩
theorem Bs.mark (h : Bs e sz w W B K A G C) (s : Stt w L B K A G N C) {k : Nat} (hk : k < K) (ha : A k ≠ none) (o : Nat) (vs : List Value) : Bs e sz w (W.setCells (G k) o vs) B K A G C := by
  refine ⟨below_setCellsA (s.on hk ha).2.2.2.1 vs o W h.below, fun g hg h0 => (heap_setCellsA (G k) (h0 k hk ha) vs o W).trans (h.rest g hg h0), fun i hi hai => ?_⟩
  by_cases e : i = k
  · subst e; exact (h.blk i hi hai).setCells o vs
  · exact (h.blk i hi hai).setOther (s.ne i k hi hk e hai ha) o vs
theorem Bs.there (h : Bs e sz w W B K A G C) (s : Stt w L B K A G N C) {k j : Nat} (hk : k < K) (hj : j < N k) : W.there (G k) (j * sz) sz := (h.blk k hk (s.pos hk hj)).there j (by have := (s.on hk (s.pos hk hj)).2.1; omega)
end
/-- What the list of the grown rows has at a place. -/
def cellS (N H D : Nat → Nat) (old : Nat → Value) (k i : Nat) : Value := if i < k then .slice (some ⟨H i, 0, none⟩) (N i + 64) (D i) else old i
/-- The first k rows are grown. -/
structure Ph (e eS : TypeId) (sz : Nat) (f : Nat → Nat → Array Value) (w W : World) (B K S : Nat) (M : Nat → Nat) (A : Nat → Option Addr) (G N C H D : Nat → Nat) (old : Nat → Value) (k : Nat) : Prop where
  bs : Bs e sz w W B K A G C
  has : ∀ i, i < K → Has sz W (G i) (N i) (f i)
  lies : ∃ cs, Lies W S cs eS ∧ cs.size = K ∧ ∀ i, i < K → cs[i]? = some (cellS N H D old k i)
  got : ∀ i, i < k → Has sz W (H i) (M i) (f i) ∧ H i < W.heap.size ∧ H i ≠ S ∧ ∀ j, j < K → A j ≠ none → j ≠ i → H i ≠ G j
section
variable {eS : TypeId} {f : Nat → Nat → Array Value} {w W W' : World} {L B K S : Nat} {M : Nat → Nat} {A : Nat → Option Addr} {G N C H D : Nat → Nat} {old : Nat → Value} {k : Nat}
theorem Ph.ltS (h : Ph e eS sz f w W B K S M A G N C H D old k) : S < W.heap.size := by obtain ⟨cs, h1, _⟩ := h.lies; exact h1.lt
theorem has_off {g : Nat} (s : Stt w L B K A G N C) {i : Nat} (hi : i < K) (h : ¬ A i ≠ none) : Has sz W' g (N i) (f i) := by
  have : N i = 0 := by
    rcases s.ok i hi with h1 | h1
    · exact h1.2.1
    · exact absurd (by rw [h1.1]; simp) h
  rw [this]
  exact Has.zero _ _ _
theorem Ph.calls (h : Ph e eS sz f w W B K S M A G N C H D old k) (s : Stt w L B K A G N C) (hb : Below W.heap.size W W') : Ph e eS sz f w W' B K S M A G N C H D old k :=
  ⟨h.bs.calls s.bb hb, fun i hi => by
      by_cases ha : A i ≠ none
      · exact (h.has i hi).below hb (h.bs.blk i hi ha).lt
      · exact has_off s hi ha,
    by obtain ⟨cs, h1, h2⟩ := h.lies; exact ⟨cs, h1.below hb h1.lt, h2⟩, fun i hi => ⟨(h.got i hi).1.below hb (h.got i hi).2.1, Nat.lt_of_lt_of_le (h.got i hi).2.1 hb.size, (h.got i hi).2.2⟩⟩
/-- One block is written, which is none of the others'. -/
theorem Ph.put (h : Ph e eS sz f w W B K S M A G N C H D old k) (s : Stt w L B K A G N C) {x : Nat} (hg : W.grownBy W' (some x)) (hk2 : k < K) (hX : (A k ≠ none ∧ x = G k) ∨ w.heap.size ≤ x) (hS : x ≠ S) (hG : ∀ i, i < K → A i ≠ none → i ≠ k → x ≠ G i) (hH : ∀ i, i < k → x ≠ H i)
    (hk : A k ≠ none → Blk e sz W' (G k) (C k) ∧ Has sz W' (G k) (N k) (f k)) : Ph e eS sz f w W' B K S M A G N C H D old k := by
  have hb := h.bs
  have hB : B ≤ x := by
    rcases hX with ⟨ha, rfl⟩ | e
    · exact (s.on hk2 ha).2.2.2.1
    · exact Nat.le_trans s.bb e
  have hne : ∀ g, g < w.heap.size → (∀ k, k < K → A k ≠ none → g ≠ G k) → some x ≠ some g := fun g hg h0 e => by
    have e := Option.some.inj e
    rcases hX with ⟨ha, q⟩ | q
    · exact h0 k hk2 ha (by rw [← e, q])
    · omega
  have hlt : ∀ i, i < K → A i ≠ none → G i < W.heap.size := fun i hi ha => (hb.blk i hi ha).lt
  refine ⟨⟨hb.below.grown hg (Nat.le_trans s.bb hb.size) (fun j e => by cases e; exact hB), fun g hgl h0 => (hg.block g (Nat.lt_of_lt_of_le hgl hb.size) (fun e => hne g hgl h0 e.symm)).trans (hb.rest g hgl h0), fun i hi ha => ?_⟩, fun i hi => ?_, ?_, fun i hi => ?_⟩
  · by_cases e : i = k
    · subst e; exact (hk ha).1
    · exact (hb.blk i hi ha).grown hg (fun q => hG i hi ha e (Option.some.inj q))
  · by_cases ha : A i ≠ none
    · by_cases e : i = k
      · subst e; exact (hk ha).2
      · exact (h.has i hi).grown hg (hlt i hi ha) (fun q => hG i hi ha e (Option.some.inj q))
    · exact has_off s hi ha
  · obtain ⟨cs, h1, h2⟩ := h.lies
    exact ⟨cs, (hg.block S h1.lt (fun e => hS (Option.some.inj e).symm)).trans h1, h2⟩
  · exact ⟨(h.got i hi).1.grown hg (h.got i hi).2.1 (fun q => hH i hi (Option.some.inj q)), Nat.lt_of_lt_of_le (h.got i hi).2.1 hg.size, (h.got i hi).2.2⟩
theorem grownBy_set (W : World) (S j : Nat) (v : Value) : W.grownBy (W.setCell ⟨S, j, none⟩ v) (some S) := grown_setCell W ⟨S, j, none⟩ v
/-- A grown row is laid at its place in the list. -/
theorem Ph.store (hp : Ph e eS sz f w W B K S M A G N C H D old k) (s : Stt w L B K A G N C) (hSW : w.heap.size ≤ S) (hSG : ∀ i, i < K → A i ≠ none → S ≠ G i) (hk : k < K) {h d : Nat} (hh : Has sz W h (M k) (f k)) (hlt : h < W.heap.size) (hS : h ≠ S) (hG : ∀ j, j < K → A j ≠ none → j ≠ k → h ≠ G j) :
    Ph e eS sz f w (W.setCell ⟨S, k, none⟩ (.slice (some ⟨h, 0, none⟩) (N k + 64) d)) B K S M A G N C (fun i => if i = k then h else H i) (fun i => if i = k then d else D i) old (k + 1) := by
  have hg := grownBy_set W S k (.slice (some ⟨h, 0, none⟩) (N k + 64) d)
  have hb := hp.bs
  refine ⟨⟨hb.below.setCell (p := ⟨S, k, none⟩) (Nat.le_trans s.bb hSW) _, fun g hgl h0 => (hg.block g (Nat.lt_of_lt_of_le hgl hb.size) (fun e => by have := Option.some.inj e; omega)).trans (hb.rest g hgl h0), fun i hi ha => (hb.blk i hi ha).grown hg (fun q => hSG i hi ha (Option.some.inj q))⟩, fun i hi => ?_, ?_, fun i hi => ?_⟩
  · by_cases ha : A i ≠ none
    · exact (hp.has i hi).grown hg (hb.blk i hi ha).lt (fun q => hSG i hi ha (Option.some.inj q))
    · exact has_off s hi ha
  · obtain ⟨cs, h1, h2, h3⟩ := hp.lies
    refine ⟨_, h1.set k _, by simp [h2], fun i hi => ?_⟩
    rw [Array.getElem?_setIfInBounds]
    by_cases e : k = i
    · subst e
      rw [if_pos rfl, if_pos (by omega)]
      simp [cellS]
    · rw [if_neg e, h3 i hi]
      unfold cellS
      by_cases hik : i < k
      · have q1 : i ≠ k := by omega
        simp [hik, q1, show i < k + 1 by omega]
      · have q1 : ¬ i < k + 1 := by omega
        simp [hik, q1]
  · by_cases e : i = k
    · subst e
      simp only [if_true]
      exact ⟨hh.grown hg hlt (fun q => hS (Option.some.inj q).symm), by rw [size_set]; exact hlt, hS, hG⟩
    · simp only [if_neg e]
      have hi' : i < k := by omega
      have q := hp.got i hi'
      exact ⟨q.1.grown hg q.2.1 (fun e => q.2.2.1 (Option.some.inj e).symm), by rw [size_set]; exact q.2.1, q.2.2⟩
theorem Ph.cell (h : Ph e eS sz f w W B K S M A G N C H D old K) (i : Nat) (hi : i < K) : W.cell? ⟨S, i, none⟩ = some (.slice (some ⟨H i, 0, none⟩) (N i + 64) (D i)) := by
  obtain ⟨cs, h1, h2, h3⟩ := h.lies
  have := h3 i hi
  rw [cellS, if_pos hi] at this
  exact h1.cell i this
theorem Ph.cellAt (h : Ph e eS sz f w W B K S M A G N C H D old k) (hk : k < K) : W.cell? ⟨S, k, none⟩ = some (old k) := by
  obtain ⟨cs, h1, h2, h3⟩ := h.lies
  have := h3 k hk
  rw [cellS, if_neg (by omega)] at this
  exact h1.cell k this
theorem Ph.free (h : Ph e eS sz f w W B K S M A G N C H D old k) (j : Nat) : W.frozen? ⟨S, j, none⟩ = false := by
  obtain ⟨cs, h1, _⟩ := h.lies
  exact h1.free j
/-- The list of the grown rows, where the rows are to be grown again. -/
theorem Ph.again (h : Ph e eS sz f w W B K S M A G N C H D old K) (M' H' D' : Nat → Nat) : Ph e eS sz f w W B K S M' A G N C H' D' (fun i => .slice (some ⟨H i, 0, none⟩) (N i + 64) (D i)) 0 := by
  refine ⟨h.bs, h.has, ?_, fun i hi => absurd hi (by omega)⟩
  obtain ⟨cs, h1, h2, h3⟩ := h.lies
  refine ⟨cs, h1, h2, fun i hi => ?_⟩
  rw [h3 i hi]
  simp [cellS, hi]
end
/-- The row at work: the k-th one has j more. -/
structure Gr (e eS : TypeId) (sz : Nat) (f : Nat → Nat → Array Value) (w W : World) (B K S : Nat) (M : Nat → Nat) (A : Nat → Option Addr) (G N C H D : Nat → Nat) (old : Nat → Value) (k j : Nat) (a : Option Addr) (h d : Nat) : Prop where
  ph : Ph e eS sz f w W B K S M A G N C H D old k
  row : W.ownsRow B e sz (.slice a (N k + j) d) (N k + j) (flatC (f k) (N k + j))
  is : a = none ∨ a = some ⟨h, 0, none⟩
  nS : a ≠ none → h ≠ S
  new : a ≠ none → (A k ≠ none ∧ h = G k) ∨ w.heap.size ≤ h
  nG : a ≠ none → ∀ i, i < K → A i ≠ none → i ≠ k → h ≠ G i
  nH : a ≠ none → ∀ i, i < k → h ≠ H i
  cap : a ≠ none → A k ≠ none → h = G k → d = C k
section
variable {eS : TypeId} {f : Nat → Nat → Array Value} {w W W' : World} {L B K S : Nat} {M : Nat → Nat} {A : Nat → Option Addr} {G N C H D : Nat → Nat} {old : Nat → Value} {k j h d : Nat} {a : Option Addr}
theorem Gr.calls (g : Gr e eS sz f w W B K S M A G N C H D old k j a h d) (s : Stt w L B K A G N C) (hb : Below W.heap.size W W') : Gr e eS sz f w W' B K S M A G N C H D old k j a h d :=
  ⟨g.ph.calls s hb, ownsRow_below g.row hb, g.is, g.nS, g.new, g.nG, g.nH, g.cap⟩
theorem Gr.start (p : Ph e eS sz f w W B K S M A G N C H D old k) (s : Stt w L B K A G N C) (hf : ∀ k i, (f k i).size = sz) (h0 : 0 < sz) (hk : k < K) (hSG : ∀ i, i < K → A i ≠ none → S ≠ G i) : Gr e eS sz f w W B K S M A G N C H D old k 0 (A k) (G k) (C k) := by
  rcases s.ok k hk with h1 | h1
  · refine ⟨p, ?_, .inl h1.1, fun e => absurd h1.1 e, fun e => absurd h1.1 e, fun e => absurd h1.1 e, fun e => absurd h1.1 e, fun e => absurd h1.1 e⟩
    rw [h1.1, h1.2.1, h1.2.2]
    exact World.ownsRow_nil _ _ _ _
  · have ha : A k ≠ none := by rw [h1.1]; simp
    refine ⟨p, ?_, .inr h1.1, fun _ e => hSG k hk ha e.symm, fun _ => .inl ⟨ha, rfl⟩, fun _ i hi hai hn => s.ne k i hk hi (fun e => hn e.symm) ha hai, fun _ i hi e => (p.got i hi).2.2.2 k hk ha (by omega) e.symm, fun _ _ _ => rfl⟩
    rw [h1.1]
    exact row_has (hf k) h0 (p.bs.blk k hk ha) (p.has k hk) h1.2.2.2.1 h1.2.1 h1.2.2.1
/-- Whether it grew or not: it has one more, and nothing else turned. -/
theorem Gr.step (g : Gr e eS sz f w W B K S M A G N C H D old k j a h d) (s : Stt w L B K A G N C) (hf : ∀ k i, (f k i).size = sz) (hk : k < K) {g' c' : Nat} (hr : W'.ownsRow B e sz (.slice (some ⟨g', 0, none⟩) (N k + j + 1) c') (N k + j + 1) (flatC (f k) (N k + j) ++ (f k (N k + j)).toList))
    (hch : (a = some ⟨g', 0, none⟩ ∧ c' = d ∧ W.grownBy W' (some g')) ∨ (g' = W.heap.size ∧ Below W.heap.size W W')) : Gr e eS sz f w W' B K S M A G N C H D old k (j + 1) (some ⟨g', 0, none⟩) g' c' := by
  rw [← flatC_succ] at hr
  have hp := g.ph
  rcases hch with ⟨ha, rfl, hg⟩ | ⟨rfl, hb⟩
  · have ha' : a ≠ none := by rw [ha]; simp
    obtain rfl : h = g' := by
      rcases g.is with e | e
      · exact absurd e ha'
      · rw [e] at ha; cases ha; rfl
    refine ⟨hp.put s hg hk (g.new ha') (g.nS ha') (g.nG ha') (g.nH ha') (fun hak => ?_), hr, .inr rfl, fun _ => g.nS ha', fun _ => g.new ha', fun _ => g.nG ha', fun _ => g.nH ha', fun _ => g.cap ha'⟩
    by_cases e : h = G k
    · have hc := g.cap ha' hak e
      subst e
      subst hc
      exact ⟨(blk_row hr).1, (has_row (hf k) hr).mono (by omega)⟩
    · exact ⟨(hp.bs.blk k hk hak).grown hg (fun q => e (Option.some.inj q)), (hp.has k hk).grown hg (hp.bs.blk k hk hak).lt (fun q => e (Option.some.inj q))⟩
  · refine ⟨hp.calls s hb, hr, .inr rfl, fun _ => ?_, fun _ => ?_, fun _ i hi ha _ => ?_, fun _ i hi => ?_, fun _ ha e => ?_⟩
    · have := hp.ltS; omega
    · have := hp.bs.size; omega
    · have := (hp.bs.blk i hi ha).lt; omega
    · have := (hp.got i hi).2.1; omega
    · have := (hp.bs.blk k hk ha).lt; omega
theorem cut_has {g c n m : Nat} {q r : Nat → Array Value} (hf : ∀ i, (q i).size = sz) (hh : ∀ i, (r i).size = sz) (hr : W.ownsRow B e sz (.slice (some ⟨g, 0, none⟩) (n + m) c) (n + m) (flatC q n ++ flatC r m)) : Has sz W g n q := by
  rw [← flatC_add] at hr
  have := has_row (f := fun i => if i < n then q i else r (i - n)) (fun i => by show (if i < n then q i else r (i - n)).size = sz; by_cases e : i < n <;> simp [e, hf, hh]) hr
  exact (this.mono (Nat.le_add_right n m)).congr fun i hi => if_pos hi
/-- Many at once. -/
theorem Gr.grow (g : Gr e eS sz f w W B K S M A G N C H D old k 0 a h d) (s : Stt w L B K A G N C) (hf : ∀ k i, (f k i).size = sz) (hk : k < K) {g' c' : Nat} {q : Nat → Array Value} (hq : ∀ i, (q i).size = sz)
    (hr : W'.ownsRow B e sz (.slice (some ⟨g', 0, none⟩) (N k + 64) c') (N k + 64) (flatC (f k) (N k) ++ flatC q 64))
    (hch : (a = some ⟨g', 0, none⟩ ∧ c' = d ∧ W.grownBy W' (some g')) ∨ (g' = W.heap.size ∧ Below W.heap.size W W')) :
    Ph e eS sz f w W' B K S M A G N C H D old k ∧ Has sz W' g' (N k) (f k) ∧ g' < W'.heap.size ∧ g' ≠ S ∧ ∀ i, i < K → A i ≠ none → i ≠ k → g' ≠ G i := by
  have h1 := cut_has (hf k) hq hr
  have h2 := (blk_row hr).1
  have hp := g.ph
  rcases hch with ⟨ha, rfl, hg⟩ | ⟨rfl, hb⟩
  · have ha' : a ≠ none := by rw [ha]; simp
    obtain rfl : h = g' := by
      rcases g.is with e | e
      · exact absurd e ha'
      · rw [e] at ha; cases ha; rfl
    refine ⟨hp.put s hg hk (g.new ha') (g.nS ha') (g.nG ha') (g.nH ha') (fun hak => ?_), h1, h2.lt, g.nS ha', g.nG ha'⟩
    by_cases e : h = G k
    · have hc := g.cap ha' hak e
      subst e
      subst hc
      exact ⟨h2, h1⟩
    · exact ⟨(hp.bs.blk k hk hak).grown hg (fun q => e (Option.some.inj q)), (hp.has k hk).grown hg (hp.bs.blk k hk hak).lt (fun q => e (Option.some.inj q))⟩
  · exact ⟨hp.calls s hb, h1, h2.lt, by have := hp.ltS; omega, fun i hi ha _ => by have := (hp.bs.blk i hi ha).lt; omega⟩
end
end
/-- An append at the walk, the row being where it was, or new. -/
theorem wpList_moreE {P : Program} {w : World} {ops : Array Oper} {rest : List Oper} {o : Oper} {act : Act} {Q : Exit → Act → World → Prop} (hgd : o.guard = none) (s x : Operand) (t : TypeId) (ho : o.op = .call { callee := .builtin .append, args := #[s, x], argTypes := #[t, t] })
    (B : Nat) (e : TypeId) (sz bytes : Nat) (ht : P.underlying t = some (.slice e)) (hi : (P.info? e).map (fun i => (i.zero.map (·.cells.size), i.size, i.bytes)) = some (some sz, sz, bytes)) (a : Option Addr) (n d : Nat) (xs : List Value) (hs : act.eval s = .slice a n d) (hown : w.ownsRow B e sz (.slice a n d) n xs)
    (ad : Addr) (m c : Nat) (news : List Value) (hx : act.eval x = .slice (some ad) m c) (hl : news.length = m * sz) (hnews : ∀ j u, news[j]? = some u → w.cell? (ad.add j) = some u) (h1 : ∀ u ∈ news, u.oneCell' = true)
    (hm : 0 < m) (h63 : n + m ≤ maxLen) (hbytes : (n + m) * bytes ≤ 140737488355328) (hbase : B ≤ w.heap.size)
    (h : ∀ g' c' w', w'.ownsRow B e sz (.slice (some ⟨g', 0, none⟩) (n + m) c') (n + m) (xs ++ news) → ((a = some ⟨g', 0, none⟩ ∧ c' = d ∧ w.grownBy w' (some g')) ∨ (g' = w.heap.size ∧ Below w.heap.size w w')) → wpList P ops Q rest (act.put o.dst (.slice (some ⟨g', 0, none⟩) (n + m) c')) w') : wpList P ops Q (o :: rest) act w :=
  wpList_plain hgd fun K hK => by
    obtain ⟨g', c', w', r1, r2, r3⟩ := run_append_keepE (P := P) w B t o.type e sz bytes ht hi a n d xs hown ad m c news hl hnews h1 hm h63 hbytes hbase
    unfold Oper.wp execOp
    simp only [ho, resolve, invoke, builtin, Sem.run_bind, Sem.run_pure, Result.andThen_ok, List.map_toArray, List.map_cons, List.map_nil, hs, hx, r1]
    exact hK _ _ (h g' c' w' r2 r3)
end Go.Proofs.YtjngghihciimjaaGreat
namespace Go.Proofs.YtjngghihciimjaaGreat
set_option maxRecDepth 100000

/-- Names rise. -/
def Rise (l : List To) : Prop := l.Pairwise fun a b => cN a.nm b.nm < 0
/-- One more, in its place. -/
def putL (x : To) : List To → List To
  | [] => [x]
  | y :: l => if cN x.nm y.nm < 0 then x :: y :: l else if cN x.nm y.nm = 0 then ⟨y.nm, y.w + x.w⟩ :: l else y :: putL x l
theorem putL_cons (x y : To) (l : List To) : putL x (y :: l) = if cN x.nm y.nm < 0 then x :: y :: l else if cN x.nm y.nm = 0 then ⟨y.nm, y.w + x.w⟩ :: l else y :: putL x l := rfl
theorem putL_lt {x : To} : ∀ {l : List To} (r : List To), (∀ y, y ∈ l → 0 < cN x.nm y.nm) → putL x (l ++ r) = l ++ putL x r
  | [], _, _ => rfl
  | y :: l, r, h => by
    have h0 := h y (by simp)
    show putL x (y :: (l ++ r)) = _
    rw [putL_cons, if_neg (by omega), if_neg (by omega), putL_lt r fun z hz => h z (by simp [hz])]
    rfl
theorem putL_done {x : To} : ∀ {l : List To} (r : List To), (∃ y, y ∈ l ∧ cN x.nm y.nm ≤ 0) → putL x (l ++ r) = putL x l ++ r
  | [], _, h => by
    obtain ⟨y, hy, _⟩ := h
    simp at hy
  | y :: l, r, h => by
    show putL x (y :: (l ++ r)) = putL x (y :: l) ++ r
    by_cases h1 : cN x.nm y.nm < 0
    · rw [putL_cons, putL_cons, if_pos h1, if_pos h1]
      rfl
    · by_cases h2 : cN x.nm y.nm = 0
      · rw [putL_cons, putL_cons, if_neg h1, if_pos h2, if_neg h1, if_pos h2]
        rfl
      · have h3 : ∃ z, z ∈ l ∧ cN x.nm z.nm ≤ 0 := by
          obtain ⟨z, hz, h4⟩ := h
          rcases List.mem_cons.1 hz with rfl | hz
          · omega
          · exact ⟨z, hz, h4⟩
        have ih := putL_done r h3
        rw [putL_cons, putL_cons, if_neg h1, if_neg h2, if_neg h1, if_neg h2, ih]
        rfl
/-- What Go's loop keeps: what was gone through, with x in it or not yet. -/
def PutAt (x : To) (l : List To) (k : Nat) (done : Bool) (out : List To) : Prop := (done = false ∧ out = l.take k ∧ ∀ y, y ∈ l.take k → 0 < cN x.nm y.nm) ∨ (done = true ∧ out = putL x (l.take k) ∧ ∃ y, y ∈ l.take k ∧ cN x.nm y.nm ≤ 0)
theorem PutAt.start (x : To) (l : List To) : PutAt x l 0 false [] := .inl ⟨rfl, by simp, fun y hy => by simp at hy⟩
theorem take_next {l : List To} {k : Nat} {y : To} (h : l[k]? = some y) : l.take (k + 1) = l.take k ++ [y] := by
  rw [List.take_add_one, h]
  rfl
theorem PutAt.behind {x : To} {l : List To} {k : Nat} {out : List To} (h : PutAt x l k true out) (hr : Rise l) {y : To} (hy : l[k]? = some y) : cN x.nm y.nm < 0 ∧ PutAt x l (k + 1) true (out ++ [y]) := by
  rcases h with ⟨h1, _⟩ | ⟨_, h2, z, hz, h3⟩
  · cases h1
  · have hzy : cN z.nm y.nm < 0 := by
      have h4 : (l.take k ++ [y]).Pairwise fun a b => cN a.nm b.nm < 0 := by
        rw [← take_next hy]
        exact hr.sublist (List.take_sublist _ _)
      exact (List.pairwise_append.1 h4).2.2 z hz y (by simp)
    have h5 : cN x.nm y.nm < 0 := by
      rcases Int.lt_or_eq_of_le h3 with h3 | h3
      · exact cN_trans h3 hzy
      · rw [cN_eq h3]; exact hzy
    refine ⟨h5, .inr ⟨rfl, ?_, z, ?_, h3⟩⟩
    · rw [take_next hy, putL_done [y] ⟨z, hz, h3⟩, h2]
    · rw [take_next hy]; exact List.mem_append_left _ hz
theorem PutAt.ahead {x : To} {l : List To} {k : Nat} {out : List To} (h : PutAt x l k false out) {y : To} (hy : l[k]? = some y) (hc : cN x.nm y.nm < 0) : PutAt x l (k + 1) true (out ++ [x] ++ [y]) := by
  rcases h with ⟨_, h2, h3⟩ | ⟨h1, _⟩
  · refine .inr ⟨rfl, ?_, y, by rw [take_next hy]; simp, by omega⟩
    rw [take_next hy, putL_lt [y] h3, h2]
    rw [putL_cons, if_pos hc]
    simp
  · cases h1
theorem PutAt.meet {x : To} {l : List To} {k : Nat} {out : List To} (h : PutAt x l k false out) {y : To} (hy : l[k]? = some y) (hc : cN x.nm y.nm = 0) : PutAt x l (k + 1) true (out ++ [⟨y.nm, y.w + x.w⟩]) := by
  rcases h with ⟨_, h2, h3⟩ | ⟨h1, _⟩
  · refine .inr ⟨rfl, ?_, y, by rw [take_next hy]; simp, by omega⟩
    rw [take_next hy, putL_lt [y] h3, h2]
    rw [putL_cons, if_neg (by omega), if_pos hc]
  · cases h1
theorem PutAt.pass {x : To} {l : List To} {k : Nat} {out : List To} (h : PutAt x l k false out) {y : To} (hy : l[k]? = some y) (hc : 0 < cN x.nm y.nm) : PutAt x l (k + 1) false (out ++ [y]) := by
  rcases h with ⟨_, h2, h3⟩ | ⟨h1, _⟩
  · refine .inl ⟨rfl, by rw [take_next hy, h2], fun z hz => ?_⟩
    rw [take_next hy] at hz
    rcases List.mem_append.1 hz with hz | hz
    · exact h3 z hz
    · rw [List.mem_singleton] at hz
      rw [hz]; exact hc
  · cases h1
theorem PutAt.end_ {x : To} {l : List To} {done : Bool} {out : List To} (h : PutAt x l l.length done out) : (if done then out else out ++ [x]) = putL x l := by
  rcases h with ⟨rfl, h2, h3⟩ | ⟨rfl, h2, _⟩
  · rw [List.take_length] at h2 h3
    have := putL_lt (l := l) (x := x) [] h3
    rw [List.append_nil] at this
    rw [this, h2]
    rfl
  · rw [List.take_length] at h2
    rw [h2]
    rfl
theorem mem_putL {x z : To} : ∀ {l : List To}, z ∈ putL x l → z.nm = x.nm ∨ ∃ y, y ∈ l ∧ y.nm = z.nm
  | [], h => by
    simp [putL] at h
    exact .inl (by rw [h])
  | y :: l, h => by
    unfold putL at h
    split at h
    · rcases List.mem_cons.1 h with rfl | h
      · exact .inl rfl
      · exact .inr ⟨z, h, rfl⟩
    · split at h
      · rcases List.mem_cons.1 h with rfl | h
        · exact .inr ⟨y, by simp, rfl⟩
        · exact .inr ⟨z, by simp [h], rfl⟩
      · rcases List.mem_cons.1 h with rfl | h
        · exact .inr ⟨z, by simp, rfl⟩
        · rcases mem_putL h with h | ⟨u, hu, e⟩
          · exact .inl h
          · exact .inr ⟨u, by simp [hu], e⟩
theorem rise_putL {x : To} : ∀ {l : List To}, Rise l → Rise (putL x l)
  | [], _ => by simp [putL, Rise]
  | y :: l, h => by
    obtain ⟨h1, h2⟩ := List.pairwise_cons.1 h
    unfold putL
    split
    · rename_i hc
      refine List.pairwise_cons.2 ⟨fun z hz => ?_, h⟩
      rcases List.mem_cons.1 hz with rfl | hz
      · exact hc
      · exact cN_trans hc (h1 z hz)
    · split
      · exact List.pairwise_cons.2 ⟨h1, h2⟩
      · rename_i hc1 hc2
        refine List.pairwise_cons.2 ⟨fun z hz => ?_, rise_putL h2⟩
        rcases mem_putL hz with e | ⟨u, hu, e⟩
        · rw [e, cN_swap]; omega
        · rw [← e]; exact h1 u hu
theorem sum_putL (x : To) (n : Nm) : ∀ l : List To, sumAt (ctT (putL x l)) n = sumAt (ctT l) n + sumAt [(x.nm, x.w)] n
  | [] => by
    have e : ctT (putL x []) = [(x.nm, x.w)] := rfl
    have e2 : sumAt (ctT []) n = 0 := rfl
    rw [e, e2]
    exact (BitVec.zero_add _).symm
  | y :: l => by
    have e0 : ctT (y :: l) = [(y.nm, y.w)] ++ ctT l := rfl
    unfold putL
    split
    · have e1 : ctT (x :: y :: l) = [(x.nm, x.w)] ++ ctT (y :: l) := rfl
      rw [e1, sumAt_append, BitVec.add_comm]
    · split
      · rename_i hc
        have hn := cN_eq hc
        have e1 : ctT (⟨y.nm, y.w + x.w⟩ :: l) = [(y.nm, y.w + x.w)] ++ ctT l := rfl
        rw [e1, e0, sumAt_append, sumAt_append, hn]
        have s1 : ∀ z : BitVec 128, sumAt [(y.nm, z)] n = if y.nm = n then z else 0 := fun z => by
          simp only [sumAt]
          split <;> simp
        rw [s1, s1, s1]
        by_cases h : y.nm = n
        · rw [if_pos h, if_pos h, if_pos h, BitVec.add_assoc, BitVec.add_comm x.w, ← BitVec.add_assoc]
        · rw [if_neg h, if_neg h, if_neg h]
          simp
      · have ih := sum_putL x n l
        have e1 : ctT (y :: putL x l) = [(y.nm, y.w)] ++ ctT (putL x l) := rfl
        rw [e1, e0, sumAt_append, sumAt_append, ih, BitVec.add_assoc]
/-- Those put, one behind the other. -/
def putAll (l : List To) : List Ct → List To
  | [] => l
  | c :: cs => putAll (putL ⟨c.1, c.2⟩ l) cs
theorem putAll_app : ∀ (l : List To) (a b : List Ct), putAll l (a ++ b) = putAll (putAll l a) b
  | _, [], _ => rfl
  | l, c :: a, b => putAll_app (putL ⟨c.1, c.2⟩ l) a b
theorem rise_all : ∀ {l : List To} (cs : List Ct), Rise l → Rise (putAll l cs)
  | _, [], h => h
  | _, _ :: cs, h => rise_all cs (rise_putL h)
theorem sum_all (n : Nm) : ∀ (l : List To) (cs : List Ct), sumAt (ctT (putAll l cs)) n = sumAt (ctT l) n + sumAt cs n
  | l, [] => by
    have e : sumAt ([] : List Ct) n = 0 := rfl
    rw [e]
    exact (BitVec.add_zero _).symm
  | l, c :: cs => by
    have e : putAll l (c :: cs) = putAll (putL ⟨c.1, c.2⟩ l) cs := rfl
    have e2 : (c :: cs) = [c] ++ cs := rfl
    rw [e, sum_all n _ cs, sum_putL, e2, sumAt_append, BitVec.add_assoc]
theorem mem_all {z : To} : ∀ {l : List To} {cs : List Ct}, z ∈ putAll l cs → (∃ y, y ∈ l ∧ y.nm = z.nm) ∨ ∃ c, c ∈ cs ∧ c.1 = z.nm
  | _, [], h => .inl ⟨z, h, rfl⟩
  | l, c :: cs, h => by
    rcases mem_all (l := putL ⟨c.1, c.2⟩ l) (cs := cs) h with ⟨y, hy, e⟩ | ⟨d, hd, e⟩
    · rcases mem_putL hy with e2 | ⟨u, hu, e2⟩
      · exact .inr ⟨c, by simp, by rw [← e, e2]⟩
      · exact .inl ⟨u, hu, by rw [e2, e]⟩
    · exact .inr ⟨d, by simp [hd], e⟩
theorem len_putL (x : To) : ∀ l : List To, (putL x l).length ≤ l.length + 1
  | [] => Nat.le_refl _
  | y :: l => by
    have ih := len_putL x l
    unfold putL
    split
    · simp
    · split
      · simp
      · simp only [List.length_cons]; omega
theorem len_all : ∀ (l : List To) (cs : List Ct), (putAll l cs).length ≤ l.length + cs.length
  | _, [] => Nat.le_refl _
  | l, c :: cs => by
    have h1 := len_all (putL ⟨c.1, c.2⟩ l) cs
    have h2 := len_putL ⟨c.1, c.2⟩ l
    show (putAll (putL ⟨c.1, c.2⟩ l) cs).length ≤ _
    rw [List.length_cons]
    omega
/-- Those that are not 0. -/
def someL (l : List To) : List To := l.filter fun t => !decide (t.w = 0)
theorem some_take {l : List To} {k : Nat} {y : To} (h : l[k]? = some y) : someL (l.take (k + 1)) = someL (l.take k) ++ (if y.w = 0 then [] else [y]) := by
  rw [take_next h]
  unfold someL
  rw [List.filter_append]
  congr 1
  by_cases h0 : y.w = 0
  · rw [if_pos h0]
    have : (!decide (y.w = 0)) = false := by rw [decide_eq_true h0]; rfl
    rw [List.filter_cons, this]
    rfl
  · rw [if_neg h0]
    have : (!decide (y.w = 0)) = true := by rw [decide_eq_false h0]; rfl
    rw [List.filter_cons, this]
    rfl
theorem some_tot {l : List To} (h : Rise l) : IsTot (fun n => sumAt (ctT l) n) (ctT (someL l)) := by
  have hr : (ctT l).Pairwise fun p q => cN p.1 q.1 < 0 := by
    unfold ctT
    rw [List.pairwise_map]
    exact h
  have hmem : ∀ p, p ∈ ctT (someL l) ↔ p ∈ ctT l ∧ p.2 ≠ 0 := fun p => by
    unfold ctT someL
    simp only [List.mem_map, List.mem_filter]
    constructor
    · rintro ⟨t, ⟨ht, h0⟩, rfl⟩
      exact ⟨⟨t, ht, rfl⟩, by simpa using h0⟩
    · rintro ⟨⟨t, ht, rfl⟩, h0⟩
      exact ⟨t, ⟨ht, by simpa using h0⟩, rfl⟩
  refine ⟨?_, fun p hp => ?_, fun n hn => ?_⟩
  · unfold ctT someL
    rw [List.pairwise_map]
    exact h.sublist List.filter_sublist
  · obtain ⟨h1, h2⟩ := (hmem p).1 hp
    exact ⟨(sum_rise hr p h1).symm, h2⟩
  · obtain ⟨p, hp, e⟩ := sumAt_mem hn
    have h1 := sum_rise hr p hp
    rw [e] at h1
    refine (hmem _).2 ⟨?_, hn⟩
    show (n, sumAt (ctT l) n) ∈ ctT l
    rw [h1, ← e]
    exact hp
/-- The document's totals of contributions. -/
theorem all_tot (cs : List Ct) : IsTot (sumAt cs) (ctT (someL (putAll [] cs))) := by
  refine (some_tot (rise_all cs List.Pairwise.nil)).congr fun n => ?_
  rw [sum_all]
  exact BitVec.zero_add _
end Go.Proofs.YtjngghihciimjaaGreat
namespace Go.Proofs.YtjngghihciimjaaGreat
set_option maxRecDepth 100000
open Go.RowKit Go.Sort

set_option maxHeartbeats 400000 in
theorem texts_any (w : World) (x y : List UInt8) : Calls Tryz.prog 129 #[.string (txt x), .string (txt y)] w fun e w' => e = .returned (.int .i64 (cmpB x y)) ∧ w = w' := by
  obtain ⟨m, hm⟩ : ∃ m, m = cmpB x y := ⟨_, rfl⟩
  rw [← hm]
  rw [← less_is] at hm
  have hx := txt_list x
  have hy := txt_list y
  generalize txt x = X at hx ⊢
  generalize txt y = Y at hy ⊢
  subst hx hy
  by_cases he : X = Y
  · subst he
    have HM := Lib.hid hm
    clear hm
    go_enter Tryz.func129, Tryz.ntmps129
    go_wp2_with fail
    go_ret
    have hl : Op.bytesLess X.toList X.toList = false := by
      have := less_is X.toList X.toList
      rw [cmpB_self] at this
      by_cases h : Op.bytesLess X.toList X.toList = true
      · rw [if_pos h] at this; cases this
      · simpa using h
    exact ⟨ret_i (by rw [HM.out, hl]; simp), rfl⟩
  · have hbe : (X == Y) = false := by
      cases h : X == Y with
      | false => rfl
      | true =>
        obtain ⟨xd⟩ := X
        obtain ⟨yd⟩ := Y
        have h2 : (xd == yd) = true := h
        exact absurd (congrArg ByteArray.mk (eq_of_beq h2)) he
    have hne : (X.toList == Y.toList) = false := by
      have : X.toList ≠ Y.toList := fun e => he (by
        have h1 := congrArg List.toArray e
        rw [ByteArray.toList_eq, ByteArray.toList_eq] at h1
        simp only [Array.toArray_toList] at h1
        exact ByteArray.ext h1)
      simpa using this
    rw [hne] at hm
    cases hl : Op.bytesLess X.toList Y.toList with
    | true =>
      rw [hl] at hm
      have HM := Lib.hid hm
      clear hm
      go_enter Tryz.func129, Tryz.ntmps129
      go_wp2_with fail
      go_ret
      exact ⟨ret_i (by rw [HM.out]; rfl), rfl⟩
    | false =>
      rw [hl] at hm
      have HM := Lib.hid hm
      clear hm
      go_enter Tryz.func129, Tryz.ntmps129
      go_wp2_with fail
      go_ret
      exact ⟨ret_i (by rw [HM.out]; rfl), rfl⟩
theorem conv_src {W : World} {g c : Nat} {l : List UInt8} (h : Src W g 0 l) : (convert 182 9 (.slice (some ⟨g, 0, none⟩) l.length c)).run Tryz.prog W = .ok (.string (txt l)) W :=
  run_convert_bytes_back W 182 9 5 ⟨g, 0, none⟩ c l Tryz.underlying182 Tryz.underlying5 Tryz.underlying9 (fun j hj => by
    have h1 := h j hj
    have e : (⟨g, 0, none⟩ : Addr).add j = ⟨g, j, none⟩ := by cases j <;> simp [Addr.add]
    rw [Nat.zero_add] at h1
    rw [e, h1, List.getD_eq_getElem?_getD, List.getElem?_eq_getElem hj]
    rfl)
theorem b8_src {W : World} {g : Nat} {l : List UInt8} {t : TypeId} (h : Lies W g (B8 l) t) : Src W g 0 l := fun j hj => by
  rw [Nat.zero_add]
  exact h.cell j (B8_get l j hj)
set_option maxHeartbeats 2000000 in
theorem rorder_any (w : World) (a b : Nm) (ha : a.1.length = 32) (hb : b.1.length = 32) :
    Calls Tryz.prog 82 #[.agg (B8 a.1), .string (txt a.2), .agg (B8 b.1), .string (txt b.2)] w fun e w' => e = .returned (.int .i64 (cN a b)) ∧ Below w.heap.size w w' := by
  obtain ⟨va, hva⟩ : ∃ v, v = B8 a.1 := ⟨_, rfl⟩
  obtain ⟨vb, hvb⟩ : ∃ v, v = B8 b.1 := ⟨_, rfl⟩
  obtain ⟨x, hx⟩ : ∃ x, x = cmpB a.1 b.1 := ⟨_, rfl⟩
  obtain ⟨y, hy⟩ : ∃ y, y = cmpB a.2 b.2 := ⟨_, rfl⟩
  have ht1 := fun V => texts_any V a.1 b.1
  have ht2 := fun V => texts_any V a.2 b.2
  have hcn : cN a b = if x = 0 then y else x := by rw [hx, hy]; rfl
  rw [← hx] at ht1
  rw [← hy] at ht2
  have hcv1 : ∀ W g, Lies W g va 26 → (convert 182 9 (.slice (some ⟨g, 0, none⟩) 32 32)).run Tryz.prog W = .ok (.string (txt a.1)) W := fun W g h => by
    rw [hva] at h
    have := conv_src (c := 32) (b8_src h)
    rw [ha] at this
    exact this
  have hcv2 : ∀ W g, Lies W g vb 26 → (convert 182 9 (.slice (some ⟨g, 0, none⟩) 32 32)).run Tryz.prog W = .ok (.string (txt b.1)) W := fun W g h => by
    rw [hvb] at h
    have := conv_src (c := 32) (b8_src h)
    rw [hb] at this
    exact this
  rw [← hva, ← hvb, hcn]
  have HCV := Lib.hid (And.intro hcv1 hcv2)
  clear hva hvb hcn hx hy hcv1 hcv2 ha hb
  generalize txt a.1 = pa at ht1 HCV ⊢
  generalize txt b.1 = pb at ht1 HCV ⊢
  generalize txt a.2 = ta at ht2 ⊢
  generalize txt b.2 = tb at ht2 ⊢
  have HT := Lib.hid (And.intro ht1 ht2)
  clear ht1 ht2
  go_enter Tryz.func82, Tryz.ntmps82
  go_upto_region 1 with fail
  have hl1 : Lies ((w.alloc (.cells va 26)).alloc (.cells vb 26)) w.heap.size va 26 := (Lies.new _ _ _).alloc _
  have hl2 : Lies ((w.alloc (.cells va 26)).alloc (.cells vb 26)) (w.heap.size + 1) vb 26 := by
    have := Lies.new (w.alloc (.cells va 26)) vb 26
    simpa using this
  have hb0 : Below w.heap.size w ((w.alloc (.cells va 26)).alloc (.cells vb 26)) := ((Below.refl _ _).alloc (Nat.le_refl _) _).alloc (by simp) _
  generalize (w.alloc (.cells va 26)).alloc (.cells vb 26) = W0 at hl1 hl2 hb0 ⊢
  obtain ⟨g1, hg1⟩ : ∃ g, g = w.heap.size := ⟨_, rfl⟩
  obtain ⟨g2, hg2⟩ : ∃ g, g = w.heap.size + 1 := ⟨_, rfl⟩
  rw [← hg2] at hl2 ⊢
  rw [← hg1] at hl1 ⊢
  have hd : Below W0.heap.size W0 W0.drew := (Below.refl _ _).drew
  have hs0 : (convert 182 9 (.slice (some ⟨g1, 0, none⟩) 32 32)).run Tryz.prog W0.drew = .ok (.string pa) W0.drew ∧ (convert 182 9 (.slice (some ⟨g2, 0, none⟩) 32 32)).run Tryz.prog W0.drew = .ok (.string pb) W0.drew := ⟨HCV.out.1 _ _ (hl1.below hd hl1.lt), HCV.out.2 _ _ (hl2.below hd hl2.lt)⟩
  have HB := Lib.hid (hb0.trans (hd.mono hb0.size))
  clear hl1 hl2 hb0 hg1 hg2 hd HCV
  go_region_held3 (fun V => (convert 182 9 (.slice (some ⟨g1, 0, none⟩) 32 32)).run Tryz.prog V = .ok (.string pa) V ∧ (convert 182 9 (.slice (some ⟨g2, 0, none⟩) 32 32)).run Tryz.prog V = .ok (.string pb) V)
    (exact hs0)
    (with_reducible refine (HT.out.1 _).mono ?_; rintro e w5 ⟨rfl, rfl⟩)
  clear hs0
  by_cases h0 : x = 0
  · subst h0
    go_wp2_with fail
    refine (HT.out.2 _).mono ?_
    rintro e w5 ⟨rfl, rfl⟩
    go_wp2_with fail
    go_ret
    exact ⟨rfl, HB.out⟩
  · have hb0 : (x != 0) = true := by simpa using h0
    go_wp2_with fail
    go_ret
    exact ⟨rfl, HB.out⟩
end Go.Proofs.YtjngghihciimjaaGreat
namespace Go.Proofs.YtjngghihciimjaaGreat
set_option maxRecDepth 100000
open Go.RowKit Go.Sort Go.Maps

attribute [-go_sem] Instr.build
attribute [-go_sem] Instr.buildSlice
theorem mark_any (w : World) (y : Nat) (hy : y ≤ 1000) : Calls Tryz.prog 120 #[.int .i64 1, .int .i64 y] w fun e w' => e = .returned (.int .i64 (8000024 + (y : Int))) ∧ w = w' := by
  have q1 : (y : Int) ≤ 1000 := by omega
  have q2 : (0 : Int) ≤ (y : Int) := by omega
  go_enter Tryz.func120, Tryz.ntmps120
  go_wp2_with fail
  go_ret
  exact ⟨rfl, rfl⟩
def markT (b : UInt8) : List UInt8 := [35, 1, 0, 0, 47, b, 0, 0]
theorem info_u8 : (Tryz.prog.info? 5).map (fun i => (i.zero.map (·.cells.size), i.size, i.bytes)) = some (some 1, 1, 1) := by kernel_rfl
theorem slice_mark (w : World) (y : Int) (b : UInt8) (hb : y = b.toNat) : (Instr.buildSlice 182 8 #[(0, .int .u8 35), (1, .int .u8 1), (2, .int .u8 0), (3, .int .u8 0), (4, .int .u8 47), (5, .int .u8 y), (6, .int .u8 0), (7, .int .u8 0)]).run Tryz.prog w = .ok (.slice (some ⟨w.heap.size, 0, none⟩) 8 8) (w.alloc (.cells (B8 (markT b)) 5)) := by
  obtain ⟨i, z, h1, h2, h3, h4, h5⟩ := info_parts info_u8
  refine run_buildSlice w 182 5 8 _ _ i z Tryz.underlying182 h1 h2 (by rw [h3]; omega) (by rw [h3]; omega) ?_
  rw [h3]
  have h := Great.fill_whole (s := 1) (by decide) [.int .u8 35, .int .u8 1, .int .u8 0, .int .u8 0, .int .u8 47, .int .u8 y, .int .u8 0, .int .u8 0] ((Array.range (8 * 1)).map (z.cells[· % z.cells.size]!)) (by simp [Value.cells]) (by simp)
  rw [hb] at h ⊢
  simpa [Value.cells, B8, markT] using h
set_option maxHeartbeats 1000000 in
theorem markText_any (w : World) (b : UInt8) : Calls Tryz.prog 121 #[.int .i64 1, .int .i64 b.toNat] w fun e w' => e = .returned (.string (txt (markT b))) ∧ Below w.heap.size w w' := by
  obtain ⟨y, hy⟩ : ∃ y : Int, y = b.toNat := ⟨_, rfl⟩
  rw [← hy]
  have y0 : 0 ≤ y := by omega
  have y1 : y < 256 := by have := b.toNat_lt; omega
  have hsl := fun V => slice_mark V y b hy
  obtain ⟨tv, htv⟩ : ∃ t, t = txt (markT b) := ⟨_, rfl⟩
  obtain ⟨cv, hcv⟩ : ∃ t, t = B8 (markT b) := ⟨_, rfl⟩
  have hcn : (convert 182 9 (.slice (some ⟨w.heap.size, 0, none⟩) 8 8)).run Tryz.prog (w.alloc (.cells cv 5)) = .ok (.string tv) (w.alloc (.cells cv 5)) := by
    rw [hcv, htv]
    exact conv_src (l := markT b) (c := 8) (b8_src (Lies.new w _ 5))
  rw [← hcv] at hsl
  rw [← htv]
  clear hy hcv htv
  go_enter Tryz.func121, Tryz.ntmps121
  have e1 : IntKind.u8.wrap y = y := by rw [IntKind.wrap_u8]; omega
  have e2 : y / 256 = 0 := by omega
  have e3 : y / 65536 = 0 := by omega
  go_wp2_with fail
  go_ret
  exact ⟨rfl, (Below.refl _ _).alloc (Nat.le_refl _) _⟩
/-- The asset, the bundle that a mark is. -/
def markA (b : UInt8) : As := ⟨(List.replicate 32 0, markT b), 0⟩
theorem markA_ok (b : UInt8) : AsOk (markA b) := ⟨rfl, by show 8 ≤ maxLen; unfold maxLen; omega, show (-9223372036854775808 : Int) ≤ 0 by omega, show (0 : Int) < 9223372036854775808 by omega⟩
theorem built_mark (s : ByteArray) : Tryz.prog.built 38 [(1, .string s)] = some (B8 (List.replicate 32 0) ++ #[.string s, .int .i64 0]) := by kernel_rfl
set_option maxHeartbeats 1000000 in
theorem markAsset_any (w : World) (b : UInt8) : Calls Tryz.prog 65 #[.int .i64 1, .int .i64 b.toNat] w fun e w' => e = .returned (.agg (asC (markA b))) ∧ Below w.heap.size w w' := by
  have hm := fun V => markText_any V b
  obtain ⟨y, hy⟩ : ∃ y : Int, y = b.toNat := ⟨_, rfl⟩
  obtain ⟨tv, htv⟩ : ∃ t, t = txt (markT b) := ⟨_, rfl⟩
  obtain ⟨av, hav⟩ : ∃ t, t = asC (markA b) := ⟨_, rfl⟩
  have hbl : ∀ W, (Instr.build 38 #[(1, .string tv)]).run Tryz.prog W = .ok (.agg av) W := fun W => by
    rw [htv, hav]
    exact run_build W 38 _ _ (built_mark _)
  have hsz : av.size = 34 := by rw [hav]; exact asC_size _ rfl
  have h1 : av.all (·.oneCell') = true := by rw [hav]; exact asC_one _
  rw [← hy, ← htv] at hm
  rw [← hy, ← hav]
  have HM := Lib.hid (And.intro hm (And.intro hsz h1))
  clear hm hy htv hav hsz h1
  go_enter Tryz.func65, Tryz.ntmps65
  go_upto_region 1 with fail
  have hQ : Lies (w.alloc (.cells z34 38)) w.heap.size z34 38 := Lies.new w z34 38
  have hb : Below w.heap.size w (w.alloc (.cells z34 38)) := (Below.refl _ _).alloc (Nat.le_refl _) _
  change Code.wp _ _ _ _ (w.alloc (.cells z34 38))
  generalize w.alloc (.cells z34 38) = W0 at hQ hb ⊢
  have H := Lib.hid (And.intro hQ hb)
  clear hQ hb
  go_wp2_with fail
  refine (HM.out.1 _).mono ?_
  rintro e w2 ⟨rfl, hb2⟩
  have H2 := Lib.hid (And.intro (H.out.1.below hb2 H.out.1.lt) (H.out.2.trans (hb2.mono H.out.2.size)))
  clear hb2
  go_wp2_with (refine wpList_store_row rfl 38 _ _ rfl w.heap.size av rfl rfl 38 z34 H2.out.1 (by rw [HM.out.2.1]; exact info_asset) (by rw [HM.out.2.1]; kernel_rfl) HM.out.2.2 ?_)
  exact bodyPost_ret (v := .agg av) (results_cell_row (p := 4) (ty := 38) (by kernel_rfl) _ _ w.heap.size 38 av (0, 0) _ rfl (H2.out.1.setRow _) Tryz.underlying38 rfl (by rw [HM.out.2.1]; exact info_asset)) rfl ⟨rfl, below_setRow H2.out.2 _ _ (Nat.le_refl _)⟩
def markV (y : Nat) : Va := ⟨8000024 + (y : Int), none, [], 0⟩
set_option maxHeartbeats 1000000 in
theorem markValue_any (w : World) (y : Nat) (hy : y ≤ 1000) : Calls Tryz.prog 64 #[.int .i64 1, .int .i64 y] w fun e w' => e = .returned (.agg #[.int .i64 (8000024 + (y : Int)), .slice none 0 0]) ∧ Below w.heap.size w w' := by
  obtain ⟨c, hc⟩ : ∃ c : Int, c = 8000024 + (y : Int) := ⟨_, rfl⟩
  have hm := fun V => mark_any V y hy
  rw [← hc] at hm ⊢
  have hbl : ∀ W, (Instr.build 24 #[(0, .int .i64 c)]).run Tryz.prog W = .ok (.agg #[.int .i64 c, .slice none 0 0]) W := fun W => run_build W 24 _ _ (by kernel_rfl)
  have HM := Lib.hid hm
  clear hm hc
  have hQ : Lies (w.alloc (.cells #[.int .i64 0, .slice none 0 0] 24)) w.heap.size #[.int .i64 0, .slice none 0 0] 24 := Lies.new _ _ _
  have hb : Below w.heap.size w (w.alloc (.cells #[.int .i64 0, .slice none 0 0] 24)) := (Below.refl _ _).alloc (Nat.le_refl _) _
  go_enter Tryz.func64, Tryz.ntmps64
  go_upto_region 1 with fail
  generalize w.alloc (.cells #[.int .i64 0, .slice none 0 0] 24) = W0 at hQ hb ⊢
  have H := Lib.hid (And.intro hQ hb)
  clear hQ hb
  go_wp2_with fail
  refine (HM.out _).mono ?_
  rintro e w' ⟨rfl, rfl⟩
  go_wp2_with (refine wpList_store_row rfl 24 _ _ rfl w.heap.size #[.int .i64 c, .slice none 0 0] rfl rfl 24 #[.int .i64 0, .slice none 0 0] H.out.1 info_value rfl (by simp [Value.oneCell']) ?_)
  exact bodyPost_ret (v := .agg #[.int .i64 c, .slice none 0 0]) (results_cell_row (p := 4) (ty := 24) (by kernel_rfl) _ _ w.heap.size 24 #[.int .i64 c, .slice none 0 0] (0, 0) _ rfl (H.out.1.setRow _) Tryz.underlying24 rfl info_value) rfl ⟨rfl, below_setRow H.out.2 _ _ (Nat.le_refl _)⟩
end Go.Proofs.YtjngghihciimjaaGreat
