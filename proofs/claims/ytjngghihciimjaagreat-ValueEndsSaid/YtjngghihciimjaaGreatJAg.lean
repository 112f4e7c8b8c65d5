/-
  Rows of elements of whatever sort that are marked, grown and looked at: what a world holds of them. An append to a row: where it grows, the old row stays as it was.
-/
import Derived.Test.YtjngghihciimjaaGreatJVj
import Derived.Test.YtjngghihciimjaaGreatJVtu
import Derived.Deep.MidRow
import Derived.IntWalk
namespace Go.Proofs.YtjngghihciimjaaGreat
open Go.RowKit
theorem run_append_keepE {P : Program} (w : World) (B : Nat) (t ty e : TypeId) (sz bytes : Nat) (ht : P.underlying t = some (.slice e)) (hinf : (P.info? e).map (fun i => (i.zero.map (·.cells.size), i.size, i.bytes)) = some (some sz, sz, bytes))
    (a : Option Addr) (n d : Nat) (xs : List Value) (hown : w.ownsRow B e sz (.slice a n d) n xs)
    (ad : Addr) (m c : Nat) (news : List Value) (hl : news.length = m * sz) (hnews : ∀ j u, news[j]? = some u → w.cell? (ad.add j) = some u) (h1 : ∀ u ∈ news, u.oneCell' = true)
    (hm : 0 < m) (h63 : n + m ≤ maxLen) (hbytes : (n + m) * bytes ≤ 140737488355328) (hbase : B ≤ w.heap.size) :
    ∃ g' c' w', (Builtin.append_ #[t, t] ty #[.slice a n d, .slice (some ad) m c]).run P w = .ok (.slice (some ⟨g', 0, none⟩) (n + m) c') w' ∧
      w'.ownsRow B e sz (.slice (some ⟨g', 0, none⟩) (n + m) c') (n + m) (xs ++ news) ∧ ((a = some ⟨g', 0, none⟩ ∧ c' = d ∧ w.grownBy w' (some g')) ∨ (g' = w.heap.size ∧ Below w.heap.size w w')) := by
  obtain ⟨i, z, hi, hz, hsize, hby, hzs⟩ := info_parts hinf
  clear hinf
  subst hsize
  subst hby
  have hsmall : n + m ≤ 9223372036854775807 := by simp only [maxLen] at h63; omega
  have hlen : (xs ++ news).length = (n + m) * i.size := by rw [List.length_append, hown.1, hl, Nat.add_mul]
  rcases hown.2 with ⟨h, h0⟩ | ⟨g2, cap2, cur, heq, hbg, hg, hnc, hcm, hcs, htake⟩
  · obtain ⟨rfl, rfl, rfl⟩ : a = none ∧ n = 0 ∧ d = 0 := by simp at h; exact ⟨h.1, h.2.1, h.2.2⟩
    have hx : xs = [] := List.eq_nil_of_length_eq_zero (by simpa using hown.1)
    subst hx
    simp only [Nat.zero_add] at hsmall hlen h63 hbytes ⊢
    have hr := run_append_nil (P := P) w t ty e i z ht hi hz ad m c news hl hnews hm (by omega) (by omega)
    have hge := grownCap_ge w m 0 e
    have hcm' : grownCap w m 0 e ≤ maxLen := grownCap_le_maxLen w m 0 e h63
    refine ⟨_, _, _, hr, ⟨hlen, .inr ⟨w.heap.size, _, _, rfl, hbase, heap_alloc_new w.drew _, hge, hcm', ?_, ?_⟩⟩, .inr ⟨rfl, (Below.refl _ _).drew.alloc (Nat.le_refl _) _⟩⟩
    · simp only [Array.size_append, List.size_toArray, size_zeroCells, hzs, hl, ← Nat.add_mul]
      congr 1
      omega
    · simp only [Array.toList_append, List.nil_append]
      rw [show m * i.size = news.length from hl.symm]
      exact List.take_left
  · obtain ⟨rfl, rfl⟩ : a = some ⟨g2, 0, none⟩ ∧ d = cap2 := by simp at heq; exact ⟨heq.1, heq.2⟩
    by_cases hroom : n + m ≤ d
    · have hfit : n * i.size + news.length ≤ cur.size := by rw [hl, hcs, ← Nat.add_mul]; exact Nat.mul_le_mul_right _ hroom
      have hr := run_append_room (P := P) w t ty e i ht hi g2 n d cur hg ad m c news hl hnews h1 hroom hfit
      refine ⟨_, _, _, hr, ⟨hlen, .inr ⟨g2, d, _, rfl, hbg, setRow_heap w g2 cur _ e _ hg, hroom, hcm, ?_, ?_⟩⟩, .inl ⟨rfl, rfl, ⟨rfl, rfl, rfl, by simp, fun k _ hk => setRow_other w g2 k _ (fun e => hk (by simp [e]))⟩⟩⟩
      · simp only [List.size_toArray, List.length_append, List.length_take, List.length_drop, Array.length_toList]
        omega
      · rw [htake, ← hlen]
        exact List.take_left
    · have holds : ∀ j u, xs[j]? = some u → w.cell? ((⟨g2, 0, none⟩ : Addr).add j) = some u := hown.cells (g := g2) rfl
      have hr := run_append_grow (P := P) w t ty e i z ht hi hz ⟨g2, 0, none⟩ n d xs hown.1 holds ad m c news hl hnews (by omega) (by omega) (growslice_fits (by omega) hbytes)
      have hge := grownCap_ge w (n + m) d e
      have hcm' : grownCap w (n + m) d e ≤ maxLen := grownCap_le_maxLen w (n + m) d e h63
      refine ⟨_, _, _, hr, ⟨hlen, .inr ⟨w.heap.size, _, _, rfl, hbase, heap_alloc_new w.drew _, hge, hcm', ?_, ?_⟩⟩, .inr ⟨rfl, (Below.refl _ _).drew.alloc (Nat.le_refl _) _⟩⟩
      · simp only [Array.size_append, List.size_toArray, size_zeroCells, hzs, hown.1, hl, ← Nat.add_mul]
        congr 1
        omega
      · simp only [Array.toList_append, List.append_assoc]
        rw [← List.append_assoc, ← hlen]
        exact List.take_left
theorem lies_setCells {g : Nat} {t : TypeId} : ∀ (vs : List Value) (o : Nat) (w : World) (cs : Array Value), Lies w g cs t → ∃ cs', Lies (w.setCells g o vs) g cs' t ∧ cs'.size = cs.size
  | [], _, _, cs, h => ⟨cs, h, rfl⟩
  | v :: r, o, w, cs, h => by
    obtain ⟨cs', h1, h2⟩ := lies_setCells r (o + 1) (w.setCell ⟨g, o, none⟩ v) _ (h.set o v)
    exact ⟨cs', h1, h2.trans (by simp)⟩
theorem lies_setCells_other {g g' : Nat} {t : TypeId} {cs : Array Value} (hne : g ≠ g') : ∀ (vs : List Value) (o : Nat) (w : World), Lies w g cs t → Lies (w.setCells g' o vs) g cs t
 | [], _, _, h => h
 | v :: r, o, w, h => lies_setCells_other hne r (o + 1) _ (h.other ⟨g', o, none⟩ v hne)
theorem below_setCellsA {B b : Nat} {a : World} (hb : B ≤ b) : ∀ (vs : List Value) (o : Nat) (w : World), Below B a w → Below B a (w.setCells b o vs)
 | [], _, _, h => h
 | v :: r, o, w, h => below_setCellsA hb r (o + 1) _ (h.setCell (p := ⟨b, o, none⟩) (by exact hb) v)
theorem heap_setCellsA (g : Nat) {i : Nat} (hne : i ≠ g) : ∀ (vs : List Value) (o : Nat) (w : World), (w.setCells g o vs).heap[i]? = w.heap[i]?
 | [], _, _ => rfl
 | v :: r, o, w => (heap_setCellsA g hne r (o + 1) _).trans (heap_setCell_other w ⟨g, o, none⟩ i v hne)
theorem cell_block {w w' : World} {g : Nat} (h : w'.heap[g]? = w.heap[g]?) (j : Nat) : w'.cell? ⟨g, j, none⟩ = w.cell? ⟨g, j, none⟩ := by
 unfold World.cell?
 simp only [h]
section
variable {e : TypeId} {sz : Nat}
def Blk (e : TypeId) (sz : Nat) (w : World) (g c : Nat) : Prop := ∃ cs, Lies w g cs e ∧ cs.size = c * sz
theorem Blk.lt {w : World} {g c : Nat} (h : Blk e sz w g c) : g < w.heap.size := by obtain ⟨cs, h, _⟩ := h; exact h.lt
theorem Blk.grown {w w' : World} {g c : Nat} {o : Option Nat} (h : Blk e sz w g c) (hg : w.grownBy w' o) (hne : o ≠ some g) : Blk e sz w' g c := by
 obtain ⟨cs, h1, h2⟩ := h
 exact ⟨cs, (hg.block g h1.lt (fun e => hne e.symm)).trans h1, h2⟩
theorem Blk.below {w w' : World} {g c B : Nat} (h : Blk e sz w g c) (hb : Below B w w') (hg : g < B) : Blk e sz w' g c := by
 obtain ⟨cs, h1, h2⟩ := h
 exact ⟨cs, h1.below hb hg, h2⟩
theorem Blk.setCells {w : World} {g c : Nat} (h : Blk e sz w g c) (o : Nat) (vs : List Value) : Blk e sz (w.setCells g o vs) g c := by
 obtain ⟨cs, h1, h2⟩ := h
 obtain ⟨cs', h3, h4⟩ := lies_setCells vs o w cs h1
 exact ⟨cs', h3, h4.trans h2⟩
theorem Blk.setOther {w : World} {g c g' : Nat} (h : Blk e sz w g c) (hne : g ≠ g') (o : Nat) (vs : List Value) : Blk e sz (w.setCells g' o vs) g c := by
 obtain ⟨cs, h1, h2⟩ := h
 exact ⟨cs, lies_setCells_other hne vs o w h1, h2⟩
theorem Blk.cellAt {w : World} {g c : Nat} (h : Blk e sz w g c) (j : Nat) (hj : j < c * sz) : ∃ v, w.cell? ⟨g, j, none⟩ = some v := by
 obtain ⟨cs, h1, h2⟩ := h
 exact ⟨cs[j]'(by omega), h1.cell j (Array.getElem?_eq_getElem (by omega))⟩
theorem mul_lt {i c sz j : Nat} (hi : i < c) (hj : j < sz) : i * sz + j < c * sz := by
 have := Nat.mul_le_mul_right sz hi
 rw [Nat.succ_mul] at this
 omega
theorem Blk.there {w : World} {g c : Nat} (h : Blk e sz w g c) (i : Nat) (hi : i < c) : w.there g (i * sz) sz := fun j hj => by
 obtain ⟨v, hv⟩ := h.cellAt (i * sz + j) (mul_lt hi hj)
 obtain ⟨cs, h1, _⟩ := h
 exact ⟨by rw [hv]; rfl, h1.free _⟩
def Has (sz : Nat) (w : World) (g n : Nat) (f : Nat → Array Value) : Prop := ∀ i, i < n → w.rangeAt g (i * sz) (f i).toList
theorem Has.block {w w' : World} {g n : Nat} {f : Nat → Array Value} (h : Has sz w g n f) (hk : w'.heap[g]? = w.heap[g]?) : Has sz w' g n f := fun i hi j v hv => by
 have := h i hi j v hv
 rw [← this]
 unfold World.cell?
 simp only [hk]
theorem Has.grown {w w' : World} {g n : Nat} {f : Nat → Array Value} {o : Option Nat} (h : Has sz w g n f) (hg : w.grownBy w' o) (hlt : g < w.heap.size) (hne : o ≠ some g) : Has sz w' g n f := h.block (hg.block g hlt (fun e => hne e.symm))
theorem Has.below {w w' : World} {g n B : Nat} {f : Nat → Array Value} (h : Has sz w g n f) (hb : Below B w w') (hg : g < B) : Has sz w' g n f := h.block (hb.block g hg)
theorem Has.mono {w : World} {g n m : Nat} {f : Nat → Array Value} (h : Has sz w g n f) (hm : m ≤ n) : Has sz w g m f := fun i hi => h i (by omega)
theorem Has.zero (w : World) (g : Nat) (f : Nat → Array Value) : Has sz w g 0 f := fun i hi => absurd hi (by omega)
theorem Has.congr {w : World} {g n : Nat} {f h : Nat → Array Value} (hh : Has sz w g n f) (he : ∀ i, i < n → f i = h i) : Has sz w g n h := fun i hi => by rw [← he i hi]; exact hh i hi
theorem Has.setOther {w : World} {g n g' : Nat} {f : Nat → Array Value} (h : Has sz w g n f) (hne : g ≠ g') (o : Nat) (vs : List Value) : Has sz (w.setCells g' o vs) g n f := fun i hi => World.rangeAt_setCells_apart (h i hi) _ _ _ (.inl hne)
theorem Has.step {w : World} {g n c : Nat} {f : Nat → Array Value} (h : Has sz w g n f) (hb : Blk e sz w g c) (hn : n < c) (hf : ∀ i, (f i).size = sz) : Has sz (w.setCells g (n * sz) (f n).toList) g (n + 1) f := fun i hi => by
 have hl : ∀ i, (f i).toList.length = sz := fun i => by rw [Array.length_toList, hf]
 by_cases he : i = n
 ·
  subst he
  exact World.rangeAt_setCells_same _ _ _ _ (by rw [hl]; exact hb.there i hn)
 ·
  refine World.rangeAt_setCells_apart (h i (by omega)) _ _ _ (.inr (.inl ?_))
  rw [hl]
  have := Nat.mul_le_mul_right sz (show i + 1 ≤ n by omega)
  rw [Nat.succ_mul] at this
  exact this
def flatC (f : Nat → Array Value) (n : Nat) : List Value := (List.range n).flatMap fun i => (f i).toList
theorem flatC_succ (f : Nat → Array Value) (n : Nat) : flatC f (n + 1) = flatC f n ++ (f n).toList := by simp [flatC, List.range_succ]
theorem flatC_length {f : Nat → Array Value} (hf : ∀ i, (f i).size = sz) : ∀ n, (flatC f n).length = n * sz
 | 0 => by simp [flatC]
 | n + 1 => by rw [flatC_succ, List.length_append, flatC_length hf n, Array.length_toList, hf, Nat.succ_mul]
theorem flatC_get {f : Nat → Array Value} (hf : ∀ i, (f i).size = sz) : ∀ n i j, i < n → j < sz → (flatC f n)[i * sz + j]? = (f i)[j]?
  | 0, _, _, h, _ => absurd h (by omega)
  | n + 1, i, j, h, hj => by
    rw [flatC_succ]
    by_cases he : i = n
    · subst he
      rw [List.getElem?_append_right (by rw [flatC_length hf]; omega), flatC_length hf, show i * sz + j - i * sz = j by omega, Array.getElem?_toList]
    · rw [List.getElem?_append_left (by rw [flatC_length hf]; exact mul_lt (by omega) hj)]
      exact flatC_get hf n i j (by omega) hj
theorem flatC_one {f : Nat → Array Value} (h1 : ∀ i, (f i).all (·.oneCell') = true) (n : Nat) : ∀ u ∈ flatC f n, u.oneCell' = true := by
 intro u hu
 obtain ⟨i, _, h2⟩ := List.mem_flatMap.1 hu
 have := h1 i
 rw [Array.all_eq_true_iff_forall_mem] at this
 exact this u (Array.mem_toList_iff.1 h2)
theorem flatC_add {f h : Nat → Array Value} (n : Nat) : ∀ m, flatC (fun i => if i < n then f i else h (i - n)) (n + m) = flatC f n ++ flatC h m
  | 0 => by
    unfold flatC
    simp only [Nat.add_zero, List.range_zero, List.flatMap_nil, List.append_nil]
    rw [List.flatMap_def, List.flatMap_def]
    congr 1
    refine List.map_congr_left fun i hi => ?_
    rw [if_pos (List.mem_range.1 hi)]
  | m + 1 => by
    rw [← Nat.add_assoc, flatC_succ, flatC_add n m, flatC_succ, List.append_assoc, if_neg (by omega), show n + m - n = m by omega]
theorem has_row {w : World} {B n g c : Nat} {f : Nat → Array Value} (hf : ∀ i, (f i).size = sz) (h : w.ownsRow B e sz (.slice (some ⟨g, 0, none⟩) n c) n (flatC f n)) : Has sz w g n f := fun i hi j v hv => by
 have hj : j < sz := by
  have := (List.getElem?_eq_some_iff.1 hv).1
  rwa [Array.length_toList, hf] at this
 have h1 := h.cells (g := g) rfl (i * sz + j) v (by rw [flatC_get hf n i j hi hj]; rwa [Array.getElem?_toList] at hv)
 rwa [Addr.add_mid, Nat.zero_add] at h1
theorem blk_row {w : World} {B n g c : Nat} {l : List Value} (h : w.ownsRow B e sz (.slice (some ⟨g, 0, none⟩) n c) n l) : Blk e sz w g c ∧ B ≤ g ∧ n ≤ c ∧ c ≤ maxLen := by
 rcases h.2 with ⟨e, _⟩ | ⟨g2, cap2, cur, e, hb, hg, h1, h2, h3, _⟩
 ·
  cases e
 ·
  obtain ⟨rfl, rfl⟩ : g2 = g ∧ cap2 = c := by simp at e; exact ⟨e.1.symm, e.2.symm⟩
  exact ⟨⟨cur, hg, h3⟩, hb, h1, h2⟩
theorem row_has {w : World} {B n g c : Nat} {f : Nat → Array Value} (hf : ∀ i, (f i).size = sz) (h0 : 0 < sz) (hb : Blk e sz w g c) (h : Has sz w g n f) (hB : B ≤ g) (hn : n ≤ c) (hc : c ≤ maxLen) : w.ownsRow B e sz (.slice (some ⟨g, 0, none⟩) n c) n (flatC f n) := by
 obtain ⟨cs, h1, h2⟩ := hb
 refine ⟨flatC_length hf n, .inr ⟨g, c, cs, rfl, hB, h1, hn, hc, h2, ?_⟩⟩
 have hle := Nat.mul_le_mul_right sz hn
 apply List.ext_getElem?
 intro j
 by_cases hj : j < n * sz
 ·
  have hq : j / sz < n := Nat.div_lt_of_lt_mul (by rw [Nat.mul_comm]; exact hj)
  have hr : j % sz < sz := Nat.mod_lt _ h0
  have ej : j / sz * sz + j % sz = j := by rw [Nat.mul_comm]; exact Nat.div_add_mod j sz
  have e3 := flatC_get hf n (j / sz) (j % sz) hq hr
  rw [ej] at e3
  have hv : (f (j / sz))[j % sz]? = some ((f (j / sz))[j % sz]'(by rw [hf]; exact hr)) := Array.getElem?_eq_getElem _
  have e1 := h (j / sz) hq (j % sz) _ (by rw [Array.getElem?_toList]; exact hv)
  rw [ej] at e1
  have e2 := h1.cell j (Array.getElem?_eq_getElem (show j < cs.size by rw [h2]; omega))
  rw [List.getElem?_take_of_lt hj, Array.getElem?_toList, e3, hv, Array.getElem?_eq_getElem (show j < cs.size by rw [h2]; omega), ← e2, e1]
 ·
  rw [List.getElem?_eq_none (by rw [List.length_take]; omega), List.getElem?_eq_none (by rw [flatC_length hf]; omega)]
theorem src_mark {W : World} {M n : Nat} {f : Nat → Array Value} (hf : ∀ i, (f i).size = sz) (h0 : 0 < sz) (h : Has sz W M n f) : ∀ j u, (flatC f n)[j]? = some u → W.cell? ((⟨M, 0, none⟩ : Addr).add j) = some u := fun j u hu => by
 have hj : j < n * sz := by
  have := (List.getElem?_eq_some_iff.1 hu).1
  rwa [flatC_length hf] at this
 have hq : j / sz < n := Nat.div_lt_of_lt_mul (by rw [Nat.mul_comm]; exact hj)
 have hr : j % sz < sz := Nat.mod_lt _ h0
 have ej : j / sz * sz + j % sz = j := by rw [Nat.mul_comm]; exact Nat.div_add_mod j sz
 have e3 := flatC_get hf n (j / sz) (j % sz) hq hr
 rw [ej, hu] at e3
 have e1 := h (j / sz) hq (j % sz) u (by rw [Array.getElem?_toList]; exact e3.symm)
 rw [ej] at e1
 rw [Addr.add_mid, Nat.zero_add]
 exact e1
theorem src_newE {W : World} {x : Array Value} : ∀ j u, x.toList[j]? = some u → (W.alloc (.cells x e)).cell? ((⟨W.heap.size, 0, none⟩ : Addr).add j) = some u := fun j u hu => by
 rw [Addr.add_mid, Nat.zero_add]
 exact (Lies.new W x e).cell j (by rwa [Array.getElem?_toList] at hu)
structure Stt (w : World) (L B K : Nat) (A : Nat → Option Addr) (G N C : Nat → Nat) : Prop where
 lt : L < w.heap.size
 cell : ∀ k, k < K → w.cell? ⟨L, k, none⟩ = some (.slice (A k) (N k) (C k))
 ok : ∀ k, k < K → (A k = none ∧ N k = 0 ∧ C k = 0) ∨ (A k = some ⟨G k, 0, none⟩ ∧ N k ≤ C k ∧ C k ≤ maxLen ∧ B ≤ G k ∧ G k < w.heap.size ∧ G k ≠ L)
 few : ∀ k, k < K → N k ≤ 100000
 ne : ∀ i j, i < K → j < K → i ≠ j → A i ≠ none → A j ≠ none → G i ≠ G j
 bb : B ≤ w.heap.size
structure Bs (e : TypeId) (sz : Nat) (w W : World) (B K : Nat) (A : Nat → Option Addr) (G C : Nat → Nat) : Prop where
 below : Below B w W
 rest : ∀ g, g < w.heap.size → (∀ k, k < K → A k ≠ none → g ≠ G k) → W.heap[g]? = w.heap[g]?
 blk : ∀ k, k < K → A k ≠ none → Blk e sz W (G k) (C k)
section
variable {w W W' : World} {L B K : Nat} {A : Nat → Option Addr} {G N C : Nat → Nat}
theorem Stt.on (s : Stt w L B K A G N C) {k : Nat} (hk : k < K) (h : A k ≠ none) : A k = some ⟨G k, 0, none⟩ ∧ N k ≤ C k ∧ C k ≤ maxLen ∧ B ≤ G k ∧ G k < w.heap.size ∧ G k ≠ L := by
 rcases s.ok k hk with h1 | h1
 ·
  exact absurd h1.1 h
 ·
  exact h1
theorem Stt.pos (s : Stt w L B K A G N C) {k j : Nat} (hk : k < K) (h : j < N k) : A k ≠ none := fun e => by
 rcases s.ok k hk with h1 | h1
 ·
  omega
 ·
  rw [h1.1] at e; cases e
theorem Bs.size (h : Bs e sz w W B K A G C) : w.heap.size ≤ W.heap.size := h.below.size
theorem Bs.row (h : Bs e sz w W B K A G C) (s : Stt w L B K A G N C) : W.heap[L]? = w.heap[L]? := h.rest L s.lt (fun k hk ha => fun e => (s.on hk ha).2.2.2.2.2 e.symm)
theorem Bs.cell (h : Bs e sz w W B K A G C) (s : Stt w L B K A G N C) (k : Nat) (hk : k < K) : W.cell? ⟨L, k, none⟩ = some (.slice (A k) (N k) (C k)) := (cell_block (h.row s) k).trans (s.cell k hk)
theorem Bs.calls (h : Bs e sz w W B K A G C) (hB : B ≤ w.heap.size) (hb : Below W.heap.size W W') : Bs e sz w W' B K A G C :=
 ⟨h.below.trans (hb.mono (Nat.le_trans hB h.size)), fun g hg h0 => (hb.block g (Nat.lt_of_lt_of_le hg h.size)).trans (h.rest g hg h0), fun k hk ha => (h.blk k hk ha).below hb (h.blk k hk ha).lt⟩
theorem Bs.mark (h : Bs e sz w W B K A G C) (s : Stt w L B K A G N C) {k : Nat} (hk : k < K) (ha : A k ≠ none) (o : Nat) (vs : List Value) : Bs e sz w (W.setCells (G k) o vs) B K A G C := by
 refine ⟨below_setCellsA (s.on hk ha).2.2.2.1 vs o W h.below, fun g hg h0 => (heap_setCellsA (G k) (h0 k hk ha) vs o W).trans (h.rest g hg h0), fun i hi hai => ?_⟩
 by_cases e : i = k
 ·
  subst e; exact (h.blk i hi hai).setCells o vs
 ·
  exact (h.blk i hi hai).setOther (s.ne i k hi hk e hai ha) o vs
theorem Bs.there (h : Bs e sz w W B K A G C) (s : Stt w L B K A G N C) {k j : Nat} (hk : k < K) (hj : j < N k) : W.there (G k) (j * sz) sz := (h.blk k hk (s.pos hk hj)).there j (by have := (s.on hk (s.pos hk hj)).2.1; omega)
end
def cellS (N H D : Nat → Nat) (old : Nat → Value) (k i : Nat) : Value := if i < k then .slice (some ⟨H i, 0, none⟩) (N i + 64) (D i) else old i
structure Ph (e eS : TypeId) (sz : Nat) (f : Nat → Nat → Array Value) (w W : World) (B K S : Nat) (M : Nat → Nat) (A : Nat → Option Addr) (G N C H D : Nat → Nat) (old : Nat → Value) (k : Nat) : Prop where
 bs : Bs e sz w W B K A G C
 has : ∀ i, i < K → Has sz W (G i) (N i) (f i)
 lies : ∃ cs, Lies W S cs eS ∧ cs.size = K ∧ ∀ i, i < K → cs[i]? = some (cellS N H D old k i)
 got : ∀ i, i < k → Has sz W (H i) (M i) (f i) ∧ H i < W.heap.size ∧ H i ≠ S ∧ ∀ j, j < K → A j ≠ none → j ≠ i → H i ≠ G j
section
variable {eS : TypeId} {f : Nat → Nat → Array Value} {w W W' : World} {L B K S : Nat} {M : Nat → Nat} {A : Nat → Option Addr} {G N C H D : Nat → Nat} {old : Nat → Value} {k : Nat}
theorem Ph.ltS (h : Ph e eS sz f w W B K S M A G N C H D old k) : S < W.heap.size := by obtain ⟨cs, h1, _⟩ := h.lies; exact h1.lt
theorem has_off {g : Nat} (s : Stt w L B K A G N C) {i : Nat} (hi : i < K) (h : ¬ A i ≠ none) : Has sz W' g (N i) (f i) := by
 have : N i = 0 := by
  rcases s.ok i hi with h1 | h1
  ·
   exact h1.2.1
  ·
   exact absurd (by rw [h1.1]; simp) h
 rw [this]
 exact Has.zero _ _ _
theorem Ph.calls (h : Ph e eS sz f w W B K S M A G N C H D old k) (s : Stt w L B K A G N C) (hb : Below W.heap.size W W') : Ph e eS sz f w W' B K S M A G N C H D old k :=
 ⟨h.bs.calls s.bb hb, fun i hi => by
   by_cases ha : A i ≠ none
   ·
    exact (h.has i hi).below hb (h.bs.blk i hi ha).lt
   ·
    exact has_off s hi ha,
  by obtain ⟨cs, h1, h2⟩ := h.lies; exact ⟨cs, h1.below hb h1.lt, h2⟩, fun i hi => ⟨(h.got i hi).1.below hb (h.got i hi).2.1, Nat.lt_of_lt_of_le (h.got i hi).2.1 hb.size, (h.got i hi).2.2⟩⟩
theorem Ph.put (h : Ph e eS sz f w W B K S M A G N C H D old k) (s : Stt w L B K A G N C) {x : Nat} (hg : W.grownBy W' (some x)) (hk2 : k < K) (hX : (A k ≠ none ∧ x = G k) ∨ w.heap.size ≤ x) (hS : x ≠ S) (hG : ∀ i, i < K → A i ≠ none → i ≠ k → x ≠ G i) (hH : ∀ i, i < k → x ≠ H i)
  (hk : A k ≠ none → Blk e sz W' (G k) (C k) ∧ Has sz W' (G k) (N k) (f k)) : Ph e eS sz f w W' B K S M A G N C H D old k := by
 have hb := h.bs
 have hB : B ≤ x := by
  rcases hX with ⟨ha, rfl⟩ | e
  ·
   exact (s.on hk2 ha).2.2.2.1
  ·
   exact Nat.le_trans s.bb e
 have hne : ∀ g, g < w.heap.size → (∀ k, k < K → A k ≠ none → g ≠ G k) → some x ≠ some g := fun g hg h0 e => by
  have e := Option.some.inj e
  rcases hX with ⟨ha, q⟩ | q
  ·
   exact h0 k hk2 ha (by rw [← e, q])
  ·
   omega
 have hlt : ∀ i, i < K → A i ≠ none → G i < W.heap.size := fun i hi ha => (hb.blk i hi ha).lt
 refine ⟨⟨hb.below.grown hg (Nat.le_trans s.bb hb.size) (fun j e => by cases e; exact hB), fun g hgl h0 => (hg.block g (Nat.lt_of_lt_of_le hgl hb.size) (fun e => hne g hgl h0 e.symm)).trans (hb.rest g hgl h0), fun i hi ha => ?_⟩, fun i hi => ?_, ?_, fun i hi => ?_⟩
 ·
  by_cases e : i = k
  ·
   subst e; exact (hk ha).1
  ·
   exact (hb.blk i hi ha).grown hg (fun q => hG i hi ha e (Option.some.inj q))
 ·
  by_cases ha : A i ≠ none
  ·
   by_cases e : i = k
   ·
    subst e; exact (hk ha).2
   ·
    exact (h.has i hi).grown hg (hlt i hi ha) (fun q => hG i hi ha e (Option.some.inj q))
  ·
   exact has_off s hi ha
 ·
  obtain ⟨cs, h1, h2⟩ := h.lies
  exact ⟨cs, (hg.block S h1.lt (fun e => hS (Option.some.inj e).symm)).trans h1, h2⟩
 ·
  exact ⟨(h.got i hi).1.grown hg (h.got i hi).2.1 (fun q => hH i hi (Option.some.inj q)), Nat.lt_of_lt_of_le (h.got i hi).2.1 hg.size, (h.got i hi).2.2⟩
theorem grownBy_set (W : World) (S j : Nat) (v : Value) : W.grownBy (W.setCell ⟨S, j, none⟩ v) (some S) := grown_setCell W ⟨S, j, none⟩ v
theorem Ph.store (hp : Ph e eS sz f w W B K S M A G N C H D old k) (s : Stt w L B K A G N C) (hSW : w.heap.size ≤ S) (hSG : ∀ i, i < K → A i ≠ none → S ≠ G i) (hk : k < K) {h d : Nat} (hh : Has sz W h (M k) (f k)) (hlt : h < W.heap.size) (hS : h ≠ S) (hG : ∀ j, j < K → A j ≠ none → j ≠ k → h ≠ G j) :
  Ph e eS sz f w (W.setCell ⟨S, k, none⟩ (.slice (some ⟨h, 0, none⟩) (N k + 64) d)) B K S M A G N C (fun i => if i = k then h else H i) (fun i => if i = k then d else D i) old (k + 1) := by
 have hg := grownBy_set W S k (.slice (some ⟨h, 0, none⟩) (N k + 64) d)
 have hb := hp.bs
 refine ⟨⟨hb.below.setCell (p := ⟨S, k, none⟩) (Nat.le_trans s.bb hSW) _, fun g hgl h0 => (hg.block g (Nat.lt_of_lt_of_le hgl hb.size) (fun e => by have := Option.some.inj e; omega)).trans (hb.rest g hgl h0), fun i hi ha => (hb.blk i hi ha).grown hg (fun q => hSG i hi ha (Option.some.inj q))⟩, fun i hi => ?_, ?_, fun i hi => ?_⟩
 ·
  by_cases ha : A i ≠ none
  ·
   exact (hp.has i hi).grown hg (hb.blk i hi ha).lt (fun q => hSG i hi ha (Option.some.inj q))
  ·
   exact has_off s hi ha
 ·
  obtain ⟨cs, h1, h2, h3⟩ := hp.lies
  refine ⟨_, h1.set k _, by simp [h2], fun i hi => ?_⟩
  rw [Array.getElem?_setIfInBounds]
  by_cases e : k = i
  ·
   subst e
   rw [if_pos rfl, if_pos (by omega)]
   simp [cellS]
  ·
   rw [if_neg e, h3 i hi]
   unfold cellS
   by_cases hik : i < k
   ·
    have q1 : i ≠ k := by omega
    simp [hik, q1, show i < k + 1 by omega]
   ·
    have q1 : ¬ i < k + 1 := by omega
    simp [hik, q1]
 ·
  by_cases e : i = k
  ·
   subst e
   simp only [if_true]
   exact ⟨hh.grown hg hlt (fun q => hS (Option.some.inj q).symm), by rw [size_set]; exact hlt, hS, hG⟩
  ·
   simp only [if_neg e]
   have hi' : i < k := by omega
   have q := hp.got i hi'
   exact ⟨q.1.grown hg q.2.1 (fun e => q.2.2.1 (Option.some.inj e).symm), by rw [size_set]; exact q.2.1, q.2.2⟩
theorem Ph.cell (h : Ph e eS sz f w W B K S M A G N C H D old K) (i : Nat) (hi : i < K) : W.cell? ⟨S, i, none⟩ = some (.slice (some ⟨H i, 0, none⟩) (N i + 64) (D i)) := by
 obtain ⟨cs, h1, h2, h3⟩ := h.lies
 have := h3 i hi
 rw [cellS, if_pos hi] at this
 exact h1.cell i this
theorem Ph.cellAt (h : Ph e eS sz f w W B K S M A G N C H D old k) (hk : k < K) : W.cell? ⟨S, k, none⟩ = some (old k) := by
 obtain ⟨cs, h1, h2, h3⟩ := h.lies
 have := h3 k hk
 rw [cellS, if_neg (by omega)] at this
 exact h1.cell k this
theorem Ph.free (h : Ph e eS sz f w W B K S M A G N C H D old k) (j : Nat) : W.frozen? ⟨S, j, none⟩ = false := by
 obtain ⟨cs, h1, _⟩ := h.lies
 exact h1.free j
theorem Ph.again (h : Ph e eS sz f w W B K S M A G N C H D old K) (M' H' D' : Nat → Nat) : Ph e eS sz f w W B K S M' A G N C H' D' (fun i => .slice (some ⟨H i, 0, none⟩) (N i + 64) (D i)) 0 := by
 refine ⟨h.bs, h.has, ?_, fun i hi => absurd hi (by omega)⟩
 obtain ⟨cs, h1, h2, h3⟩ := h.lies
 refine ⟨cs, h1, h2, fun i hi => ?_⟩
 rw [h3 i hi]
 simp [cellS, hi]
end
structure Gr (e eS : TypeId) (sz : Nat) (f : Nat → Nat → Array Value) (w W : World) (B K S : Nat) (M : Nat → Nat) (A : Nat → Option Addr) (G N C H D : Nat → Nat) (old : Nat → Value) (k j : Nat) (a : Option Addr) (h d : Nat) : Prop where
 ph : Ph e eS sz f w W B K S M A G N C H D old k
 row : W.ownsRow B e sz (.slice a (N k + j) d) (N k + j) (flatC (f k) (N k + j))
 is : a = none ∨ a = some ⟨h, 0, none⟩
 nS : a ≠ none → h ≠ S
 new : a ≠ none → (A k ≠ none ∧ h = G k) ∨ w.heap.size ≤ h
 nG : a ≠ none → ∀ i, i < K → A i ≠ none → i ≠ k → h ≠ G i
 nH : a ≠ none → ∀ i, i < k → h ≠ H i
 cap : a ≠ none → A k ≠ none → h = G k → d = C k
section
variable {eS : TypeId} {f : Nat → Nat → Array Value} {w W W' : World} {L B K S : Nat} {M : Nat → Nat} {A : Nat → Option Addr} {G N C H D : Nat → Nat} {old : Nat → Value} {k j h d : Nat} {a : Option Addr}
theorem Gr.calls (g : Gr e eS sz f w W B K S M A G N C H D old k j a h d) (s : Stt w L B K A G N C) (hb : Below W.heap.size W W') : Gr e eS sz f w W' B K S M A G N C H D old k j a h d :=
 ⟨g.ph.calls s hb, ownsRow_below g.row hb, g.is, g.nS, g.new, g.nG, g.nH, g.cap⟩
theorem Gr.start (p : Ph e eS sz f w W B K S M A G N C H D old k) (s : Stt w L B K A G N C) (hf : ∀ k i, (f k i).size = sz) (h0 : 0 < sz) (hk : k < K) (hSG : ∀ i, i < K → A i ≠ none → S ≠ G i) : Gr e eS sz f w W B K S M A G N C H D old k 0 (A k) (G k) (C k) := by
 rcases s.ok k hk with h1 | h1
 ·
  refine ⟨p, ?_, .inl h1.1, fun e => absurd h1.1 e, fun e => absurd h1.1 e, fun e => absurd h1.1 e, fun e => absurd h1.1 e, fun e => absurd h1.1 e⟩
  rw [h1.1, h1.2.1, h1.2.2]
  exact World.ownsRow_nil _ _ _ _
 ·
  have ha : A k ≠ none := by rw [h1.1]; simp
  refine ⟨p, ?_, .inr h1.1, fun _ e => hSG k hk ha e.symm, fun _ => .inl ⟨ha, rfl⟩, fun _ i hi hai hn => s.ne k i hk hi (fun e => hn e.symm) ha hai, fun _ i hi e => (p.got i hi).2.2.2 k hk ha (by omega) e.symm, fun _ _ _ => rfl⟩
  rw [h1.1]
  exact row_has (hf k) h0 (p.bs.blk k hk ha) (p.has k hk) h1.2.2.2.1 h1.2.1 h1.2.2.1
theorem Gr.step (g : Gr e eS sz f w W B K S M A G N C H D old k j a h d) (s : Stt w L B K A G N C) (hf : ∀ k i, (f k i).size = sz) (hk : k < K) {g' c' : Nat} (hr : W'.ownsRow B e sz (.slice (some ⟨g', 0, none⟩) (N k + j + 1) c') (N k + j + 1) (flatC (f k) (N k + j) ++ (f k (N k + j)).toList))
  (hch : (a = some ⟨g', 0, none⟩ ∧ c' = d ∧ W.grownBy W' (some g')) ∨ (g' = W.heap.size ∧ Below W.heap.size W W')) : Gr e eS sz f w W' B K S M A G N C H D old k (j + 1) (some ⟨g', 0, none⟩) g' c' := by
 rw [← flatC_succ] at hr
 have hp := g.ph
 rcases hch with ⟨ha, rfl, hg⟩ | ⟨rfl, hb⟩
 ·
  have ha' : a ≠ none := by rw [ha]; simp
  obtain rfl : h = g' := by
   rcases g.is with e | e
   ·
    exact absurd e ha'
   ·
    rw [e] at ha; cases ha; rfl
  refine ⟨hp.put s hg hk (g.new ha') (g.nS ha') (g.nG ha') (g.nH ha') (fun hak => ?_), hr, .inr rfl, fun _ => g.nS ha', fun _ => g.new ha', fun _ => g.nG ha', fun _ => g.nH ha', fun _ => g.cap ha'⟩
  by_cases e : h = G k
  ·
   have hc := g.cap ha' hak e
   subst e
   subst hc
   exact ⟨(blk_row hr).1, (has_row (hf k) hr).mono (by omega)⟩
  ·
   exact ⟨(hp.bs.blk k hk hak).grown hg (fun q => e (Option.some.inj q)), (hp.has k hk).grown hg (hp.bs.blk k hk hak).lt (fun q => e (Option.some.inj q))⟩
 ·
  refine ⟨hp.calls s hb, hr, .inr rfl, fun _ => ?_, fun _ => ?_, fun _ i hi ha _ => ?_, fun _ i hi => ?_, fun _ ha e => ?_⟩
  ·
   have := hp.ltS; omega
  ·
   have := hp.bs.size; omega
  ·
   have := (hp.bs.blk i hi ha).lt; omega
  ·
   have := (hp.got i hi).2.1; omega
  ·
   have := (hp.bs.blk k hk ha).lt; omega
theorem cut_has {g c n m : Nat} {q r : Nat → Array Value} (hf : ∀ i, (q i).size = sz) (hh : ∀ i, (r i).size = sz) (hr : W.ownsRow B e sz (.slice (some ⟨g, 0, none⟩) (n + m) c) (n + m) (flatC q n ++ flatC r m)) : Has sz W g n q := by
 rw [← flatC_add] at hr
 have := has_row (f := fun i => if i < n then q i else r (i - n)) (fun i => by show (if i < n then q i else r (i - n)).size = sz; by_cases e : i < n <;> simp [e, hf, hh]) hr
 exact (this.mono (Nat.le_add_right n m)).congr fun i hi => if_pos hi
theorem Gr.grow (g : Gr e eS sz f w W B K S M A G N C H D old k 0 a h d) (s : Stt w L B K A G N C) (hf : ∀ k i, (f k i).size = sz) (hk : k < K) {g' c' : Nat} {q : Nat → Array Value} (hq : ∀ i, (q i).size = sz)
  (hr : W'.ownsRow B e sz (.slice (some ⟨g', 0, none⟩) (N k + 64) c') (N k + 64) (flatC (f k) (N k) ++ flatC q 64))
  (hch : (a = some ⟨g', 0, none⟩ ∧ c' = d ∧ W.grownBy W' (some g')) ∨ (g' = W.heap.size ∧ Below W.heap.size W W')) :
  Ph e eS sz f w W' B K S M A G N C H D old k ∧ Has sz W' g' (N k) (f k) ∧ g' < W'.heap.size ∧ g' ≠ S ∧ ∀ i, i < K → A i ≠ none → i ≠ k → g' ≠ G i := by
 have h1 := cut_has (hf k) hq hr
 have h2 := (blk_row hr).1
 have hp := g.ph
 rcases hch with ⟨ha, rfl, hg⟩ | ⟨rfl, hb⟩
 ·
  have ha' : a ≠ none := by rw [ha]; simp
  obtain rfl : h = g' := by
   rcases g.is with e | e
   ·
    exact absurd e ha'
   ·
    rw [e] at ha; cases ha; rfl
  refine ⟨hp.put s hg hk (g.new ha') (g.nS ha') (g.nG ha') (g.nH ha') (fun hak => ?_), h1, h2.lt, g.nS ha', g.nG ha'⟩
  by_cases e : h = G k
  ·
   have hc := g.cap ha' hak e
   subst e
   subst hc
   exact ⟨h2, h1⟩
  ·
   exact ⟨(hp.bs.blk k hk hak).grown hg (fun q => e (Option.some.inj q)), (hp.has k hk).grown hg (hp.bs.blk k hk hak).lt (fun q => e (Option.some.inj q))⟩
 ·
  exact ⟨hp.calls s hb, h1, h2.lt, by have := hp.ltS; omega, fun i hi ha _ => by have := (hp.bs.blk i hi ha).lt; omega⟩
end
end
theorem wpList_moreE {P : Program} {w : World} {ops : Array Oper} {rest : List Oper} {o : Oper} {act : Act} {Q : Exit → Act → World → Prop} (hgd : o.guard = none) (s x : Operand) (t : TypeId) (ho : o.op = .call { callee := .builtin .append, args := #[s, x], argTypes := #[t, t] })
  (B : Nat) (e : TypeId) (sz bytes : Nat) (ht : P.underlying t = some (.slice e)) (hi : (P.info? e).map (fun i => (i.zero.map (·.cells.size), i.size, i.bytes)) = some (some sz, sz, bytes)) (a : Option Addr) (n d : Nat) (xs : List Value) (hs : act.eval s = .slice a n d) (hown : w.ownsRow B e sz (.slice a n d) n xs)
  (ad : Addr) (m c : Nat) (news : List Value) (hx : act.eval x = .slice (some ad) m c) (hl : news.length = m * sz) (hnews : ∀ j u, news[j]? = some u → w.cell? (ad.add j) = some u) (h1 : ∀ u ∈ news, u.oneCell' = true)
  (hm : 0 < m) (h63 : n + m ≤ maxLen) (hbytes : (n + m) * bytes ≤ 140737488355328) (hbase : B ≤ w.heap.size)
  (h : ∀ g' c' w', w'.ownsRow B e sz (.slice (some ⟨g', 0, none⟩) (n + m) c') (n + m) (xs ++ news) → ((a = some ⟨g', 0, none⟩ ∧ c' = d ∧ w.grownBy w' (some g')) ∨ (g' = w.heap.size ∧ Below w.heap.size w w')) → wpList P ops Q rest (act.put o.dst (.slice (some ⟨g', 0, none⟩) (n + m) c')) w') : wpList P ops Q (o :: rest) act w :=
 wpList_plain hgd fun K hK => by
  obtain ⟨g', c', w', r1, r2, r3⟩ := run_append_keepE (P := P) w B t o.type e sz bytes ht hi a n d xs hown ad m c news hl hnews h1 hm h63 hbytes hbase
  unfold Oper.wp execOp
  simp only [ho, resolve, invoke, builtin, Sem.run_bind, Sem.run_pure, Result.andThen_ok, List.map_toArray, List.map_cons, List.map_nil, hs, hx, r1]
  exact hK _ _ (h g' c' w' r2 r3)
end Go.Proofs.YtjngghihciimjaaGreat
