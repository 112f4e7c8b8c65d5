/-
  Rows of hashes that are marked, grown and looked at: what a world holds of them. An append to a row of the call's own: where it grows, the old row stays as it was.
  The mark of a place (69), and the hash of one (72). A hash of its own in a slice, and one more in a row, as steps of a plain walk.
  What a world holds while rows of hashes are marked, grown and looked at.
-/
import Derived.Test.YtgempifedhiknaaGreatDoorWrow
import Derived.Deep.MidRow
import Derived.Test.YtgempifedhiknaaGreatDoorWsh
import Derived.IntWalk
namespace Go.Proofs.YtgempifedhiknaaGreatDoor
open Go.RowKit Sha

theorem run_append_keep {P : Program} (w : World) (base : Nat) (t ty e : TypeId) (i : TypeInfo) (z : Value) (size bytes : Nat) (ht : P.underlying t = some (.slice e)) (hi : P.info? e = some i) (hz : i.zero = some z)
    (hsize : i.size = size) (hby : i.bytes = bytes) (hzs : z.cells.size = size)
    (g cap n : Nat) (xs : List Value) (hown : w.ownsRow base e size (.slice (some ⟨g, 0, none⟩) n cap) n xs)
    (a : Addr) (m c : Nat) (news : List Value) (hl : news.length = m * size) (hnews : ∀ j u, news[j]? = some u → w.cell? (a.add j) = some u) (h1 : ∀ u ∈ news, u.oneCell' = true)
    (h63 : n + m ≤ maxLen) (hbytes : (n + m) * bytes ≤ 140737488355328) (hbase : base ≤ w.heap.size) :
    ∃ g' cap' w', (Builtin.append_ #[t, t] ty #[.slice (some ⟨g, 0, none⟩) n cap, .slice (some a) m c]).run P w = .ok (.slice (some ⟨g', 0, none⟩) (n + m) cap') w' ∧
      w'.ownsRow base e size (.slice (some ⟨g', 0, none⟩) (n + m) cap') (n + m) (xs ++ news) ∧ ((g' = g ∧ cap' = cap ∧ w.grownBy w' (some g)) ∨ (g' = w.heap.size ∧ Below w.heap.size w w')) := by
  subst hsize
  subst hby
  have hsmall : n + m ≤ 9223372036854775807 := by simp only [maxLen] at h63; omega
  have hlen : (xs ++ news).length = (n + m) * i.size := by rw [List.length_append, hown.1, hl, Nat.add_mul]
  rcases hown.2 with ⟨h, _⟩ | ⟨g2, cap2, cur, heq, hbg, hg, hnc, hcm, hcs, htake⟩
  · cases h
  · obtain ⟨rfl, rfl⟩ : g2 = g ∧ cap2 = cap := by simp at heq; exact ⟨heq.1.symm, heq.2.symm⟩
    by_cases hroom : n + m ≤ cap2
    · have hfit : n * i.size + news.length ≤ cur.size := by rw [hl, hcs, ← Nat.add_mul]; exact Nat.mul_le_mul_right _ hroom
      have hr := run_append_room (P := P) w t ty e i ht hi g2 n cap2 cur hg a m c news hl hnews h1 hroom hfit
      refine ⟨_, _, _, hr, ⟨hlen, .inr ⟨g2, cap2, _, rfl, hbg, setRow_heap w g2 cur _ e _ hg, hroom, hcm, ?_, ?_⟩⟩, .inl ⟨rfl, rfl, ⟨rfl, rfl, rfl, by simp, fun k _ hk => setRow_other w g2 k _ (fun e => hk (by simp [e]))⟩⟩⟩
      · simp only [List.size_toArray, List.length_append, List.length_take, List.length_drop, Array.length_toList]
        omega
      · rw [htake, ← hlen]
        exact List.take_left
    · have holds : ∀ j u, xs[j]? = some u → w.cell? ((⟨g2, 0, none⟩ : Addr).add j) = some u := hown.cells (g := g2) rfl
      have hr := run_append_grow (P := P) w t ty e i z ht hi hz ⟨g2, 0, none⟩ n cap2 xs hown.1 holds a m c news hl hnews (by omega) (by omega) (growslice_fits (by omega) hbytes)
      have hge := grownCap_ge w (n + m) cap2 e
      have hcm' : grownCap w (n + m) cap2 e ≤ maxLen := grownCap_le_maxLen w (n + m) cap2 e h63
      refine ⟨_, _, _, hr, ⟨hlen, .inr ⟨w.heap.size, _, _, rfl, hbase, heap_alloc_new w.drew _, hge, hcm', ?_, ?_⟩⟩, .inr ⟨rfl, (Below.refl _ _).drew.alloc (Nat.le_refl _) _⟩⟩
      · simp only [Array.size_append, List.size_toArray, size_zeroCells, hzs, hown.1, hl, ← Nat.add_mul]
        congr 1
        omega
      · simp only [Array.toList_append, List.append_assoc]
        rw [← List.append_assoc, ← hlen]
        exact List.take_left

/-- A block with room for c hashes. -/
def Blk (w : World) (g c : Nat) : Prop := ∃ cs, Lies w g cs 24 ∧ cs.size = c * 32
theorem Blk.lt {w : World} {g c : Nat} (h : Blk w g c) : g < w.heap.size := by obtain ⟨cs, h, _⟩ := h; exact h.lt
theorem Blk.grown {w w' : World} {g c : Nat} {o : Option Nat} (h : Blk w g c) (hg : w.grownBy w' o) (hne : o ≠ some g) : Blk w' g c := by
  obtain ⟨cs, h1, h2⟩ := h
  exact ⟨cs, (hg.block g h1.lt (fun e => hne e.symm)).trans h1, h2⟩
theorem Blk.below {w w' : World} {g c B : Nat} (h : Blk w g c) (hb : Below B w w') (hg : g < B) : Blk w' g c := by
  obtain ⟨cs, h1, h2⟩ := h
  exact ⟨cs, h1.below hb hg, h2⟩
theorem lies_setCells {g : Nat} {t : TypeId} : ∀ (vs : List Value) (o : Nat) (w : World) (cs : Array Value), Lies w g cs t → ∃ cs', Lies (w.setCells g o vs) g cs' t ∧ cs'.size = cs.size
  | [], _, _, cs, h => ⟨cs, h, rfl⟩
  | v :: r, o, w, cs, h => by
    obtain ⟨cs', h1, h2⟩ := lies_setCells r (o + 1) (w.setCell ⟨g, o, none⟩ v) _ (h.set o v)
    exact ⟨cs', h1, h2.trans (by simp)⟩
theorem Blk.setCells {w : World} {g c : Nat} (h : Blk w g c) (o : Nat) (vs : List Value) : Blk (w.setCells g o vs) g c := by
  obtain ⟨cs, h1, h2⟩ := h
  obtain ⟨cs', h3, h4⟩ := lies_setCells vs o w cs h1
  exact ⟨cs', h3, h4.trans h2⟩
theorem lies_setCells_other {g g' : Nat} {t : TypeId} {cs : Array Value} (hne : g ≠ g') : ∀ (vs : List Value) (o : Nat) (w : World), Lies w g cs t → Lies (w.setCells g' o vs) g cs t
  | [], _, _, h => h
  | v :: r, o, w, h => lies_setCells_other hne r (o + 1) _ (h.other ⟨g', o, none⟩ v hne)
theorem Blk.setOther {w : World} {g c g' : Nat} (h : Blk w g c) (hne : g ≠ g') (o : Nat) (vs : List Value) : Blk (w.setCells g' o vs) g c := by
  obtain ⟨cs, h1, h2⟩ := h
  exact ⟨cs, lies_setCells_other hne vs o w h1, h2⟩
theorem below_setCellsA {B b : Nat} {a : World} (hb : B ≤ b) : ∀ (vs : List Value) (o : Nat) (w : World), Below B a w → Below B a (w.setCells b o vs)
  | [], _, _, h => h
  | v :: r, o, w, h => below_setCellsA hb r (o + 1) _ (h.setCell (p := ⟨b, o, none⟩) (by exact hb) v)
theorem size_setCellsA (b : Nat) : ∀ (vs : List Value) (o : Nat) (w : World), (w.setCells b o vs).heap.size = w.heap.size
  | [], _, _ => rfl
  | v :: r, o, w => (size_setCellsA b r (o + 1) _).trans (size_set _ _ _)
theorem Blk.cellAt {w : World} {g c : Nat} (h : Blk w g c) (j : Nat) (hj : j < c * 32) : ∃ v, w.cell? ⟨g, j, none⟩ = some v := by
  obtain ⟨cs, h1, h2⟩ := h
  exact ⟨cs[j]'(by omega), h1.cell j (Array.getElem?_eq_getElem (by omega))⟩
theorem Blk.there {w : World} {g c : Nat} (h : Blk w g c) (i : Nat) (hi : i < c) : w.there g (i * 32) 32 := fun j hj => by
  obtain ⟨v, hv⟩ := h.cellAt (i * 32 + j) (by omega)
  obtain ⟨cs, h1, _⟩ := h
  exact ⟨by rw [hv]; rfl, h1.free _⟩

/-- The first n hashes of a block are those that f says. -/
def Has (w : World) (g n : Nat) (f : Nat → List UInt8) : Prop := ∀ i, i < n → w.rangeAt g (i * 32) (B8 (f i)).toList
theorem Has.block {w w' : World} {g n : Nat} {f : Nat → List UInt8} (h : Has w g n f) (hk : w'.heap[g]? = w.heap[g]?) : Has w' g n f := fun i hi j v hv => by
  have := h i hi j v hv
  rw [← this]
  unfold World.cell?
  simp only [hk]
theorem Has.grown {w w' : World} {g n : Nat} {f : Nat → List UInt8} {o : Option Nat} (h : Has w g n f) (hg : w.grownBy w' o) (hlt : g < w.heap.size) (hne : o ≠ some g) : Has w' g n f := h.block (hg.block g hlt (fun e => hne e.symm))
theorem Has.below {w w' : World} {g n B : Nat} {f : Nat → List UInt8} (h : Has w g n f) (hb : Below B w w') (hg : g < B) : Has w' g n f := h.block (hb.block g hg)
theorem Has.mono {w : World} {g n m : Nat} {f : Nat → List UInt8} (h : Has w g n f) (hm : m ≤ n) : Has w g m f := fun i hi => h i (by omega)
theorem Has.zero (w : World) (g : Nat) (f : Nat → List UInt8) : Has w g 0 f := fun i hi => absurd hi (by omega)
theorem Has.congr {w : World} {g n : Nat} {f h : Nat → List UInt8} (hh : Has w g n f) (he : ∀ i, i < n → f i = h i) : Has w g n h := fun i hi => by rw [← he i hi]; exact hh i hi
theorem Has.setOther {w : World} {g n g' : Nat} {f : Nat → List UInt8} (h : Has w g n f) (hne : g ≠ g') (o : Nat) (vs : List Value) : Has (w.setCells g' o vs) g n f := fun i hi => World.rangeAt_setCells_apart (h i hi) _ _ _ (.inl hne)
/-- One more is marked. -/
theorem Has.step {w : World} {g n c : Nat} {f : Nat → List UInt8} (h : Has w g n f) (hb : Blk w g c) (hn : n < c) (hf : ∀ i, (f i).length = 32) : Has (w.setCells g (n * 32) (B8 (f n)).toList) g (n + 1) f := fun i hi => by
  have hl : ∀ i, (B8 (f i)).toList.length = 32 := fun i => by rw [Array.length_toList, B8_size, hf]
  by_cases he : i = n
  · subst he
    exact World.rangeAt_setCells_same _ _ _ _ (by rw [hl]; exact hb.there i hn)
  · exact World.rangeAt_setCells_apart (h i (by omega)) _ _ _ (.inr (.inl (by rw [hl]; omega)))
/-- f's first n hashes in a row. -/
def flatF (f : Nat → List UInt8) (n : Nat) : List UInt8 := (List.range n).flatMap f
theorem flatF_succ (f : Nat → List UInt8) (n : Nat) : flatF f (n + 1) = flatF f n ++ f n := by simp [flatF, List.range_succ]
theorem flatF_length {f : Nat → List UInt8} (hf : ∀ i, (f i).length = 32) : ∀ n, (flatF f n).length = n * 32
  | 0 => rfl
  | n + 1 => by rw [flatF_succ, List.length_append, flatF_length hf n, hf]; omega
theorem flatF_get {f : Nat → List UInt8} (hf : ∀ i, (f i).length = 32) : ∀ n i j, i < n → j < 32 → (flatF f n).getD (i * 32 + j) 0 = (f i).getD j 0
  | 0, _, _, h, _ => absurd h (by omega)
  | n + 1, i, j, h, hj => by
    rw [flatF_succ]
    simp only [List.getD_eq_getElem?_getD]
    by_cases he : i = n
    · subst he
      rw [List.getElem?_append_right (by rw [flatF_length hf]; omega), flatF_length hf, show i * 32 + j - i * 32 = j by omega]
    · rw [List.getElem?_append_left (by rw [flatF_length hf]; omega)]
      have := flatF_get hf n i j (by omega) hj
      simpa only [List.getD_eq_getElem?_getD] using this
theorem flatF_add {f h : Nat → List UInt8} (n : Nat) : ∀ m, flatF (fun i => if i < n then f i else h (i - n)) (n + m) = flatF f n ++ flatF h m
  | 0 => by
    unfold flatF
    simp only [Nat.add_zero, List.range_zero, List.flatMap_nil, List.append_nil]
    rw [List.flatMap_def, List.flatMap_def]
    congr 1
    exact List.map_congr_left fun i hi => if_pos (List.mem_range.1 hi)
  | m + 1 => by
    rw [← Nat.add_assoc, flatF_succ, flatF_add n m, flatF_succ, List.append_assoc, if_neg (by omega), show n + m - n = m by omega]
/-- A row of the call's own has what its list says. -/
theorem has_row {w : World} {B n g c : Nat} {f : Nat → List UInt8} (hf : ∀ i, (f i).length = 32) (h : RowH B n (flatF f n) (.slice (some ⟨g, 0, none⟩) n c) w) : Has w g n f := fun i hi j v hv => by
  have hj : j < 32 := by
    have := (List.getElem?_eq_some_iff.1 hv).1
    rwa [Array.length_toList, B8_size, hf] at this
  have h1 := h.src (i * 32 + j) (by rw [flatF_length hf]; omega)
  rw [flatF_get hf n i j hi hj, Nat.zero_add] at h1
  rw [h1]
  rw [Array.getElem?_toList, B8_get _ j (by rw [hf]; exact hj)] at hv
  exact hv
theorem blk_row {w : World} {B n g c : Nat} {l : List UInt8} (h : RowH B n l (.slice (some ⟨g, 0, none⟩) n c) w) : Blk w g c ∧ B ≤ g ∧ n ≤ c ∧ c ≤ maxLen := by
  rcases h.2 with ⟨e, _⟩ | ⟨g2, cap2, cur, e, hb, hg, h1, h2, h3, _⟩
  · cases e
  · obtain ⟨rfl, rfl⟩ : g2 = g ∧ cap2 = c := by simp at e; exact ⟨e.1.symm, e.2.symm⟩
    exact ⟨⟨cur, hg, h3⟩, hb, h1, h2⟩
theorem row_has {w : World} {B n g c : Nat} {f : Nat → List UInt8} (hf : ∀ i, (f i).length = 32) (hb : Blk w g c) (h : Has w g n f) (hB : B ≤ g) (hn : n ≤ c) (hc : c ≤ maxLen) : RowH B n (flatF f n) (.slice (some ⟨g, 0, none⟩) n c) w := by
  obtain ⟨cs, h1, h2⟩ := hb
  refine ⟨by rw [Array.length_toList, B8_size, flatF_length hf], .inr ⟨g, c, cs, rfl, hB, h1, hn, hc, h2, ?_⟩⟩
  apply List.ext_getElem?
  intro j
  by_cases hj : j < n * 32
  · rw [List.getElem?_take_of_lt hj, Array.getElem?_toList, Array.getElem?_toList, B8_get _ j (by rw [flatF_length hf]; exact hj)]
    have e1 := h (j / 32) (by omega) (j % 32) (.int .u8 ((f (j / 32)).getD (j % 32) 0).toNat) (by rw [Array.getElem?_toList]; exact B8_get _ _ (by rw [hf]; omega))
    rw [show j / 32 * 32 + j % 32 = j by omega] at e1
    have e2 := h1.cell j (Array.getElem?_eq_getElem (show j < cs.size by rw [h2]; have := Nat.mul_le_mul_right 32 hn; omega))
    have e3 := flatF_get hf n (j / 32) (j % 32) (by omega) (by omega)
    rw [show j / 32 * 32 + j % 32 = j by omega] at e3
    rw [e3, Array.getElem?_eq_getElem (show j < cs.size by rw [h2]; have := Nat.mul_le_mul_right 32 hn; omega), ← e2, e1]
  · rw [List.getElem?_eq_none (by rw [List.length_take]; omega), List.getElem?_eq_none (by rw [Array.length_toList, B8_size, flatF_length hf]; omega)]
/-- The mark of a place. -/
def mkH (k i : Nat) : List UInt8 := UInt8.ofNat (1000003 * (k + 7) + i) :: List.replicate 31 0
theorem mkH_length (k i : Nat) : (mkH k i).length = 32 := rfl
/-- One hash more: where it grows, the old row stays. -/
theorem run_moreK {B k : Nat} {l : List UInt8} {g0 c0 : Nat} {w : World} (hr : RowH B k l (.slice (some ⟨g0, 0, none⟩) k c0) w) (hk : k ≤ 1000) (hB : B ≤ w.heap.size) (g m cc : Nat) (h : List UInt8) (hh : h.length = m * 32) (hm : m ≤ 1000) (hl : Src w g 0 h) (ty : TypeId) :
    ∃ g' c' w', (Builtin.append_ #[26, 26] ty #[.slice (some ⟨g0, 0, none⟩) k c0, .slice (some ⟨g, 0, none⟩) m cc]).run Tryz.prog w = .ok (.slice (some ⟨g', 0, none⟩) (k + m) c') w' ∧ RowH B (k + m) (l ++ h) (.slice (some ⟨g', 0, none⟩) (k + m) c') w' ∧
      ((g' = g0 ∧ c' = c0 ∧ w.grownBy w' (some g0)) ∨ (g' = w.heap.size ∧ Below w.heap.size w w')) := by
  obtain ⟨i0, hi0, hz0, hz1, hz2⟩ := info_parts info26c
  obtain ⟨g', c', w', h1, h2, h3⟩ := run_append_keep (P := Tryz.prog) w B 26 ty 24 i0 (.agg z32) 32 32 Tryz.underlying26 hi0 hz0 hz1 hz2 rfl g0 c0 k (B8 l).toList hr ⟨g, 0, none⟩ m cc (B8 h).toList (by rw [Array.length_toList, B8_size, hh]) (src_news hl) (byts_one _) (by unfold maxLen; omega) (by omega) hB
  have e : (B8 (l ++ h)).toList = (B8 l).toList ++ (B8 h).toList := by simp [B8]
  refine ⟨g', c', w', h1, ?_, h3⟩
  unfold RowH
  rw [e]; exact h2
end Go.Proofs.YtgempifedhiknaaGreatDoor
namespace Go.Proofs.YtgempifedhiknaaGreatDoor
open Go.RowKit Go.Shelf Sha

theorem mark_any (k i : Nat) (hk : k < 4) (hi : i < 200) (w : World) : Calls Tryz.prog 69 #[.int .i64 k, .int .i64 i] w fun e w' => e = .returned (.int .i64 ((1000003 * (k + 7) + i : Nat) : Int)) ∧ w = w' := by
  obtain ⟨n, hn⟩ : ∃ n : Nat, n = 1000003 * (k + 7) + i := ⟨_, rfl⟩
  have e1 : IntKind.i64.wrap ((k : Int) + 7) = ((k + 7 : Nat) : Int) := by rw [IntWalk.i64_in _ (by omega)]; omega
  have e2 : IntKind.i64.wrap (1000003 * ((k + 7 : Nat) : Int)) = ((1000003 * (k + 7) : Nat) : Int) := by rw [IntWalk.i64_in _ (by omega)]; omega
  have e3 : IntKind.i64.wrap (((1000003 * (k + 7) : Nat) : Int) + (i : Int)) = (n : Int) := by rw [IntWalk.i64_in _ (by omega)]; omega
  rw [← hn]
  obtain ⟨a, ha⟩ : ∃ a : Int, a = ((k + 7 : Nat) : Int) := ⟨_, rfl⟩
  obtain ⟨b, hb⟩ : ∃ b : Int, b = ((1000003 * (k + 7) : Nat) : Int) := ⟨_, rfl⟩
  rw [← ha] at e1 e2
  rw [← hb] at e2 e3
  clear ha hb hn
  go_enter Tryz.func69, Tryz.ntmps69
  go_wp2
  go_ret
  exact ⟨rfl, rfl⟩
theorem built24m (b : UInt8) : Tryz.prog.built 24 [(0, .int .u8 b.toNat)] = some (B8 (b :: List.replicate 31 0)) := by kernel_rfl
theorem wpList_build_M {w : World} {ops : Array Oper} {rest : List Oper} {o : Oper} {a : Act} {Q : Exit → Act → World → Prop} (hg : o.guard = none) (parts : Array (Nat × Operand)) (ho : o.op = .build 24 parts) (b : UInt8)
    (hp : (parts.map fun (i, x) => (i, a.eval x)).toList = [(0, .int .u8 b.toNat)])
    (h : wpList Tryz.prog ops Q rest (a.put o.dst (.agg (B8 (b :: List.replicate 31 0)))) w) : wpList Tryz.prog ops Q (o :: rest) a w := by
  refine wpList_build hg 24 parts ho (by rw [hp, built24m]; rfl) ?_
  rw [hp, built24m]
  exact h
theorem info24z : (Tryz.prog.info? 24).map (·.size) = some 32 := by kernel_rfl
set_option maxRecDepth 100000 in
set_option maxHeartbeats 1000000 in
theorem mkH_any (k i : Nat) (hk : k < 4) (hi : i < 200) (w : World) : Calls Tryz.prog 72 #[.int .i64 k, .int .i64 i] w fun e w' => e = .returned (.agg (B8 (mkH k i))) ∧ Below w.heap.size w w' := by
  obtain ⟨n, hn⟩ : ∃ n : Nat, n = 1000003 * (k + 7) + i := ⟨_, rfl⟩
  have hm := mark_any k i hk hi w
  have hm2 : ∀ w, Calls Tryz.prog 69 #[.int .i64 k, .int .i64 i] w fun e w' => e = .returned (.int .i64 (n : Int)) ∧ w = w' := fun w => by rw [hn]; exact mark_any k i hk hi w
  obtain ⟨b, hb⟩ : ∃ b : UInt8, b = UInt8.ofNat n := ⟨_, rfl⟩
  have hw : IntKind.u8.wrap (n : Int) = (b.toNat : Int) := by
    rw [hb, IntKind.wrap_u8]
    show (n : Int) % 256 = ((n % 256 : Nat) : Int)
    omega
  have hmk : mkH k i = b :: List.replicate 31 0 := by unfold mkH; rw [hb, hn]
  rw [hmk]
  have HM := Lib.hid hm2
  clear hm hm2 hb hn hmk
  go_enter Tryz.func72, Tryz.ntmps72
  go_wp2_with (first | (go_at_call 69; refine (HM.out _).mono ?_; rintro e w' ⟨rfl, rfl⟩) | (refine wpList_build_M rfl _ rfl b rfl ?_) | (refine wpList_store_row rfl 24 _ _ rfl w.heap.size (B8 (b :: List.replicate 31 0)) rfl rfl 24 z32 (Lies.new w z32 24) info24z rfl (B8_one _) ?_))
  refine bodyPost_ret (v := .agg (B8 (b :: List.replicate 31 0))) (results_cell_row (p := 4) (ty := 24) (by kernel_rfl) _ _ w.heap.size 24 (B8 (b :: List.replicate 31 0)) (0, 0) _ rfl ((Lies.new w z32 24).setRow _) Tryz.underlying24 rfl info24z) rfl ⟨rfl, ?_⟩
  exact below_setRow ((Below.refl _ _).alloc (Nat.le_refl _) _) _ _ (Nat.le_refl _)
/-- A hash in a slice of its own. -/
theorem wpList_oneM {w : World} {ops : Array Oper} {rest : List Oper} {o : Oper} {a : Act} {Q : Exit → Act → World → Prop} (hg : o.guard = none) (x : Operand) (ho : o.op = .buildSlice 26 1 #[(0, x)]) (h : List UInt8) (hh : h.length = 32) (hx : a.eval x = .agg (B8 h))
    (k : wpList Tryz.prog ops Q rest (a.put o.dst (.slice (some ⟨w.heap.size, 0, none⟩) 1 1)) (w.alloc (.cells (B8 h) 24))) : wpList Tryz.prog ops Q (o :: rest) a w :=
  wpList_plain hg fun K hK => by
    unfold Oper.wp
    rw [exec_oneH x ho h hh hx]
    exact hK _ _ k
/-- More hashes in a row of the call's own. -/
theorem wpList_moreM {w : World} {ops : Array Oper} {rest : List Oper} {o : Oper} {a : Act} {Q : Exit → Act → World → Prop} (hg : o.guard = none) (s x : Operand) (ho : o.op = .call { callee := .builtin .append, args := #[s, x], argTypes := #[26, 26] })
    {B n : Nat} {l : List UInt8} {g0 c0 : Nat} (hr : RowH B n l (.slice (some ⟨g0, 0, none⟩) n c0) w) (hn : n ≤ 1000) (hB : B ≤ w.heap.size) (g m cc : Nat) (h : List UInt8) (hh : h.length = m * 32) (hm : m ≤ 1000) (hl : Src w g 0 h)
    (hs : a.eval s = .slice (some ⟨g0, 0, none⟩) n c0) (hx : a.eval x = .slice (some ⟨g, 0, none⟩) m cc)
    (k : ∀ g' c' w', RowH B (n + m) (l ++ h) (.slice (some ⟨g', 0, none⟩) (n + m) c') w' → ((g' = g0 ∧ c' = c0 ∧ w.grownBy w' (some g0)) ∨ (g' = w.heap.size ∧ Below w.heap.size w w')) → wpList Tryz.prog ops Q rest (a.put o.dst (.slice (some ⟨g', 0, none⟩) (n + m) c')) w') : wpList Tryz.prog ops Q (o :: rest) a w :=
  wpList_plain hg fun K hK => by
    obtain ⟨g', c', w', h1, h2, h3⟩ := run_moreK hr hn hB g m cc h hh hm hl o.type
    unfold Oper.wp execOp
    simp only [ho, resolve, invoke, builtin, Sem.run_bind, Sem.run_pure, Result.andThen_ok, List.map_toArray, List.map_cons, List.map_nil, hs, hx, h1]
    exact hK _ _ (k g' c' w' h2 h3)
end Go.Proofs.YtgempifedhiknaaGreatDoor
namespace Go.Proofs.YtgempifedhiknaaGreatDoor
open Go.RowKit Go.Shelf Sha

theorem cell_block {w w' : World} {g : Nat} (h : w'.heap[g]? = w.heap[g]?) (j : Nat) : w'.cell? ⟨g, j, none⟩ = w.cell? ⟨g, j, none⟩ := by
  unfold World.cell?
  simp only [h]
theorem heap_setCellsA (g : Nat) {i : Nat} (hne : i ≠ g) : ∀ (vs : List Value) (o : Nat) (w : World), (w.setCells g o vs).heap[i]? = w.heap[i]?
  | [], _, _ => rfl
  | v :: r, o, w => (heap_setCellsA g hne r (o + 1) _).trans (heap_setCell_other w ⟨g, o, none⟩ i v hne)
/-- Two rows of 35 hashes, in two blocks of the call's own; a list of them. -/
structure Stt (w : World) (L B : Nat) (G C : Nat → Nat) : Prop where
  lt : L < w.heap.size
  cell : ∀ k, k < 2 → w.cell? ⟨L, k, none⟩ = some (.slice (some ⟨G k, 0, none⟩) 35 (C k))
  cap : ∀ k, k < 2 → 35 ≤ C k ∧ C k ≤ maxLen
  base : ∀ k, k < 2 → B ≤ G k ∧ G k < w.heap.size
  ne : G 0 ≠ G 1
  neL : ∀ k, k < 2 → G k ≠ L
  bb : B ≤ w.heap.size
structure Bs (w W : World) (L B : Nat) (G C : Nat → Nat) : Prop where
  below : Below B w W
  rest : ∀ g, g < w.heap.size → g ≠ G 0 → g ≠ G 1 → W.heap[g]? = w.heap[g]?
  blk : ∀ k, k < 2 → Blk W (G k) (C k)
section
variable {w W W' : World} {L B : Nat} {G C : Nat → Nat}
theorem Stt.apart (s : Stt w L B G C) {i j : Nat} (hi : i < 2) (hj : j < 2) (h : i ≠ j) : G i ≠ G j := by
  have hne := s.ne
  have : (i = 0 ∧ j = 1) ∨ (i = 1 ∧ j = 0) := by omega
  rcases this with ⟨rfl, rfl⟩ | ⟨rfl, rfl⟩
  · exact hne
  · exact fun e => hne e.symm
theorem Bs.size (h : Bs w W L B G C) : w.heap.size ≤ W.heap.size := h.below.size
theorem Bs.row (h : Bs w W L B G C) (s : Stt w L B G C) : W.heap[L]? = w.heap[L]? := h.rest L s.lt (fun e => s.neL 0 (by omega) e.symm) (fun e => s.neL 1 (by omega) e.symm)
theorem Bs.cell (h : Bs w W L B G C) (s : Stt w L B G C) (k : Nat) (hk : k < 2) : W.cell? ⟨L, k, none⟩ = some (.slice (some ⟨G k, 0, none⟩) 35 (C k)) := (cell_block (h.row s) k).trans (s.cell k hk)
theorem Bs.calls (h : Bs w W L B G C) (s : Stt w L B G C) (hb : Below W.heap.size W W') : Bs w W' L B G C :=
  ⟨h.below.trans (hb.mono (Nat.le_trans s.bb h.size)), fun g hg h0 h1 => (hb.block g (Nat.lt_of_lt_of_le hg h.size)).trans (h.rest g hg h0 h1), fun k hk => (h.blk k hk).below hb (h.blk k hk).lt⟩
theorem Bs.mark (h : Bs w W L B G C) (s : Stt w L B G C) {k : Nat} (hk : k < 2) (o : Nat) (vs : List Value) : Bs w (W.setCells (G k) o vs) L B G C := by
  refine ⟨below_setCellsA (s.base k hk).1 vs o W h.below, fun g hg h0 h1 => (heap_setCellsA (G k) (fun e => ?_) vs o W).trans (h.rest g hg h0 h1), fun i hi => ?_⟩
  · have : k = 0 ∨ k = 1 := by omega
    rcases this with rfl | rfl
    · exact h0 e
    · exact h1 e
  · by_cases e : i = k
    · subst e; exact (h.blk i hi).setCells o vs
    · exact (h.blk i hi).setOther (s.apart hi hk e) o vs
theorem Bs.there (h : Bs w W L B G C) (s : Stt w L B G C) {k j : Nat} (hk : k < 2) (hj : j < 35) : W.there (G k) (j * 32) 32 := (h.blk k hk).there j (by have := (s.cap k hk).1; omega)
end
/-- What the list of the grown rows has at a place. -/
def cellS (H D : Nat → Nat) (old : Nat → Value) (k i : Nat) : Value := if i < k then .slice (some ⟨H i, 0, none⟩) 99 (D i) else old i
def rowS (H D : Nat → Nat) (old : Nat → Value) (k : Nat) : Array Value := #[cellS H D old k 0, cellS H D old k 1]
/-- The first k rows are grown. -/
structure Ph (w W : World) (L B S n : Nat) (G C H D : Nat → Nat) (old : Nat → Value) (k : Nat) : Prop where
  bs : Bs w W L B G C
  has : ∀ i, i < 2 → Has W (G i) 35 (mkH i)
  lies : Lies W S (rowS H D old k) 26
  got : ∀ i, i < k → Has W (H i) n (mkH i) ∧ H i < W.heap.size ∧ H i ≠ S ∧ ∀ j, j < 2 → j ≠ i → H i ≠ G j
section
variable {w W W' : World} {L B S n : Nat} {G C H D : Nat → Nat} {old : Nat → Value} {k : Nat}
theorem Ph.calls (h : Ph w W L B S n G C H D old k) (s : Stt w L B G C) (hb : Below W.heap.size W W') : Ph w W' L B S n G C H D old k :=
  ⟨h.bs.calls s hb, fun i hi => (h.has i hi).below hb (h.bs.blk i hi).lt, h.lies.below hb h.lies.lt, fun i hi => ⟨(h.got i hi).1.below hb (h.got i hi).2.1, Nat.lt_of_lt_of_le (h.got i hi).2.1 hb.size, (h.got i hi).2.2⟩⟩
/-- One block is written, which is none of the others'. -/
theorem Ph.put (h : Ph w W L B S n G C H D old k) (s : Stt w L B G C) {x : Nat} (hg : W.grownBy W' (some x)) (hk2 : k < 2) (hX : x = G k ∨ w.heap.size ≤ x) (hS : x ≠ S) (hG : ∀ i, i < 2 → i ≠ k → x ≠ G i) (hH : ∀ i, i < k → x ≠ H i)
    (hk : Blk W' (G k) (C k) ∧ Has W' (G k) 35 (mkH k)) : Ph w W' L B S n G C H D old k := by
  have hb := h.bs
  have hB : B ≤ x := by
    rcases hX with rfl | e
    · exact (s.base k hk2).1
    · exact Nat.le_trans s.bb e
  have hne : ∀ g, g < w.heap.size → g ≠ G 0 → g ≠ G 1 → some x ≠ some g := fun g hg h0 h1 e => by
    have e := Option.some.inj e
    rcases hX with rfl | q
    · have : k = 0 ∨ k = 1 := by omega
      rcases this with rfl | rfl
      · exact h0 e.symm
      · exact h1 e.symm
    · omega
  have hlt : ∀ i, i < 2 → G i < W.heap.size := fun i hi => (hb.blk i hi).lt
  refine ⟨⟨hb.below.grown hg (Nat.le_trans s.bb hb.size) (fun j e => by cases e; exact hB), fun g hgl h0 h1 => (hg.block g (Nat.lt_of_lt_of_le hgl hb.size) (fun e => hne g hgl h0 h1 e.symm)).trans (hb.rest g hgl h0 h1), fun i hi => ?_⟩, fun i hi => ?_, (hg.block S h.lies.lt (fun e => hS (Option.some.inj e).symm)).trans h.lies, fun i hi => ?_⟩
  · by_cases e : i = k
    · subst e; exact hk.1
    · exact (hb.blk i hi).grown hg (fun q => hG i hi e (Option.some.inj q))
  · by_cases e : i = k
    · subst e; exact hk.2
    · exact (h.has i hi).grown hg (hlt i hi) (fun q => hG i hi e (Option.some.inj q))
  · exact ⟨(h.got i hi).1.grown hg (h.got i hi).2.1 (fun q => hH i hi (Option.some.inj q)), Nat.lt_of_lt_of_le (h.got i hi).2.1 hg.size, (h.got i hi).2.2⟩
theorem grownBy_set (W : World) (S j : Nat) (v : Value) : W.grownBy (W.setCell ⟨S, j, none⟩ v) (some S) := grown_set (grown_refl W (some S)) j v
theorem rowS_set (H D : Nat → Nat) (old : Nat → Value) (k h d : Nat) (hk : k < 2) : (rowS H D old k).setIfInBounds k (.slice (some ⟨h, 0, none⟩) 99 d) = rowS (fun i => if i = k then h else H i) (fun i => if i = k then d else D i) old (k + 1) := by
  have : k = 0 ∨ k = 1 := by omega
  rcases this with rfl | rfl
  · simp [rowS, cellS]
  · simp [rowS, cellS]
/-- A grown row is laid at its place in the list. -/
theorem Ph.store (hp : Ph w W L B S n G C H D old k) (s : Stt w L B G C) (hSW : w.heap.size ≤ S) (hSG : ∀ i, i < 2 → S ≠ G i) (hk : k < 2) {h d : Nat} (hh : Has W h n (mkH k)) (hlt : h < W.heap.size) (hS : h ≠ S) (hG : ∀ j, j < 2 → j ≠ k → h ≠ G j) :
    Ph w (W.setCell ⟨S, k, none⟩ (.slice (some ⟨h, 0, none⟩) 99 d)) L B S n G C (fun i => if i = k then h else H i) (fun i => if i = k then d else D i) old (k + 1) := by
  have hg := grownBy_set W S k (.slice (some ⟨h, 0, none⟩) 99 d)
  have hb := hp.bs
  refine ⟨⟨hb.below.setCell (p := ⟨S, k, none⟩) (Nat.le_trans s.bb hSW) _, fun g hgl h0 h1 => (hg.block g (Nat.lt_of_lt_of_le hgl hb.size) (fun e => by have := Option.some.inj e; omega)).trans (hb.rest g hgl h0 h1), fun i hi => (hb.blk i hi).grown hg (fun q => hSG i hi (Option.some.inj q))⟩, fun i hi => (hp.has i hi).grown hg (hb.blk i hi).lt (fun q => hSG i hi (Option.some.inj q)), ?_, fun i hi => ?_⟩
  · have := hp.lies.set k (.slice (some ⟨h, 0, none⟩) 99 d)
    rwa [rowS_set H D old k h d hk] at this
  · by_cases e : i = k
    · subst e
      simp only [if_true]
      exact ⟨hh.grown hg hlt (fun q => hS (Option.some.inj q).symm), by rw [size_set]; exact hlt, hS, hG⟩
    · simp only [if_neg e]
      have hi' : i < k := by omega
      have q := hp.got i hi'
      exact ⟨q.1.grown hg q.2.1 (fun e => q.2.2.1 (Option.some.inj e).symm), by rw [size_set]; exact q.2.1, q.2.2⟩
theorem Ph.cell (h : Ph w W L B S n G C H D old 2) (i : Nat) (hi : i < 2) : W.cell? ⟨S, i, none⟩ = some (.slice (some ⟨H i, 0, none⟩) 99 (D i)) := by
  have : i = 0 ∨ i = 1 := by omega
  rcases this with rfl | rfl
  · exact h.lies.cell 0 (by simp [rowS, cellS])
  · exact h.lies.cell 1 (by simp [rowS, cellS])
/-- The list of the grown rows, where the rows are to be grown again. -/
theorem Ph.again (h : Ph w W L B S n G C H D old 2) (m : Nat) (H' D' : Nat → Nat) : Ph w W L B S m G C H' D' (fun i => .slice (some ⟨H i, 0, none⟩) 99 (D i)) 0 := by
  refine ⟨h.bs, h.has, ?_, fun i hi => absurd hi (by omega)⟩
  have := h.lies
  simpa [rowS, cellS] using this
end
theorem row_below {w w' : World} {B n : Nat} {l : List UInt8} {v : Value} (h : RowH B n l v w) (hb : Below w.heap.size w w') : RowH B n l v w' := h.kept (grown_below hb none) (fun _ _ e => by cases e)
/-- The row at work: the k-th one has j more. -/
structure Gr (w W : World) (L B S : Nat) (G C H D : Nat → Nat) (old : Nat → Value) (k j h d : Nat) : Prop where
  ph : Ph w W L B S 99 G C H D old k
  row : RowH B (35 + j) (flatF (mkH k) (35 + j)) (.slice (some ⟨h, 0, none⟩) (35 + j) d) W
  nS : h ≠ S
  new : h = G k ∨ w.heap.size ≤ h
  nG : ∀ i, i < 2 → i ≠ k → h ≠ G i
  nH : ∀ i, i < k → h ≠ H i
  cap : h = G k → d = C k
section
variable {w W W' : World} {L B S n : Nat} {G C H D : Nat → Nat} {old : Nat → Value} {k j h d : Nat}
theorem Gr.calls (g : Gr w W L B S G C H D old k j h d) (s : Stt w L B G C) (hb : Below W.heap.size W W') : Gr w W' L B S G C H D old k j h d :=
  ⟨g.ph.calls s hb, row_below g.row hb, g.nS, g.new, g.nG, g.nH, g.cap⟩
theorem Gr.start (p : Ph w W L B S 99 G C H D old k) (s : Stt w L B G C) (hk : k < 2) (hSG : ∀ i, i < 2 → S ≠ G i) : Gr w W L B S G C H D old k 0 (G k) (C k) :=
  ⟨p, row_has (mkH_length k) (p.bs.blk k hk) (p.has k hk) (s.base k hk).1 (s.cap k hk).1 (s.cap k hk).2, fun e => hSG k hk e.symm, .inl rfl, fun _ hi hn => s.apart hk hi (fun e => hn e.symm), fun i hi e => (p.got i hi).2.2.2 k hk (by omega) e.symm, fun _ => rfl⟩
/-- Whether it grew or not: it has one more, and nothing else turned. -/
theorem Gr.step (g : Gr w W L B S G C H D old k j h d) (s : Stt w L B G C) (hk : k < 2) {g' c' : Nat} (hr : RowH B (35 + j + 1) (flatF (mkH k) (35 + j) ++ mkH k (35 + j)) (.slice (some ⟨g', 0, none⟩) (35 + j + 1) c') W')
    (hch : (g' = h ∧ c' = d ∧ W.grownBy W' (some h)) ∨ (g' = W.heap.size ∧ Below W.heap.size W W')) : Gr w W' L B S G C H D old k (j + 1) g' c' := by
  rw [← flatF_succ] at hr
  have hp := g.ph
  rcases hch with ⟨rfl, rfl, hg⟩ | ⟨rfl, hb⟩
  · refine ⟨hp.put s hg hk g.new g.nS g.nG g.nH ?_, hr, g.nS, g.new, g.nG, g.nH, g.cap⟩
    by_cases e : g' = G k
    · have hc := g.cap e
      subst e
      subst hc
      exact ⟨(blk_row hr).1, (has_row (mkH_length k) hr).mono (by omega)⟩
    · exact ⟨(hp.bs.blk k hk).grown hg (fun q => e (Option.some.inj q)), (hp.has k hk).grown hg (hp.bs.blk k hk).lt (fun q => e (Option.some.inj q))⟩
  · refine ⟨hp.calls s hb, hr, ?_, ?_, ?_, ?_, ?_⟩
    · have := hp.lies.lt; omega
    · have := hp.bs.size; omega
    · intro i hi _; have := (hp.bs.blk i hi).lt; omega
    · intro i hi; have := (hp.got i hi).2.1; omega
    · intro e; have := (hp.bs.blk k hk).lt; omega
theorem cut_has {g c m : Nat} {f q : Nat → List UInt8} (hf : ∀ i, (f i).length = 32) (hh : ∀ i, (q i).length = 32) (hr : RowH B (n + m) (flatF f n ++ flatF q m) (.slice (some ⟨g, 0, none⟩) (n + m) c) W) : Has W g n f := by
  rw [← flatF_add] at hr
  have := has_row (f := fun i => if i < n then f i else q (i - n)) (fun i => by show (if i < n then f i else q (i - n)).length = 32; by_cases e : i < n <;> simp [e, hf, hh]) hr
  exact (this.mono (Nat.le_add_right n m)).congr fun i hi => if_pos hi
/-- Many at once. -/
theorem Ph.grow (p : Ph w W L B S n G C H D old k) (s : Stt w L B G C) (hSG : ∀ i, i < 2 → S ≠ G i) (hk : k < 2) {g' c' : Nat} {q : Nat → List UInt8} (hq : ∀ i, (q i).length = 32)
    (hr : RowH B (35 + 64) (flatF (mkH k) 35 ++ flatF q 64) (.slice (some ⟨g', 0, none⟩) (35 + 64) c') W')
    (hch : (g' = G k ∧ c' = C k ∧ W.grownBy W' (some (G k))) ∨ (g' = W.heap.size ∧ Below W.heap.size W W')) :
    Ph w W' L B S n G C H D old k ∧ Has W' g' 35 (mkH k) ∧ g' < W'.heap.size ∧ g' ≠ S ∧ ∀ i, i < 2 → i ≠ k → g' ≠ G i := by
  have h1 := cut_has (mkH_length k) hq hr
  have h2 := (blk_row hr).1
  rcases hch with ⟨rfl, rfl, hg⟩ | ⟨rfl, hb⟩
  · exact ⟨p.put s hg hk (.inl rfl) (fun e => hSG k hk e.symm) (fun _ hi hn => s.apart hk hi (fun e => hn e.symm)) (fun i hi e => (p.got i hi).2.2.2 k hk (by omega) e.symm) ⟨h2, h1⟩,
      h1, h2.lt, fun e => hSG k hk e.symm, fun _ hi hn => s.apart hk hi (fun e => hn e.symm)⟩
  · exact ⟨p.calls s hb, h1, h2.lt, by have := p.lies.lt; omega, fun i hi _ => by have := (p.bs.blk i hi).lt; omega⟩
end
theorem src_new (W : World) (h : List UInt8) : Src (W.alloc (.cells (B8 h) 24)) W.heap.size 0 h := fun j hj => by
  rw [Nat.zero_add]
  exact (Lies.new W (B8 h) 24).cell j (B8_get h j hj)
theorem src_has {W : World} {M n : Nat} {f : Nat → List UInt8} (hf : ∀ i, (f i).length = 32) (h : Has W M n f) : Src W M 0 (flatF f n) := fun j hj => by
  rw [flatF_length hf] at hj
  rw [Nat.zero_add]
  have e1 := h (j / 32) (by omega) (j % 32) (.int .u8 ((f (j / 32)).getD (j % 32) 0).toNat) (by rw [Array.getElem?_toList]; exact B8_get _ _ (by rw [hf]; omega))
  have e3 := flatF_get hf n (j / 32) (j % 32) (by omega) (by omega)
  rw [show j / 32 * 32 + j % 32 = j by omega] at e1 e3
  rw [e1, e3]
/-- Room for 64 hashes. -/
theorem make64h (w : World) : ∃ cs : Array Value, cs.size = 64 * 32 ∧ (Instr.makeSlice 26 (.int .i64 64) (.int .i64 64)).run Tryz.prog w = .ok (.slice (some ⟨w.heap.size, 0, none⟩) 64 64) (w.alloc (.cells cs 24)) := by
  obtain ⟨i0, hi0, hz0, hz1, hz2⟩ := info_parts info26c
  have := run_makeSlice (P := Tryz.prog) (w := w) 26 24 i0 (.agg z32) Tryz.underlying26 hi0 hz0 .i64 .i64 64 64 (by omega) (by omega) (by rw [hz1]; simp) (by rw [hz2]; omega) (by omega)
  exact ⟨_, by rw [size_madeCells, hz1]; rfl, this⟩
end Go.Proofs.YtgempifedhiknaaGreatDoor
