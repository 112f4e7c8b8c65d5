/-
  The sums of bundles: the walk.
-/
import Derived.Test.YtjngghihciimjaaGreatJVj
import Derived.Test.YtjngghihciimjaaGreatJShelf
import Derived.Shelf.SlSortCmp.NoneTotal
import Derived.Maps.RangeWalk
import Derived.Deep.WholeRow
namespace Go.Proofs.YtjngghihciimjaaGreat
set_option maxRecDepth 100000
open Go.RowKit Go.Sort Go.Maps Go.Shelf
theorem gro_of {w w' : World} (hb : RowKit.Below w.heap.size w w') (hd : w.drawn ≤ w'.drawn) : ∃ q os', w' = grow (w.drewN q) os' := by
 obtain ⟨p, rfl⟩ := regrown_of_below hb
 have h : w.drawn ≤ p.d := hd
 refine ⟨p.d - w.drawn, p.os, ?_⟩
 show grow { w with drawn := p.d } p.os = grow { w with drawn := w.drawn + (p.d - w.drawn) } p.os
 rw [Nat.add_sub_cancel' h]
theorem strclone_any (w : World) (s : ByteArray) (hl : s.size ≤ 281474976710656) : Calls Tryz.prog 122 #[.string s] w fun e w' => e = .returned (.string s) ∧ RowKit.Below w.heap.size w w' := by
 have h := Tryz.stringslite_Clone s w hl
 have H := Lib.hid h
 clear h
 go_enter Tryz.func122, Tryz.ntmps122
 go_wp2_with fail
 refine H.out.mono ?_
 rintro e w2 ⟨rfl, hb⟩
 have HB := Lib.hid hb
 clear hb
 go_wp2_with fail
 go_ret
 exact ⟨rfl, HB.out⟩
abbrev OkTo := {a : To // a.nm.1.length = 32}
instance : Inhabited OkTo := ⟨⟨⟨(List.replicate 32 0, []), 0⟩, by simp⟩⟩
def encT (a : OkTo) : List Value := (toC a.1).toList
def cfT (a b : OkTo) : Int := cN a.1.nm b.1.nm
theorem ltT (a b : OkTo) : ltOf cfT a b = decide (cN a.1.nm b.1.nm < 0) := rfl
theorem swoT : SWO (ltOf cfT) where
 irrefl x := by rw [ltT, decide_eq_false_iff_not]; exact cN_irrefl _
 trans x y z h1 h2 := by rw [ltT, decide_eq_true_iff] at *; exact cN_trans h1 h2
 ntrans x y z h1 h2 := by
  rw [ltT, decide_eq_false_iff_not] at *
  intro h3
  by_cases e : cN x.1.nm y.1.nm = 0
  ·
   rw [cN_eq e] at h3
   exact h2 h3
  ·
   have h4 := cN_swap x.1.nm y.1.nm
   exact h2 (cN_trans (by omega) h3)
theorem cmpLaysT (blk off size : Nat) (w : World) : CmpLays Tryz.prog 124 #[] encT 35 cfT blk off size w := fun m os dk _ x y => by
 have h := cmpTotal_gro (sortWorldK encT 35 w blk off m dk os) x.1 y.1 x.2 y.2
 have e : (#[Value.agg (encT x).toArray, .agg (encT y).toArray] ++ #[] : Array Value) = #[.agg (toC x.1), .agg (toC y.1)] := by simp [encT]
 rw [e]
 exact h.mono fun e w' h => ⟨h.1, gro_of h.2.1 h.2.2⟩
def okL (l : List To) (h : ∀ a, a ∈ l → a.nm.1.length = 32) : List OkTo := l.pmap (fun a h => ⟨a, h⟩) h
theorem okL_map (l : List To) (h : ∀ a, a ∈ l → a.nm.1.length = 32) : (okL l h).map (·.1) = l := by
 unfold okL
 rw [List.map_pmap]
 simp
theorem lies_sort {α : Type} [Inhabited α] (enc : α → List Value) (k : Nat) (w : World) (g off n : Nat) (d : Array α) (os : Array Obj) {cs : Array Value} {t : TypeId} (h : Lies w g cs t) : ∃ cs', Lies (sortWorldK enc k w g off n d os) g cs' t ∧ cs'.size = cs.size := by
 refine ⟨putCells id off (flatK enc k d) cs, ?_, by simp [putCells]⟩
 have hl := h.lt
 show ((w.heap.modify g (onCells (putCells id off (flatK enc k d)))) ++ os)[g]? = some (.cells _ t (0, 0))
 rw [Array.getElem?_append_left (by simpa using hl), Array.getElem?_modify, if_pos rfl]
 unfold Lies at h
 rw [h]
 rfl
theorem grown_sort {α : Type} [Inhabited α] (enc : α → List Value) (k : Nat) (w : World) (g off n : Nat) (d : Array α) (os : Array Obj) : w.grownBy (sortWorldK enc k w g off n d os) (some g) := by
 refine ⟨rfl, rfl, rfl, by simp [sortWorldK, grow, putRowK, putRow, mapBlock, Sort.ahead], fun i hi hne => ?_⟩
 have hne' : ¬ g = i := fun e => hne (by rw [e])
 show ((w.heap.modify g (onCells (putCells id off (flatK enc k d)))) ++ os)[i]? = w.heap[i]?
 rw [Array.getElem?_append_left (by simpa using hi), Array.getElem?_modify, if_neg hne']
def SortL (l : List To) : Prop := ∀ (i j : Nat) (a b : To), i < j → l[i]? = some a → l[j]? = some b → ¬ cN b.nm a.nm < 0
theorem enters47 : ∀ args w, (callFunc 124 args).run Tryz.prog w = .ok (.enter 124 args) w := enters_of Tryz.func124 (by kernel_rfl) rfl
set_option maxHeartbeats 1000000 in
theorem sortT_any (w : World) (g cap : Nat) (l : List To) (ho : ∀ a, a ∈ l → a.nm.1.length = 32) (hh : ∀ (i : Nat) (a : To), l[i]? = some a → w.rangeAt g (0 + i * 35) (toC a).toList) (hf : ∀ j, w.frozen? ⟨g, j, none⟩ = false) (hg : g < w.heap.size) (hl : l.length < 4611686018427387904) :
  Calls Tryz.prog 123 #[.slice (some ⟨g, 0, none⟩) l.length cap, .func (.func 124) #[] #[]] w fun e w' => e = .returned (.tuple #[]) ∧
   ∃ l' : List To, l'.Perm l ∧ SortL l' ∧ (∀ (i : Nat) (a : To), l'[i]? = some a → w'.rangeAt g (0 + i * 35) (toC a).toList) ∧ w.grownBy w' (some g) ∧ ∀ cs t, Lies w g cs t → ∃ cs', Lies w' g cs' t ∧ cs'.size = cs.size := by
 obtain ⟨d, hd⟩ : ∃ d, d = (okL l ho).toArray := ⟨_, rfl⟩
 have hmap : d.toList.map (·.1) = l := by rw [hd]; exact okL_map l ho
 have hsz : d.size = l.length := by rw [← hmap, List.length_map, Array.length_toList]
 have hget : ∀ i, i < d.size → l[i]? = some (d[i]!).1 := fun i hi => by
  rw [← hmap, List.getElem?_map, Array.getElem?_toList, Array.getElem?_eq_getElem hi, getElem!_pos d i hi]
  rfl
 have henc : ∀ (x : OkTo), (encT x).length = 35 := fun x => by unfold encT; rw [Array.length_toList]; exact toC_size x.1 x.2
 have hH : HoldsK encT 35 w g 0 d := fun t ht => by
  rw [size_flatK] at ht
  have hi : t / 35 < d.size := by omega
  have hj : t % 35 < 35 := Nat.mod_lt _ (by decide)
  refine ⟨?_, hf _⟩
  show w.cell? ⟨g, 0 + t, none⟩ = some (flatK encT 35 d)[t]!
  rw [get_flatK encT 35 d t ht]
  have hc := hh (t / 35) _ (hget _ hi) (t % 35) ((encT d[t / 35]!)[t % 35]!) (by
   show (encT d[t / 35]!)[t % 35]? = _
   rw [getElem!_pos _ (t % 35) (by rw [henc]; exact hj), List.getElem?_eq_getElem])
  rw [show 0 + t = 0 + t / 35 * 35 + t % 35 by omega]
  exact hc
 have h := AnyQ.slices_SortFunc (P := Tryz.prog) (ρ := Tryz.sortTo_ren) Tryz.sortTo 35 Tryz.isAgg75 Tryz.sizeOf75 encT henc (fun x v hv => by
  have := toC_one x.1
  rw [Array.all_eq_true_iff_forall_mem] at this
  exact this v (Array.mem_toList_iff.1 hv)) cfT swoT 124 #[] g 0 cap d w enters47 (cmpLaysT g 0 d.size w) hH hg (by rw [hsz]; exact hl)
 change Calls Tryz.prog 123 _ _ _ at h
 rw [hsz] at h
 refine h.mono fun e w' hh' => ?_
 obtain ⟨he, d', n, os, hp, hs, rfl⟩ := hh'
 have hsz' : d'.size = d.size := by rw [hsz]; exact hp.1.trans hsz
 have hget' : ∀ i, i < d'.size → (d'.toList.map (·.1))[i]? = some (d'[i]!).1 := fun i hi => by
  rw [List.getElem?_map, Array.getElem?_toList, Array.getElem?_eq_getElem hi, getElem!_pos d' i hi]
  rfl
 have hlt' : ∀ (i : Nat) (a : To), (d'.toList.map (·.1))[i]? = some a → i < d'.size ∧ a = (d'[i]!).1 := fun i a ha => by
  have hi : i < d'.size := by
   have := (List.getElem?_eq_some_iff.1 ha).1
   rwa [List.length_map, Array.length_toList] at this
  rw [hget' i hi] at ha
  exact ⟨hi, (Option.some.inj ha).symm⟩
 have hH' := holdsK_sortWorldK_c encT 35 w g 0 d d' n os hH hg hsz'
 refine ⟨he, d'.toList.map (·.1), ?_, ?_, ?_, grown_sort encT 35 w g 0 n d' os, fun cs t h => lies_sort encT 35 w g 0 n d' os h⟩
 ·
  have h3 := hp.2.2
  rw [← hsz, ← hsz', Array.extract_size, hsz', Array.extract_size] at h3
  have h4 := h3.map (·.1)
  rw [hmap] at h4
  exact h4
 ·
  intro i j a b hij ha hb
  obtain ⟨hi, rfl⟩ := hlt' i a ha
  obtain ⟨hj, rfl⟩ := hlt' j b hb
  have := hs i j (Nat.zero_le _) hij (by omega)
  rw [ltT, decide_eq_false_iff_not] at this
  exact this
 ·
  intro i a ha j v hv
  obtain ⟨hi, rfl⟩ := hlt' i a ha
  have hj : j < 35 := by
   have := (List.getElem?_eq_some_iff.1 hv).1
   rw [Array.length_toList, toC_size _ (d'[i]!).2] at this
   exact this
  have ht : i * 35 + j < d'.size * 35 := by omega
  have hc := (hH' (i * 35 + j) (by rw [size_flatK]; exact ht)).1
  change _ = some (flatK encT 35 d')[i * 35 + j]! at hc
  rw [get_flatK encT 35 d' _ ht, show (i * 35 + j) / 35 = i by omega, show (i * 35 + j) % 35 = j by omega] at hc
  rw [show 0 + i * 35 + j = 0 + (i * 35 + j) by omega, hc]
  have hv' : (encT d'[i]!)[j]? = some v := hv
  rw [getElem!_pos _ j (by rw [henc]; exact hj)]
  rw [List.getElem?_eq_getElem (by rw [henc]; exact hj)] at hv'
  exact hv'
theorem sortN_any (w : World) (a : Option Addr) (cap : Nat) :
  Calls Tryz.prog 123 #[.slice a 0 cap, .func (.func 124) #[] #[]] w fun e w' => e = .returned (.tuple #[]) ∧ w = w' := by
 have h := AnyF.slices_SortFunc_none (P := Tryz.prog) (ρ := Tryz.sortTo_ren) Tryz.sortTo a cap (.func (.func 124) #[] #[]) w
 exact h.mono fun e w' h => ⟨h.1, h.2.symm⟩
end Go.Proofs.YtjngghihciimjaaGreat
namespace Go.Proofs.YtjngghihciimjaaGreat
set_option maxRecDepth 100000
open Go.RowKit Go.Sort Go.Maps
structure GT (f : Nm → BitVec 128) (left : Lit → Bool) (l : List To) : Prop where
 ok : ∀ t, t ∈ l → t.nm.1.length = 32 ∧ t.nm.2.length ≤ 281474976710656 ∧ t.w = f t.nm ∧ t.w ≠ 0 ∧ left (kN t.nm) = false
 all : ∀ m, f m ≠ 0 → left (kN m) = true ∨ ∃ t, t ∈ l ∧ t.nm = m
 one : l.Pairwise fun a b => a.nm ≠ b.nm
theorem kN_apart {a b : Nm} (ha : a.1.length = 32 ∧ a.2.length ≤ 281474976710656) (hb : b.1.length = 32) (tb : b.2.length ≤ maxLen) (h : a ≠ b) : (kN a).sameKey (kN b) = false := Maps.sameKey_ne fun e => h (kN_inj ha.1 hb (Nat.le_trans ha.2 (by decide)) tb e)
theorem kN_self (a : Nm) : (kN a).sameKey (kN a) = true := by simp [kN, Lit.sameKey]
theorem GT.skip {f : Nm → BitVec 128} {left : Lit → Bool} {l : List To} (h : GT f left l) (n : Nm) (hn : n.1.length = 32) (hnt : n.2.length ≤ maxLen) (h0 : f n = 0) (hok : ∀ m, f m ≠ 0 → m.1.length = 32 ∧ m.2.length ≤ 281474976710656) : GT f (fun z => left z && !z.sameKey (kN n)) l where
 ok t ht := by
  obtain ⟨h1, h2, h3, h4, h5⟩ := h.ok t ht
  exact ⟨h1, h2, h3, h4, by simp [h5]⟩
 all m hm := by
  rcases h.all m hm with h1 | h1
  ·
   left
   have hne : m ≠ n := fun e => hm (by rw [e]; exact h0)
   simp [h1, kN_apart (hok m hm) hn hnt hne]
  ·
   exact .inr h1
 one := h.one
theorem GT.add {f : Nm → BitVec 128} {left : Lit → Bool} {l : List To} (h : GT f left l) (n : Nm) (h0 : f n ≠ 0) (hl : left (kN n) = true) (hok : ∀ m, f m ≠ 0 → m.1.length = 32 ∧ m.2.length ≤ 281474976710656) : GT f (fun z => left z && !z.sameKey (kN n)) (l ++ [⟨n, f n⟩]) where
 ok t ht := by
  rcases List.mem_append.1 ht with ht | ht
  ·
   obtain ⟨h1, h2, h3, h4, h5⟩ := h.ok t ht
   exact ⟨h1, h2, h3, h4, by simp [h5]⟩
  ·
   rw [List.mem_singleton] at ht
   subst ht
   exact ⟨(hok n h0).1, (hok n h0).2, rfl, h0, by simp [kN_self]⟩
 all m hm := by
  by_cases e : m = n
  ·
   exact .inr ⟨⟨n, f n⟩, by simp, e.symm⟩
  ·
   rcases h.all m hm with h1 | ⟨t, ht, h1⟩
   ·
    left
    simp [h1, kN_apart (hok m hm) (hok n h0).1 (Nat.le_trans (hok n h0).2 (by decide)) e]
   ·
    exact .inr ⟨t, by simp [ht], h1⟩
 one := by
  rw [List.pairwise_append]
  refine ⟨h.one, by simp, fun a ha b hb => ?_⟩
  rw [List.mem_singleton] at hb
  subst hb
  intro e
  have h5 := (h.ok a ha).2.2.2.2
  rw [e, hl] at h5
  cases h5
theorem has_none {D : DataW Unit} {k : Lit} {z : DataW Unit} (hD : IsMap D) (h : Maps.has D k = false) : D.atKey k z = z := by
 obtain ⟨es, rfl⟩ := hD
 unfold DataW.atKey
 have h2 : es.find? (fun p => p.1.sameKey k) = none := by
  rw [List.find?_eq_none]
  intro p hp
  have h3 : es.any (fun p => p.1.sameKey k) = false := h
  rw [List.any_eq_false] at h3
  exact h3 p hp
 simp [h2]
theorem GT.start {f : Nm → BitVec 128} {D : DataW Unit} (hD : IsMap D) (hf : HoldsF D f) (hok : ∀ m, f m ≠ 0 → m.1.length = 32 ∧ m.2.length ≤ 281474976710656) : GT f (Maps.has D) [] where
  ok t ht := by simp at ht
  all m hm := by
    left
    cases h : Maps.has D (kN m) with
    | true => rfl
    | false =>
      have h1 := hf m (hok m hm).1 (Nat.le_trans (hok m hm).2 (by decide))
      rw [has_none hD h] at h1
      exact absurd (dW_inj h1).symm hm
  one := List.Pairwise.nil
theorem GT.done {f : Nm → BitVec 128} {left : Lit → Bool} {l l' : List To} (h : GT f left l) (hl : ∀ k, left k = false) (hp : l'.Perm l) (hs : SortL l') : IsTot f (l'.map fun t => (t.nm, t.w)) where
 rise := by
  rw [List.pairwise_map, List.pairwise_iff_getElem]
  intro i j hi hj hij
  have ho : l'.Pairwise fun a b => a.nm ≠ b.nm := (hp.symm.pairwise_iff (fun hab e => hab e.symm)).1 h.one
  have hne := (List.pairwise_iff_getElem.1 ho) i j hi hj hij
  have h1 := hs i j l'[i] l'[j] hij (List.getElem?_eq_getElem hi) (List.getElem?_eq_getElem hj)
  have h2 := cN_swap l'[i].nm l'[j].nm
  have h3 : cN l'[i].nm l'[j].nm ≠ 0 := fun e => hne (cN_eq e)
  show cN l'[i].nm l'[j].nm < 0
  omega
 says p hp' := by
  obtain ⟨t, ht, rfl⟩ := List.mem_map.1 hp'
  have := h.ok t (hp.mem_iff.1 ht)
  exact ⟨this.2.2.1, this.2.2.2.1⟩
 all n hn := by
  rcases h.all n hn with h1 | ⟨t, ht, h1⟩
  ·
   rw [hl] at h1; cases h1
  ·
   refine List.mem_map.2 ⟨t, hp.mem_iff.2 ht, ?_⟩
   rw [(h.ok t ht).2.2.1, h1]
theorem size_le {w : World} {b n : Nat} {D : DataW Unit} (h : w.ownsMap Tryz.prog 86 rdW b n D) : Maps.size D ≤ n := by
 obtain ⟨es, clock, hb, F, hs, rfl⟩ := h
 show ((es.toList.map _).foldr DataW.insert []).length ≤ n
 first | rw [length_sorted] | rw [Go.Maps.length_sorted] | rw [Go.length_sorted]
 simpa using hs
structure OnMap (W0 W : World) (b n : Nat) (D : DataW Unit) (f : Nm → BitVec 128) (v : Value) (l : List To) (left : Lit → Bool) (cnt : Nat) : Prop where
 own : OwnTo W (W0.heap.size + 1) v l
 rg : W.ranges Tryz.prog 86 rdW b W0.heap.size n D left cnt
 gt : GT f left l
 few : l.length + cnt ≤ n
 below : Below W0.heap.size W0 W
attribute [-go_sem] Instr.build Instr.buildSlice
theorem own_room {w : World} {B n : Nat} {v : Value} {xs : List Value} (h : w.ownsRow B 75 35 v n xs) : ∀ g cap, v = .slice (some ⟨g, 0, none⟩) n cap → ∃ cur, Lies w g cur 75 ∧ cur.size = cap * 35 ∧ cap ≤ maxLen ∧ n ≤ cap := by
 intro g cap e
 rcases h.2 with ⟨h1, _⟩ | ⟨g2, cap2, cur, h1, h2, h3, h4, h5, h6, _⟩
 ·
  rw [h1] at e; cases e
 ·
  rw [h1] at e
  simp only [Value.slice.injEq, Option.some.injEq, Addr.mk.injEq, and_true, true_and] at e
  obtain ⟨rfl, rfl⟩ := e
  exact ⟨cur, h3, h6, h5, h4⟩
set_option maxHeartbeats 4000000 in
theorem totals_any : TotalsAt := by
  intro W0 b n D f hown hf hn hok
  have hbl := hown.lt
  have H := Lib.hid (And.intro hown (And.intro hf (And.intro hn (And.intro hok hbl))))
  clear hown hf hn hok hbl
  go_enter Tryz.func68, Tryz.ntmps68
  go_wp2_with (first | (at_range; refine wpList_range_own _ rfl _ 121 rfl 86 48 keyedName under70 rdW b n D rfl H.out.1 ?_; intro w0 hrg0 hg0 hs0) | fail)
  go_frame
  have hstart : OnMap W0 w0 b n D f (.slice none 0 0) [] (Maps.has D) (Maps.size D) :=
    ⟨World.ownsRow_nil _ _ _ _, hrg0, GT.start H.out.1.isMap H.out.2.1 H.out.2.2.2.1, by simpa using size_le H.out.1, ⟨hg0.os, hg0.tape, hg0.output, hg0.size, fun k hk => hg0.block k hk (by simp)⟩⟩
  have HS0 := Lib.hid hstart
  clear hstart hrg0 hg0 hs0
  go_loopw [3] (fun sv W => ∃ (l : List To) (left : Lit → Bool) (cnt : Nat), OnMap W0 W b n D f sv l left cnt) (fun _ W => W.rangeLeft b W0.heap.size)
  case atStart => exact ⟨[], _, _, HS0.out⟩
  case round =>
    obtain ⟨l, left, cnt, hon⟩ := hrel
    have HON := Lib.hid hon
    clear hon HS0
    go_wp2_with (first | (at_next; refine wpList_next_ranges _ rfl _ rfl 86 keyedName rdW mkK wv invK invV b W0.heap.size n D left cnt rfl HON.out.rg ?_ ?_) | fail)
    · intro hc0 hl0
      have hok35 : ∀ a, a ∈ l → (toC a).size = 35 := fun a ha => toC_size a (HON.out.gt.ok a ha).1
      have hfew : l.length ≤ 1000000 := by have h1 := HON.out.few; have h2 := H.out.2.2.1; omega
      have hbr := HON.out.below
      have hgt := HON.out.gt
      have hroom := own_room HON.out.own
      rcases own_at toC 35 hok35 HON.out.own with ⟨h1, h2⟩ | ⟨g, cap, h1, h2, h3, h4, h5, h6⟩
      · subst h1
        subst h2
        have hs := sortN_any wr none 0
        have HE := Lib.hid (And.intro hs (And.intro hbr (And.intro hgt hl0)))
        clear hs hbr hgt hl0 hc0 hok35 hfew hroom
        go_wp2_with fail
        refine HE.out.1.mono ?_
        rintro e w2 ⟨rfl, rfl⟩
        go_wp2_with fail
        go_ret
        exact ⟨none, [], 0, rfl, ⟨Nat.zero_le _, fun a ha => by simp at ha, fun h => absurd h (by simp)⟩, HE.out.2.2.1.done HE.out.2.2.2 (List.Perm.refl _) (fun i j a b _ ha => by simp at ha), HE.out.2.1, (fun _ e => by cases e), .inl ⟨rfl, rfl, rfl⟩⟩
      · subst h1
        have hs := sortT_any wr g cap l (fun a ha => (hgt.ok a ha).1) h5 h6 h3 (by omega)
        have HE := Lib.hid (And.intro hs (And.intro hbr (And.intro hgt (And.intro hl0 (And.intro h2 (And.intro h3 (And.intro hfew (hroom g cap rfl))))))))
        clear hs hbr hgt hl0 hc0 hok35 hfew h2 h3 h4 h5 h6 hroom
        go_wp2_with fail
        refine HE.out.1.mono ?_
        rintro e w2 ⟨rfl, l', hp, hso, hh, hgr, hls⟩
        have HF := Lib.hid (And.intro hp (And.intro hso (And.intro hh (And.intro hgr hls))))
        clear hp hso hh hgr hls
        go_wp2_with fail
        go_ret
        have hgt := HE.out.2.2.1
        have hgr := HF.out.2.2.2.1
        have hb := HE.out.2.1
        have hgB := HE.out.2.2.2.2.1
        have hlen := HF.out.1.length_eq
        refine ⟨some ⟨g, 0, none⟩, l', cap, by rw [hlen]; rfl, ⟨by rw [hlen]; exact Nat.le_trans HE.out.2.2.2.2.2.2.1 (by decide), fun a ha => ?_, fun _ => ⟨g, 0, rfl, Nat.lt_of_lt_of_le HE.out.2.2.2.2.2.1 hgr.size, HF.out.2.2.1⟩⟩, hgt.done HE.out.2.2.2.1 HF.out.1 HF.out.2.1, ⟨hgr.os.trans hb.os, hgr.tape.trans hb.tape, hgr.output.trans hb.output, Nat.le_trans hb.size hgr.size, fun k hk => (hgr.block k (Nat.lt_of_lt_of_le hk hb.size) (by simp; omega)).trans (hb.block k hk)⟩, (fun ad e => by cases e; exact Nat.le_trans (Nat.le_succ _) hgB), (by
          obtain ⟨cur, k1, k2, k3, k4⟩ := HE.out.2.2.2.2.2.2.2
          obtain ⟨cs', k5, k6⟩ := HF.out.2.2.2.2 cur _ k1
          exact .inr ⟨g, rfl, by rw [hlen]; exact k4, k3, Nat.le_trans (Nat.le_succ _) hgB, cs', k5, by rw [k6]; exact k2⟩)⟩
        have := hgt.ok a (HF.out.1.mem_iff.1 ha)
        exact ⟨this.1, Nat.le_trans this.2.1 (by decide)⟩
    · intro p t hpt c kl y1 y2 w1 cnt1 hkey hlk hy hat hrg1 hlt hg1 hs1 hen
      obtain ⟨nm, hnm⟩ : ∃ m : Nm, m = (p, t) := ⟨_, rfl⟩
      obtain ⟨hkl, hc⟩ := next_is H.out.2.1 (n := ⟨(p, t), hpt⟩) (y := (y1, y2)) hkey hy hat
      have hn32 : nm.1.length = 32 := by rw [hnm]; exact hpt.1
      have hnt : nm.2.length ≤ maxLen := by rw [hnm]; exact hpt.2
      have hc' : c = f nm := by rw [hnm]; exact hc
      have hkl' : kl = kN nm := by rw [hnm]; exact hkl
      obtain ⟨nv, hnv⟩ : ∃ v, v = nmC nm := ⟨_, rfl⟩
      have hmk : mkK ⟨(p, t), hpt⟩ = .agg nv := by rw [hnv, hnm]; rfl
      rw [hmk] at hen ⊢
      subst hkl'
      have hns : nv.size = 33 := by rw [hnv]; exact nmC_size _ hn32
      have hn1 : nv.all (·.oneCell') = true := by rw [hnv]; exact nmC_one _
      have how1 : OwnTo w1 (W0.heap.size + 1) u3 l := HON.out.own.kept hg1 (by
        cases hv : u3.ownBlock with
        | none => exact .inl rfl
        | some k =>
          right
          intro e
          have := (HON.out.own.lt k hv).1
          have : k = W0.heap.size := Option.some.inj e
          omega)
      have hbw1 : Below W0.heap.size W0 w1 := ⟨hg1.os.trans HON.out.below.os, hg1.tape.trans HON.out.below.tape, hg1.output.trans HON.out.below.output, Nat.le_trans HON.out.below.size hg1.size, fun k hk => (hg1.block k (Nat.lt_of_lt_of_le hk HON.out.below.size) (by simp; omega)).trans (HON.out.below.block k hk)⟩
      have HN := Lib.hid (And.intro hn32 (And.intro hnt (And.intro hc' (And.intro hnv (And.intro hns (And.intro hn1 (And.intro how1 (And.intro hbw1 (And.intro hrg1 (And.intro hlt hlk))))))))))
      have hlw : w1.rangeLeft b W0.heap.size < wr.rangeLeft b W0.heap.size := by rw [hrg1.left_eq, HON.out.rg.left_eq]; exact hlt
      have HLW := Lib.hid hlw
      clear hlw hn32 hnt hc' hnv hns hn1 how1 hbw1 hrg1 hlt hlk hmk hnm hkl hc hkey hy hat hg1 hs1 hpt
      unfold wv at hen ⊢
      go_upto_region 5 with (first
        | (refine wpList_store_row rfl 86 _ _ rfl w1.heap.size nv rfl rfl 86 z33 ((Lies.new w1 z33 86).alloc _) (by rw [HN.out.2.2.2.2.1]; exact info_called) (by rw [HN.out.2.2.2.2.1]; kernel_rfl) HN.out.2.2.2.2.2.1 ?_; rw [setRow_alloc2]))
      have hL4 : Lies ((w1.alloc (.cells nv 86)).alloc (.cells #[.int .i64 (hiS c), .int .u64 (loN c)] 48)) w1.heap.size nv 86 := (Lies.new _ _ _).alloc _
      have hL5 : Lies ((w1.alloc (.cells nv 86)).alloc (.cells #[.int .i64 (hiS c), .int .u64 (loN c)] 48)) (w1.heap.size + 1) #[.int .i64 (hiS c), .int .u64 (loN c)] 48 := by
        have := Lies.new (w1.alloc (.cells nv 86)) #[.int .i64 (hiS c), .int .u64 (loN c)] 48
        simpa using this
      have hb4 : Below w1.heap.size w1 ((w1.alloc (.cells nv 86)).alloc (.cells #[.int .i64 (hiS c), .int .u64 (loN c)] 48)) := ((Below.refl _ _).alloc (Nat.le_refl _) _).alloc (by simp) _
      generalize (w1.alloc (.cells nv 86)).alloc (.cells #[.int .i64 (hiS c), .int .u64 (loN c)] 48) = W4 at hL4 hL5 hb4 ⊢
      have c0 := hL5.cell 0 (v := .int .i64 (hiS c)) rfl
      have c1 := hL5.cell 1 (v := .int .u64 (loN c)) rfl
      have how4 : OwnTo W4 (W0.heap.size + 1) u3 l := ownsRow_below HN.out.2.2.2.2.2.2.1 hb4
      have hrg4 := HN.out.2.2.2.2.2.2.2.2.1.kept (grown_of (r := none) hb4) (by simp) (by simp)
      have hbw4 : Below W0.heap.size W0 W4 := HN.out.2.2.2.2.2.2.2.1.trans (hb4.mono HN.out.2.2.2.2.2.2.2.1.size)
      have hlr4 : W4.rangeLeft b W0.heap.size < wr.rangeLeft b W0.heap.size := by rw [hrg4.left_eq, HON.out.rg.left_eq]; exact HN.out.2.2.2.2.2.2.2.2.2.1
      have hzb : ∀ W, (Instr.build 48 #[]).run Tryz.prog W = .ok (.agg #[.int .i64 0, .int .u64 0]) W := fun W => run_build W 48 _ _ (by kernel_rfl)
      by_cases h0 : c = 0
      · have heq : ∀ W, (Op.equalIn 10000 48 (.agg #[.int .i64 (hiS c), .int .u64 (loN c)]) (.agg #[.int .i64 0, .int .u64 0])).run Tryz.prog W = .ok true W := fun W => by
          have := eq_w W c 0
          rw [wC_zero, decide_eq_true h0] at this
          exact this
        have hon : OnMap W0 W4 b n D f u3 l (fun z => left z && !z.sameKey (kN nm)) cnt1 := ⟨how4, hrg4, HON.out.gt.skip nm HN.out.1 HN.out.2.1 (by rw [← HN.out.2.2.1]; exact h0) H.out.2.2.2.1, by have := HON.out.few; have := HN.out.2.2.2.2.2.2.2.2.2.1; omega, hbw4⟩
        have HE := Lib.hid (And.intro hon hlr4)
        clear hL4 hL5 hb4 how4 hrg4 hbw4 hlr4 h0 hon
        go_wp2_with fail
        exact ⟨⟨l, _, cnt1, HE.out.1⟩, HE.out.2⟩
      · have heq : ∀ W, (Op.equalIn 10000 48 (.agg #[.int .i64 (hiS c), .int .u64 (loN c)]) (.agg #[.int .i64 0, .int .u64 0])).run Tryz.prog W = .ok false W := fun W => by
          have := eq_w W c 0
          rw [wC_zero, decide_eq_false h0] at this
          exact this
        have hgt : GT f (fun z => left z && !z.sameKey (kN nm)) (l ++ [⟨nm, f nm⟩]) := HON.out.gt.add nm (by rw [← HN.out.2.2.1]; exact h0) HN.out.2.2.2.2.2.2.2.2.2.2 H.out.2.2.2.1
        have hn48 : nm.2.length ≤ 281474976710656 := (H.out.2.2.2.1 nm (by rw [← HN.out.2.2.1]; exact h0)).2
        have HG := Lib.hid (And.intro hgt (And.intro hn48 (And.intro how4 (And.intro hrg4 (And.intro hbw4 hlr4)))))
        have HS : Hid (∀ U, Below W4.heap.size W4 U → Lies U w1.heap.size nv 86 ∧ Lies U (w1.heap.size + 1) #[.int .i64 (hiS c), .int .u64 (loN c)] 48) := Lib.hid fun U hU => ⟨hL4.below hU hL4.lt, hL5.below hU hL5.lt⟩
        clear hL4 hL5 hb4 how4 hrg4 hbw4 hlr4 h0 hgt hn48
        go_upto_region 6 with fail
        clear heq c0 c1 hzb
        obtain ⟨pv, hpv⟩ : ∃ v, v = B8 nm.1 := ⟨_, rfl⟩
        obtain ⟨tv, htv⟩ : ∃ v, v = txt nm.2 := ⟨_, rfl⟩
        obtain ⟨ov, hov⟩ : ∃ v, v = toC ⟨nm, c⟩ := ⟨_, rfl⟩
        have hbuilt : ∀ W, (Instr.build 75 #[(0, .agg pv), (1, .string tv), (2, .agg #[.int .i64 (hiS c), .int .u64 (loN c)])]).run Tryz.prog W = .ok (.agg ov) W := fun W => by
          rw [hpv, htv, hov]
          exact run_build W 75 _ _ (built_total ⟨nm, c⟩ HN.out.1)
        have hpr : ∀ U, Lies U w1.heap.size nv 86 → U.rangeAt w1.heap.size 0 pv.toList ∧ U.cell? ⟨w1.heap.size, 32, none⟩ = some (.string tv) := fun U hU => by
          rw [HN.out.2.2.2.1] at hU
          rw [hpv, htv]
          exact ⟨pol_range (src_nm HN.out.1 hU), hU.cell 32 (nmC_txt nm HN.out.1)⟩
        have hps : (Tryz.prog.info? 26).map (·.size) = some pv.size := by rw [hpv, B8_size, HN.out.1]; exact info_hash
        have hos : ov.size = 35 := by rw [hov]; exact toC_size _ HN.out.1
        have hcl : ∀ W, Calls Tryz.prog 122 #[.string tv] W fun e w' => e = .returned (.string tv) ∧ Below W.heap.size W w' := fun W => by
          rw [htv]; exact strclone_any W _ (by rw [txt_size]; exact HG.out.2.1)
        have hsl : ∀ W : World, (Instr.buildSlice 49 1 #[(0, .agg ov)]).run Tryz.prog W = .ok (.slice (some ⟨W.heap.size, 0, none⟩) 1 1) (W.alloc (.cells ov 75)) := fun W => run_slice1 W 49 75 35 64 ov Tryz.underlying49 info48 (by decide) (by decide) hos
        have HQ := Lib.hid (And.intro hbuilt (And.intro hpr (And.intro hps (And.intro hos (And.intro hcl (And.intro hsl hov))))))
        clear hbuilt hpr hps hos hcl hsl hov hpv htv
        refine wp_region_noPanic (wp_region_held (S := fun U => Lies U w1.heap.size nv 86 ∧ Lies U (w1.heap.size + 1) #[.int .i64 (hiS c), .int .u64 (loN c)] 48) (by kernel_rfl) ?_)
        change wpAnyH _ _ _ _ _ 11 _ _ (World.drew W4)
        have hbd : Below W4.heap.size W4 W4.drew := (Below.refl _ _).drew
        generalize World.drew W4 = wd at hbd ⊢
        have hcur := HS.out _ hbd
        refine tk 0 (u3) 16 rfl rfl hcur ?_
        refine tk 1 (.pointer (some ⟨w1.heap.size, 0, none⟩)) 17 rfl rfl hcur ?_
        refine tk 2 (.agg pv) 18 rfl rfl hcur ?_ (by intro w' hS'; exact exec_loadM 26 _ rfl _ _ rfl pv (HQ.out.2.1 _ hS'.1).1 Tryz.underlying26 rfl HQ.out.2.2.1)
        refine tk 3 (.pointer (some ⟨w1.heap.size, 32, none⟩)) 19 rfl rfl hcur ?_
        refine tk 4 (.string tv) 20 rfl rfl hcur ?_ (by intro w' hS'; have hq := (HQ.out.2.1 _ hS'.1).2; unfold execOp; simp [go_sem, hq])
        refine tk 6 (.agg #[.int .i64 (hiS c), .int .u64 (loN c)]) 22 rfl rfl hcur ?_ (by intro w' hS'; exact exec_loadM 48 _ rfl _ _ rfl #[.int .i64 (hiS c), .int .u64 (loN c)] (range_lies hS'.2) Tryz.underlying48 rfl info_wide)
        refine held_one (i := 5) (by kernel_rfl) _ rfl (wpOp_callG rfl (by rfl) 21 rfl 122 #[.string tv] (by unfold execOp; simp [go_sem]) _ (ret_of (HQ.out.2.2.2.2.1 _)) ?_)
        rintro v5 w5 ⟨rfl, hb5⟩
        have hc5 := hbd.trans (hb5.mono hbd.size)
        have hcur := HS.out _ hc5
        refine ⟨hcur, ?_⟩
        simp only [Act.put, List.setIfInBounds_toArray, List.set_cons_zero, List.set_cons_succ]
        refine held_one (i := 7) (by kernel_rfl) _ rfl (wpOp_valG (v := .agg ov) (w' := w5) rfl (by rfl) 23 rfl (by have hq := HQ.out.1 w5; unfold execOp; simp [go_sem, hq]) ?_)
        refine ⟨hcur, ?_⟩
        simp only [Act.put, List.setIfInBounds_toArray, List.set_cons_zero, List.set_cons_succ]
        refine held_one (i := 8) (by kernel_rfl) _ rfl (wpOp_valG (v := .slice (some ⟨w5.heap.size, 0, none⟩) 1 1) (w' := w5.alloc (.cells ov 75)) rfl (by rfl) 24 rfl (by have hq := HQ.out.2.2.2.2.2.1 w5; unfold execOp; simp [go_sem, hq]) ?_)
        have hb8 : Below w5.heap.size w5 (w5.alloc (.cells ov 75)) := (Below.refl _ _).alloc (Nat.le_refl _) _
        have hL8 : Lies (w5.alloc (.cells ov 75)) w5.heap.size ov 75 := Lies.new _ _ _
        generalize w5.alloc (.cells ov 75) = w8 at hb8 hL8 ⊢
        obtain ⟨g8, hg8⟩ : ∃ g, g = w5.heap.size := ⟨_, rfl⟩
        rw [← hg8] at hL8 hb8 ⊢
        have hc8 : Below W4.heap.size W4 w8 := hc5.trans (hb8.mono (by rw [hg8]; exact hc5.size))
        have hcur := HS.out _ hc8
        refine ⟨hcur, ?_⟩
        simp only [Act.put, List.setIfInBounds_toArray, List.set_cons_zero, List.set_cons_succ]
        have how8 : OwnTo w8 (W0.heap.size + 1) u3 l := ownsRow_below HG.out.2.2.1 hc8
        have hrg8 := HG.out.2.2.2.1.kept (grown_of (r := none) hc8) (by simp) (by simp)
        have hbw8 : Below W0.heap.size W0 w8 := HG.out.2.2.2.2.1.trans (hc8.mono HG.out.2.2.2.2.1.size)
        have hll : l.length + 1 ≤ 1000000 := by
          have h1 := HON.out.few
          have h2 := HN.out.2.2.2.2.2.2.2.2.2.1
          have h3 := H.out.2.2.1
          omega
        refine held_one (i := 9) (by kernel_rfl) _ rfl (wpOp_append rfl rfl 25 rfl _ _ 49 rfl (W0.heap.size + 1) 75 35 64 Tryz.underlying49 info48 (by decide) u3 l.length (cellsF toC l) rfl how8 ⟨g8, 0, none⟩ 1 1 (cellsF toC [⟨nm, c⟩]) rfl (cellsF_len toC 35 [⟨nm, c⟩] (fun a ha => by rw [List.mem_singleton] at ha; subst ha; exact toC_size _ HN.out.1)) (src_one toC (by rw [← HQ.out.2.2.2.2.2.2]; exact hL8)) (cellsF_one toC _ fun a _ => toC_one a) (by decide) (Nat.le_trans hll (by decide)) (by omega) (by have := hrg8.lt; omega) ?_)
        intro g9 cap9 w9 hown9 hgr9 hat9 hlt9
        have hS9 : Lies w9 w1.heap.size nv 86 ∧ Lies w9 (w1.heap.size + 1) #[.int .i64 (hiS c), .int .u64 (loN c)] 48 := ⟨lies_grown hgr9 hcur.1 (ownsRow_far how8 hcur.1 (by decide)), lies_grown hgr9 hcur.2 (ownsRow_far how8 hcur.2 (by decide))⟩
        refine ⟨hS9, ?_⟩
        simp only [Act.put, List.setIfInBounds_toArray, List.set_cons_zero, List.set_cons_succ]
        have hblk : ∀ k, u3.ownBlock = some k → W0.heap.size + 1 ≤ k := fun k hk => (how8.lt k hk).1
        have hrg9 := hrg8.kept hgr9 (fun e => by have h1 := hblk b e.symm; have h2 := H.out.2.2.2.2; omega) (fun e => by have h1 := hblk _ e.symm; omega)
        have hbw9 : Below W0.heap.size W0 w9 := ⟨hgr9.os.trans hbw8.os, hgr9.tape.trans hbw8.tape, hgr9.output.trans hbw8.output, Nat.le_trans hbw8.size hgr9.size, fun k hk => (hgr9.block k (Nat.lt_of_lt_of_le hk hbw8.size) (fun e => by have h1 := hblk k e.symm; omega)).trans (hbw8.block k hk)⟩
        have how9 : OwnTo w9 (W0.heap.size + 1) (.slice (some ⟨g9, 0, none⟩) (l.length + 1) cap9) (l ++ [⟨nm, c⟩]) := by
          unfold OwnTo
          rw [cellsF_app, List.length_append]
          exact hown9
        have hon9 : OnMap W0 w9 b n D f (.slice (some ⟨g9, 0, none⟩) (l.length + 1) cap9) (l ++ [⟨nm, c⟩]) (fun z => left z && !z.sameKey (kN nm)) cnt1 := ⟨how9, hrg9, by rw [HN.out.2.2.1]; exact HG.out.1, by
          have h1 := HON.out.few
          have h2 := HN.out.2.2.2.2.2.2.2.2.2.1
          rw [List.length_append]
          simp
          omega, hbw9⟩
        have hlr9 : w9.rangeLeft b W0.heap.size < wr.rangeLeft b W0.heap.size := by rw [hrg9.left_eq, HON.out.rg.left_eq]; exact HN.out.2.2.2.2.2.2.2.2.2.1
        have HE := Lib.hid (And.intro hon9 hlr9)
        clear hon9 hlr9 how9 hrg9 hbw9 hown9 hgr9 hat9 hlt9 how8 hrg8 hbw8 hblk hcur hc8 hb8 hL8 hc5 hb5 hbd hll
        refine tk 10 (.slice (some ⟨g9, 0, none⟩) (l.length + 1) cap9) 3 rfl rfl hS9 ?_
        clear hS9
        refine wpAnyH_done (by kernel_rfl) ?_ _
        unfold NoPanic
        dsimp only
        go_wp2_with fail
        exact ⟨⟨_, _, cnt1, HE.out.1⟩, HE.out.2⟩
end Go.Proofs.YtjngghihciimjaaGreat
namespace Go.Proofs.YtjngghihciimjaaGreat
set_option maxRecDepth 100000
open Go.RowKit Go.Sort Go.Maps
set_option maxHeartbeats 4000000 in
theorem sumsR_any (hT : TotalsAt) (w : World) (pa : Option Addr) (vs : List Va) (c : Nat) (h : RowV w pa vs) (hc : (ctsL vs).length ≤ 1000000) (hnm : ∀ p, p ∈ ctsL vs → p.1.1.length = 32 ∧ p.1.2.length ≤ 281474976710656) :
  Calls Tryz.prog 26 #[.slice pa vs.length c] w fun e w' => SumsResR vs w.heap.size w' e ∧ Below w.heap.size w w' := by
 have hli : (vs.length : Int) ≤ 9223372036854775807 := by have := h.1; unfold maxLen at this; omega
 have H := Lib.hid (And.intro h hc)
 have HNM := Lib.hid hnm
 have HT := Lib.hid hT
 clear h hc hT hnm
 have hmk := fun W => run_makeMap (P := Tryz.prog) 121 W
 go_enter Tryz.func26, Tryz.ntmps26
 go_upto_region 3 with fail
 have hway : OnWay w (((w.alloc (.cells #[.int .i64 0, .int .u64 0] 48)).alloc (.map #[] 0)).alloc (.cells #[.int .i64 0, .int .u64 0] 48)) (coinS (vs.take 0)) (ctsL (vs.take 0)) := by
  have e1 : (w.alloc (.cells #[.int .i64 0, .int .u64 0] 48)).heap.size = w.heap.size + 1 := by simp
  have e2 : ((w.alloc (.cells #[.int .i64 0, .int .u64 0] 48)).alloc (.map #[] 0)).heap.size = w.heap.size + 1 + 1 := by simp
  refine ⟨(((Below.refl _ _).alloc (Nat.le_refl _) _).alloc (by omega) _).alloc (by omega) _, ((Lies.new _ _ _).alloc _).alloc _, ⟨.map [], ?_, HoldsF.none⟩, ?_⟩
  ·
   have := (World.ownsMap_made (H := Unit) (w.alloc (.cells #[.int .i64 0, .int .u64 0] 48)) Tryz.prog 86 rdW).alloc (.cells #[.int .i64 0, .int .u64 0] 48)
   rw [e1] at this
   exact this
  ·
   have := Lies.new ((w.alloc (.cells #[.int .i64 0, .int .u64 0] 48)).alloc (.map #[] 0)) #[.int .i64 0, .int .u64 0] 48
   rw [e2] at this
   rw [show wC (coinS (vs.take 0)) = #[.int .i64 0, .int .u64 0] from wC_zero]
   exact this
 clear hmk
 generalize (((w.alloc (.cells #[.int .i64 0, .int .u64 0] 48)).alloc (.map #[] 0)).alloc (.cells #[.int .i64 0, .int .u64 0] 48)) = W1 at hway ⊢
 have HW := Lib.hid hway
 clear hway
 go_loopw [14] (fun i W => ∃ k : Nat, k ≤ vs.length ∧ i = .int .i64 k ∧ OnWay w W (coinS (vs.take k)) (ctsL (vs.take k))) (fun i _ => vs.length - (intOf i).toNat)
 case atStart => exact ⟨0, Nat.zero_le _, rfl, HW.out⟩
 case round =>
  clear HW
  obtain ⟨k, hk, rfl, hway⟩ := hrel
  by_cases hlt : k < vs.length
  ·
   have m1 : (k : Int) < (vs.length : Int) := by omega
   have m0 : (0 : Int) ≤ (k : Int) := by omega
   obtain ⟨g, off, rfl, hg, hh⟩ := H.out.1.2 (by omega)
   obtain ⟨v, hv⟩ : ∃ v, v = vs[k] := ⟨_, rfl⟩
   have hkv : vs[k]? = some v := by rw [hv, List.getElem?_eq_getElem hlt]
   have hvv := hh.below hway.below hg (Nat.le_refl _) k v hkv
   have hv0 := (hh k v hkv).2
   have c0 := hvv.1 0 (.int .i64 v.coin) rfl
   have c1 := hvv.1 1 (.slice v.pa v.l.length v.c) rfl
   rw [Nat.add_zero] at c0
   obtain ⟨s, hs⟩ : ∃ s, s = coinS (vs.take k) := ⟨_, rfl⟩
   obtain ⟨L, hL⟩ : ∃ L, L = ctsL (vs.take k) := ⟨_, rfl⟩
   have hs' : coinS (vs.take (k + 1)) = s + wide v.coin := by rw [hs]; exact coinS_take hkv
   have hL' : ctsL (vs.take (k + 1)) = L ++ ctsOf v := by rw [hL]; exact ctsL_take hkv
   have hLe : ∀ j, j ≤ v.l.length → (L ++ (ctsOf v).take j).length ≤ (ctsL vs).length := fun j hj => by rw [hL]; exact ctsL_le hkv hj
   rw [← hs, ← hL] at hway
   have HR := Lib.hid (And.intro hway (And.intro hlt (And.intro hv0 (And.intro hs' (And.intro hL' hLe)))))
   clear hk hlt hway hg hh hv hkv hvv hv0 hs hL hs' hL' hLe
   go_upto_region 5 with fail
   have hL5 : Lies (wr.alloc (.cells #[.int .i64 v.coin, .slice v.pa v.l.length v.c] 24)) wr.heap.size #[.int .i64 v.coin, .slice v.pa v.l.length v.c] 24 := Lies.new _ _ _
   have hw5 : OnWay w (wr.alloc (.cells #[.int .i64 v.coin, .slice v.pa v.l.length v.c] 24)) s L := HR.out.1.step ((Below.refl _ _).alloc (Nat.le_refl _) _)
   generalize wr.alloc (.cells #[.int .i64 v.coin, .slice v.pa v.l.length v.c] 24) = W5 at hL5 hw5 ⊢
   have hw5s : Lies W5 (w.heap.size + 1 + 1) #[.int .i64 (hiS s), .int .u64 (loN s)] 48 := hw5.sum
   have HS : Hid (∀ U, Below W5.heap.size W5 U → Lies U wr.heap.size #[.int .i64 v.coin, .slice v.pa v.l.length v.c] 24) := Lib.hid fun U hU => hL5.below hU hL5.lt
   have HW5 := Lib.hid hw5
   clear hL5 hw5 c0 c1
   refine wp_region_noPanic (wp_region_held (S := fun U => Lies U wr.heap.size #[.int .i64 v.coin, .slice v.pa v.l.length v.c] 24) (by kernel_rfl) ?_)
   change wpAnyH _ _ _ _ _ 7 _ _ (World.drew W5)
   have hbd : Below W5.heap.size W5 W5.drew := (Below.refl _ _).drew
   generalize World.drew W5 = wd at hbd ⊢
   have hcur := HS.out _ hbd
   refine tk 1 (.pointer (some ⟨wr.heap.size, 0, none⟩)) 19 rfl rfl hcur ?_
   refine tk 2 (.int .i64 v.coin) 20 rfl rfl hcur ?_ (by intro w' hS'; have hq := hS'.cell 0 (v := .int .i64 v.coin) rfl; unfold execOp; simp [go_sem, hq])
   have hload : ∀ U, Below W5.heap.size W5 U → U.rangeAt (w.heap.size + 1 + 1) 0 (#[Value.int .i64 (hiS s), .int .u64 (loN s)] : Array Value).toList := fun U hU => range_lies (hw5s.below hU hw5s.lt)
   obtain ⟨cv, hcv⟩ : ∃ c, c = wC (s + wide v.coin) := ⟨_, rfl⟩
   have hcs : cv.size = 2 := by rw [hcv]; rfl
   have hc1 : cv.all (·.oneCell') = true := by rw [hcv]; exact wC_one _
   refine (show (∀ (x22 : Value) (W8 : World), OnWay w W8 (s + wide v.coin) L → Lies W8 wr.heap.size #[.int .i64 v.coin, .slice v.pa v.l.length v.c] 24 → (?X : Value → World → Prop) x22 W8) → _ from fun hcont => ?arms) ?cont
   case arms =>
    refine wpAnyH_all (rs := [0, 3]) (by kernel_rfl) (by simp) ?_
    intro jj hjj
    have hjj' : jj = 0 ∨ jj = 3 := by simpa using hjj
    clear hjj
    rcases hjj' with rfl | rfl
    case inl =>
     refine wpOp_valG (v := .agg #[.int .i64 (hiS s), .int .u64 (loN s)]) (w' := wd) rfl (by rfl) 18 rfl (exec_loadM 48 _ rfl _ _ rfl #[.int .i64 (hiS s), .int .u64 (loN s)] (hload _ hbd) Tryz.underlying48 rfl info_wide) ?_
     refine ⟨hcur, ?_⟩
     simp only [Act.put, List.setIfInBounds_toArray, List.set_cons_zero, List.set_cons_succ]
     refine held_one (i := 3) (by kernel_rfl) _ rfl (wpOp_callG rfl (by rfl) 21 rfl 39 #[.int .i64 v.coin] (by unfold execOp; simp [go_sem]) _ (ret_of (wide_any wd v.coin HR.out.2.2.1.1 HR.out.2.2.1.2.1)) ?_)
     rintro v3 w3 ⟨rfl, hb3⟩
     have hc3 := hbd.trans (hb3.mono hbd.size)
     refine ⟨HS.out _ hc3, ?_⟩
     unfold wv
     simp only [Act.put, List.setIfInBounds_toArray, List.set_cons_zero, List.set_cons_succ]
     refine held_one (i := 4) (by kernel_rfl) _ rfl (wpOp_valG (v := .slice (some ⟨w3.heap.size, 0, none⟩) 2 2) (w' := w3.alloc (.cells #[.int .i64 (hiS s), .int .u64 (loN s), .int .i64 (hiS (wide v.coin)), .int .u64 (loN (wide v.coin))] 48)) rfl (by rfl) 22 rfl (by unfold execOp; simp [go_sem]) ?_)
     have hb6 : Below w3.heap.size w3 (w3.alloc (.cells #[.int .i64 (hiS s), .int .u64 (loN s), .int .i64 (hiS (wide v.coin)), .int .u64 (loN (wide v.coin))] 48)) := (Below.refl _ _).alloc (Nat.le_refl _) _
     have hl6 : Lies (w3.alloc (.cells #[.int .i64 (hiS s), .int .u64 (loN s), .int .i64 (hiS (wide v.coin)), .int .u64 (loN (wide v.coin))] 48)) w3.heap.size #[.int .i64 (hiS s), .int .u64 (loN s), .int .i64 (hiS (wide v.coin)), .int .u64 (loN (wide v.coin))] 48 := Lies.new _ _ _
     generalize w3.alloc (.cells #[.int .i64 (hiS s), .int .u64 (loN s), .int .i64 (hiS (wide v.coin)), .int .u64 (loN (wide v.coin))] 48) = w6 at hb6 hl6 ⊢
     have hc6 := hc3.trans (hb6.mono hc3.size)
     refine ⟨HS.out _ hc6, ?_⟩
     simp only [Act.put, List.setIfInBounds_toArray, List.set_cons_zero, List.set_cons_succ]
     have hplus := plus_two w6 w3.heap.size s (wide v.coin) hl6
     rw [wv_wC, ← hcv] at hplus
     refine held_one (i := 5) (by kernel_rfl) _ rfl (wpOp_callG rfl (by rfl) 23 rfl 36 #[.slice (some ⟨w3.heap.size, 0, none⟩) 2 2] (by unfold execOp; simp [go_sem]) _ (ret_of hplus) ?_)
     rintro v7 w7 ⟨rfl, hb7⟩
     have hc7 := hc6.trans (hb7.mono hc6.size)
     have hcur := HS.out _ hc7
     refine ⟨hcur, ?_⟩
     simp only [Act.put, List.setIfInBounds_toArray, List.set_cons_zero, List.set_cons_succ]
     have hw7 := HW5.out.step hc7
     have hw8 := hw7.sumTo (s + wide v.coin)
     rw [← hcv] at hw8
     have hv8 : Lies (w7.setRow (w.heap.size + 1 + 1) cv) wr.heap.size #[.int .i64 v.coin, .slice v.pa v.l.length v.c] 24 := hcur.setRowOther _ _ (by have := HR.out.1.sum.lt; omega)
     have hold7 : Lies w7 (w.heap.size + 1 + 1) #[.int .i64 (hiS s), .int .u64 (loN s)] 48 := hw7.sum
     refine held_one (i := 6) (by kernel_rfl) _ rfl (wpOp_storeRow rfl rfl 48 _ _ rfl (w.heap.size + 1 + 1) cv rfl rfl 48 #[.int .i64 (hiS s), .int .u64 (loN s)] hold7 (by rw [hcs]; exact info_wide) hcs.symm hc1 ?_)
     refine ⟨hv8, ?_⟩
     simp only [Act.put, List.setIfInBounds_toArray, List.set_cons_zero, List.set_cons_succ]
     generalize w7.setRow (w.heap.size + 1 + 1) cv = W8 at hw8 hv8 ⊢
     generalize Value.slice (some ⟨w3.heap.size, 0, none⟩) 2 2 = x22
     refine wpAnyH_done (by kernel_rfl) ?_ _
     exact hcont x22 W8 hw8 hv8
    case inr =>
     refine wpOp_callG rfl (by rfl) 21 rfl 39 #[.int .i64 v.coin] (by unfold execOp; simp [go_sem]) _ (ret_of (wide_any wd v.coin HR.out.2.2.1.1 HR.out.2.2.1.2.1)) ?_
     rintro v3 w3 ⟨rfl, hb3⟩
     have hc3 := hbd.trans (hb3.mono hbd.size)
     refine ⟨HS.out _ hc3, ?_⟩
     unfold wv
     simp only [Act.put, List.setIfInBounds_toArray, List.set_cons_zero, List.set_cons_succ]
     refine held_one (i := 0) (by kernel_rfl) _ rfl (wpOp_valG (v := .agg #[.int .i64 (hiS s), .int .u64 (loN s)]) (w' := w3) rfl (by rfl) 18 rfl (exec_loadM 48 _ rfl _ _ rfl #[.int .i64 (hiS s), .int .u64 (loN s)] (hload _ hc3) Tryz.underlying48 rfl info_wide) ?_)
     refine ⟨HS.out _ hc3, ?_⟩
     simp only [Act.put, List.setIfInBounds_toArray, List.set_cons_zero, List.set_cons_succ]
     refine held_one (i := 4) (by kernel_rfl) _ rfl (wpOp_valG (v := .slice (some ⟨w3.heap.size, 0, none⟩) 2 2) (w' := w3.alloc (.cells #[.int .i64 (hiS s), .int .u64 (loN s), .int .i64 (hiS (wide v.coin)), .int .u64 (loN (wide v.coin))] 48)) rfl (by rfl) 22 rfl (by unfold execOp; simp [go_sem]) ?_)
     have hb6 : Below w3.heap.size w3 (w3.alloc (.cells #[.int .i64 (hiS s), .int .u64 (loN s), .int .i64 (hiS (wide v.coin)), .int .u64 (loN (wide v.coin))] 48)) := (Below.refl _ _).alloc (Nat.le_refl _) _
     have hl6 : Lies (w3.alloc (.cells #[.int .i64 (hiS s), .int .u64 (loN s), .int .i64 (hiS (wide v.coin)), .int .u64 (loN (wide v.coin))] 48)) w3.heap.size #[.int .i64 (hiS s), .int .u64 (loN s), .int .i64 (hiS (wide v.coin)), .int .u64 (loN (wide v.coin))] 48 := Lies.new _ _ _
     generalize w3.alloc (.cells #[.int .i64 (hiS s), .int .u64 (loN s), .int .i64 (hiS (wide v.coin)), .int .u64 (loN (wide v.coin))] 48) = w6 at hb6 hl6 ⊢
     have hc6 := hc3.trans (hb6.mono hc3.size)
     refine ⟨HS.out _ hc6, ?_⟩
     simp only [Act.put, List.setIfInBounds_toArray, List.set_cons_zero, List.set_cons_succ]
     have hplus := plus_two w6 w3.heap.size s (wide v.coin) hl6
     rw [wv_wC, ← hcv] at hplus
     refine held_one (i := 5) (by kernel_rfl) _ rfl (wpOp_callG rfl (by rfl) 23 rfl 36 #[.slice (some ⟨w3.heap.size, 0, none⟩) 2 2] (by unfold execOp; simp [go_sem]) _ (ret_of hplus) ?_)
     rintro v7 w7 ⟨rfl, hb7⟩
     have hc7 := hc6.trans (hb7.mono hc6.size)
     have hcur := HS.out _ hc7
     refine ⟨hcur, ?_⟩
     simp only [Act.put, List.setIfInBounds_toArray, List.set_cons_zero, List.set_cons_succ]
     have hw7 := HW5.out.step hc7
     have hw8 := hw7.sumTo (s + wide v.coin)
     rw [← hcv] at hw8
     have hv8 : Lies (w7.setRow (w.heap.size + 1 + 1) cv) wr.heap.size #[.int .i64 v.coin, .slice v.pa v.l.length v.c] 24 := hcur.setRowOther _ _ (by have := HR.out.1.sum.lt; omega)
     have hold7 : Lies w7 (w.heap.size + 1 + 1) #[.int .i64 (hiS s), .int .u64 (loN s)] 48 := hw7.sum
     refine held_one (i := 6) (by kernel_rfl) _ rfl (wpOp_storeRow rfl rfl 48 _ _ rfl (w.heap.size + 1 + 1) cv rfl rfl 48 #[.int .i64 (hiS s), .int .u64 (loN s)] hold7 (by rw [hcs]; exact info_wide) hcs.symm hc1 ?_)
     refine ⟨hv8, ?_⟩
     simp only [Act.put, List.setIfInBounds_toArray, List.set_cons_zero, List.set_cons_succ]
     generalize w7.setRow (w.heap.size + 1 + 1) cv = W8 at hw8 hv8 ⊢
     generalize Value.slice (some ⟨w3.heap.size, 0, none⟩) 2 2 = x22
     refine wpAnyH_done (by kernel_rfl) ?_ _
     exact hcont x22 W8 hw8 hv8
   case cont =>
    intro x22 W8 hw8 hv8
    unfold NoPanic
    dsimp only
    obtain ⟨pv, hpv⟩ : ∃ p, p = v.pa := ⟨_, rfl⟩
    obtain ⟨s1, hs1⟩ : ∃ x, x = s + wide v.coin := ⟨_, rfl⟩
    have c1 := hv8.cell 1 (v := .slice v.pa v.l.length v.c) rfl
    have hvl : (v.l.length : Int) ≤ 9223372036854775807 := by have := HR.out.2.2.1.2.2.1; unfold maxLen at this; omega
    rw [← hpv] at c1
    rw [← hs1] at hw8
    have HW8 := Lib.hid (And.intro hw8 (And.intro hpv hs1))
    obtain ⟨bv, hbv⟩ : ∃ b, b = wr.heap.size := ⟨_, rfl⟩
    rw [← hbv] at c1 ⊢
    clear hw8 hv8 hload hcur hbd hw5s hcv hcs hc1 hpv hs1 HS HW5 hbv
    go_upto_region 7 with fail
    go_loopw [27] (fun i W => ∃ j : Nat, j ≤ v.l.length ∧ i = .int .i64 j ∧ OnWay w W s1 (L ++ (ctsOf v).take j)) (fun i _ => v.l.length - (intOf i).toNat)
    case atStart => exact ⟨0, Nat.zero_le _, rfl, by simpa using HW8.out.1⟩
    case round =>
     obtain ⟨j, hj, rfl, hway⟩ := hrel
     by_cases hlt : j < v.l.length
     ·
      have m1 : (j : Int) < (v.l.length : Int) := by omega
      have m0 : (0 : Int) ≤ (j : Int) := by omega
      obtain ⟨ga, oa, hpa, hga, hha⟩ := HR.out.2.2.1.2.2.2.2 (by omega)
      rw [← HW8.out.2.1] at hpa
      subst hpa
      obtain ⟨a, ha⟩ : ∃ a, a = v.l[j] := ⟨_, rfl⟩
      have hka : v.l[j]? = some a := by rw [ha, List.getElem?_eq_getElem hlt]
      have oka := HR.out.2.2.1.2.2.2.1 a (List.mem_of_getElem? hka)
      have hrg := (hha.below hway.below hga) j a hka
      obtain ⟨va, hva⟩ : ∃ v, v = asC a := ⟨_, rfl⟩
      obtain ⟨na, hna⟩ : ∃ v, v = nmC a.nm := ⟨_, rfl⟩
      have hvs : va.size = 34 := by rw [hva]; exact asC_size a oka.1
      have hv1 : va.all (·.oneCell') = true := by rw [hva]; exact asC_one a
      have h33 : va[33]? = some (.int .i64 a.amt) := by rw [hva]; exact asC_amt a oka.1
      rw [← hva] at hrg
      have hcall : ∀ W, Calls Tryz.prog 59 #[.agg va] W fun e w' => e = .returned (.agg na) ∧ Below W.heap.size W w' := fun W => by
       rw [hva, hna]; exact callAsset_any W a oka.1
      have hwide : ∀ W, Calls Tryz.prog 39 #[.int .i64 a.amt] W fun e w' => e = .returned (wv (wide a.amt)) ∧ Below W.heap.size W w' := fun W => wide_any W a.amt oka.2.2.1 oka.2.2.2
      obtain ⟨Lj, hLj⟩ : ∃ l, l = L ++ (ctsOf v).take j := ⟨_, rfl⟩
      have hLj' : L ++ (ctsOf v).take (j + 1) = Lj ++ [(a.nm, wide a.amt)] := by rw [hLj, ctsOf_take hka, List.append_assoc]
      have hLl : Lj.length < maxLen := by rw [hLj]; exact Nat.lt_of_le_of_lt (Nat.le_trans (HR.out.2.2.2.2.2 j hj) H.out.2) (by decide)
      rw [← hLj] at hway
      obtain ⟨x, hx⟩ : ∃ x, x = wide a.amt := ⟨_, rfl⟩
      rw [← hx] at hLj' hwide
      have hput : ∀ W D, W.ownsMap Tryz.prog 86 rdW (w.heap.size + 1) Lj.length D → HoldsF D (sumAt Lj) → Calls Tryz.prog 67 #[.map (some (w.heap.size + 1)), .agg na, wv x] W fun e w' => e = .returned (.tuple #[]) ∧ PutW W w' (w.heap.size + 1) (Lj.length + 1) (D.put (kN a.nm) (dW (sumAt Lj a.nm + x))) := fun W D h1 h2 => by
       rw [hna]; exact put_any W (w.heap.size + 1) Lj.length D (sumAt Lj) a.nm x h1 h2 hLl oka.1 oka.2.1
      have HI := Lib.hid (And.intro (show (Tryz.prog.info? 38).map (·.size) = some va.size by rw [hvs]; exact info_asset) (And.intro hcall (And.intro hwide hput)))
      have HJ := Lib.hid (And.intro hway (And.intro hlt (And.intro hLj' (And.intro oka (And.intro hvs (And.intro hv1 h33))))))
      have HRG := Lib.hid hrg
      clear hway hlt hj ha hka oka hva hna hvs hv1 h33 hha hga hrg hcall hwide hput hLj hLj' hLl hx
      go_upto_region 9 with (first
       | (refine wpList_load_mid rfl 38 _ rfl ga (oa + j * 34) rfl va.toList _ HRG.out Tryz.underlying38 rfl (by rw [Array.length_toList]; exact HI.out.1) ?_)
       | (refine wpList_store_row rfl 38 _ _ rfl wr.heap.size va rfl rfl 38 z34 (Lies.new wr z34 38) HI.out.1 (by rw [HJ.out.2.2.2.2.1]; kernel_rfl) HJ.out.2.2.2.2.2.1 ?_))
      rw [World.setRow_alloc_new]
      obtain ⟨b9, hb9⟩ : ∃ b, b = wr.heap.size := ⟨_, rfl⟩
      have hL9 : Lies (wr.alloc (.cells va 38)) b9 va 38 := by rw [hb9]; exact Lies.new _ _ _
      have hw9 : OnWay w (wr.alloc (.cells va 38)) s1 Lj := HJ.out.1.step ((Below.refl _ _).alloc (Nat.le_refl _) _)
      have hfar : w.heap.size + 1 + 1 < b9 := by rw [hb9]; exact HJ.out.1.sum.lt
      rw [← hb9]
      generalize wr.alloc (.cells va 38) = W9 at hL9 hw9 ⊢
      have HS9 : Hid (∀ U, Below W9.heap.size W9 U → Lies U b9 va 38) := Lib.hid fun U hU => hL9.below hU hL9.lt
      have HW9 := Lib.hid hw9
      clear hL9 hw9 hb9
      refine wp_region_noPanic (wp_region_held (S := fun U => Lies U b9 va 38) (by kernel_rfl) ?_)
      change wpAnyH _ _ _ _ _ 7 _ _ (World.drew W9)
      have hbd : Below W9.heap.size W9 W9.drew := (Below.refl _ _).drew
      generalize World.drew W9 = wd9 at hbd ⊢
      have hcur := HS9.out _ hbd
      refine tk 0 (.map (some (w.heap.size + 1))) 31 rfl rfl hcur ?_
      refine tk 1 (.agg va) 32 rfl rfl hcur ?_ (by intro w' hS'; exact exec_loadM 38 _ rfl _ _ rfl va (range_lies hS') Tryz.underlying38 rfl HI.out.1)
      refine tk 3 (.pointer (some ⟨b9, 33, none⟩)) 34 rfl rfl hcur ?_
      refine tk 4 (.int .i64 a.amt) 35 rfl rfl hcur ?_ (by intro w' hS'; have hq := hS'.cell 33 HJ.out.2.2.2.2.2.2; unfold execOp; simp [go_sem, hq])
      refine held_one (i := 2) (by kernel_rfl) _ rfl (wpOp_callG rfl (by rfl) 33 rfl 59 #[.agg va] (by unfold execOp; simp [go_sem]) _ (ret_of (HI.out.2.1 _)) ?_)
      rintro v1 w1 ⟨rfl, hb1⟩
      have hc1 := hbd.trans (hb1.mono hbd.size)
      refine ⟨HS9.out _ hc1, ?_⟩
      simp only [Act.put, List.setIfInBounds_toArray, List.set_cons_zero, List.set_cons_succ]
      refine held_one (i := 5) (by kernel_rfl) _ rfl (wpOp_callG rfl (by rfl) 36 rfl 39 #[.int .i64 a.amt] (by unfold execOp; simp [go_sem]) _ (ret_of (HI.out.2.2.1 _)) ?_)
      rintro v2 w2 ⟨rfl, hb2⟩
      have hc2 := hc1.trans (hb2.mono hc1.size)
      have hcur := HS9.out _ hc2
      refine ⟨hcur, ?_⟩
      simp only [Act.put, List.setIfInBounds_toArray, List.set_cons_zero, List.set_cons_succ]
      have hw2 := HW9.out.step hc2
      obtain ⟨D, hD, hDf⟩ := hw2.map
      refine held_one (i := 6) (by kernel_rfl) _ rfl (wpOp_callG rfl (by rfl) 37 rfl 67 #[.map (some (w.heap.size + 1)), .agg na, wv x] (by unfold execOp; simp [go_sem]) _ (ret_gro (HI.out.2.2.2 w2 D hD hDf)) ?_)
      rintro v3 w3 ⟨rfl, hp3⟩
      have hS3 : Lies w3 b9 va 38 := lies_grown hp3.2 hcur (by simp; omega)
      refine ⟨hS3, ?_⟩
      simp only [Act.put, List.setIfInBounds_toArray, List.set_cons_zero, List.set_cons_succ]
      have hw3 : OnWay w w3 s1 (Lj ++ [(a.nm, x)]) := hw2.put hDf hD.isMap a.nm x HJ.out.2.2.2.1.1 HJ.out.2.2.2.1.2.1 hp3
      have HE := Lib.hid hw3
      clear hw3 hw2 hD hDf hp3 hS3 hcur hc1 hc2 hb1 hb2 hbd
      refine wpAnyH_done (by kernel_rfl) ?_ _
      unfold NoPanic
      dsimp only
      go_wp2_with fail
      have e1 : (j : Int) + 1 = ((j + 1 : Nat) : Int) := by omega
      rw [e1]
      refine ⟨⟨j + 1, HJ.out.2.1, rfl, by rw [HJ.out.2.2.1]; exact HE.out⟩, ?_⟩
      have h := HJ.out.2.1
      show v.l.length - (j + 1) < v.l.length - j
      omega
     ·
      have m1 : ¬ (j : Int) < (v.l.length : Int) := by omega
      have HE : Hid (OnWay w wr s1 (L ++ ctsOf v)) := Lib.hid (by
       have e : (ctsOf v).take j = ctsOf v := List.take_of_length_le (by unfold ctsOf; rw [List.length_map]; omega)
       rw [e] at hway; exact hway)
      clear hway hlt hj
      go_wp2_with fail
      have e1 : (k : Int) + 1 = ((k + 1 : Nat) : Int) := by omega
      rw [e1]
      refine ⟨⟨k + 1, HR.out.2.1, rfl, by rw [HR.out.2.2.2.1, HR.out.2.2.2.2.1, ← HW8.out.2.2]; exact HE.out⟩, ?_⟩
      have h := HR.out.2.1
      show vs.length - (k + 1) < vs.length - k
      omega
  ·
   have m1 : ¬ (k : Int) < (vs.length : Int) := by omega
   have hkk : k = vs.length := by omega
   subst hkk
   rw [List.take_length] at hway
   have HE := Lib.hid hway
   clear hway hlt hk
   go_upto_region 12 with fail
   obtain ⟨cv, hcv⟩ : ∃ c, c = wC (coinS vs) := ⟨_, rfl⟩
   have hcs : cv.size = 2 := by rw [hcv]; rfl
   have hc1 : cv.all (·.oneCell') = true := by rw [hcv]; exact wC_one _
   have hret : wv (coinS vs) = .agg cv := by rw [hcv]; exact wv_wC _
   have hsum : Lies wr (w.heap.size + 1 + 1) cv 48 := by rw [hcv]; exact HE.out.sum
   have HS : Hid (∀ U, Below wr.heap.size wr U → Lies U (w.heap.size + 1 + 1) cv 48) := Lib.hid fun U hU => hsum.below hU hsum.lt
   have HI := Lib.hid (And.intro (show (Tryz.prog.info? 48).map (·.size) = some cv.size by rw [hcs]; exact info_wide) (And.intro hcs (And.intro hc1 hret)))
   have hsz1 : w.heap.size < wr.heap.size := by have := hsum.lt; omega
   clear hsum hcs hc1 hret hcv m1
   refine wp_region_noPanic (wp_region_held (S := fun U => Lies U (w.heap.size + 1 + 1) cv 48) (by kernel_rfl) ?_)
   change wpAnyH _ _ _ _ _ 5 _ _ (World.drew wr)
   have hbd : Below wr.heap.size wr wr.drew := (Below.refl _ _).drew
   generalize World.drew wr = wd at hbd ⊢
   have hcur := HS.out _ hbd
   refine tk 0 (.agg cv) 40 rfl rfl hcur ?_ (by intro w' hS'; exact exec_loadM 48 _ rfl _ _ rfl cv (range_lies hS') Tryz.underlying48 rfl HI.out.1)
   refine tk 1 (.map (some (w.heap.size + 1))) 41 rfl rfl hcur ?_
   have hwd := HE.out.step hbd
   obtain ⟨D, hD, hDf⟩ := hwd.map
   have htot := HT.out wd (w.heap.size + 1) _ D _ hD hDf H.out.2 (fun m hm => by
    obtain ⟨p, hp, e⟩ := sumAt_mem hm
    rw [← e]
    exact HNM.out p hp)
   have htot2 : Calls Tryz.prog 68 #[.map (some (w.heap.size + 1))] wd fun e w' => ∃ v, e = .returned v ∧ (∃ pa l c, v = .slice pa l.length c ∧ RowT w' pa l ∧ IsTot (sumAt (ctsL vs)) (l.map fun t => (t.nm, t.w)) ∧ Below wd.heap.size wd w' ∧ Fresh wd.heap.size pa ∧ RoomT wd.heap.size w' pa l.length c) :=
    htot.mono fun e w' h => by
     obtain ⟨pa, l, c, h1, h2⟩ := h
     exact ⟨_, h1, pa, l, c, rfl, h2⟩
   refine held_one (i := 2) (by kernel_rfl) _ rfl (wpOp_callG rfl (by rfl) 42 rfl 68 #[.map (some (w.heap.size + 1))] (by unfold execOp; simp [go_sem]) _ htot2 ?_)
   rintro v1 w1 ⟨pt, lt, ct, rfl, hrow, htt, hb1, hfr1, hrm1⟩
   have hfr : Fresh w.heap.size pt := fun a e => Nat.le_trans (Nat.le_trans HE.out.below.size hbd.size) (hfr1 a e)
   clear hfr1
   have hc1 := hbd.trans (hb1.mono hbd.size)
   have hcur := HS.out _ hc1
   refine ⟨hcur, ?_⟩
   simp only [Act.put, List.setIfInBounds_toArray, List.set_cons_zero, List.set_cons_succ]
   have hw1 := HE.out.step hc1
   have hres : Lies w1 w.heap.size #[.int .i64 0, .int .u64 0] 48 := hw1.res
   refine held_one (i := 3) (by kernel_rfl) _ rfl (wpOp_storeRow rfl rfl 48 _ _ rfl w.heap.size cv rfl rfl 48 #[.int .i64 0, .int .u64 0] hres HI.out.1 HI.out.2.1.symm HI.out.2.2.1 ?_)
   have hbs := below_setRow hw1.below w.heap.size cv (Nat.le_refl _)
   have hrow2 : RowT (w1.setRow w.heap.size cv) pt lt := hrow.setRow w.heap.size cv hres (by decide)
   have hres2 : Lies (w1.setRow w.heap.size cv) w.heap.size cv 48 := hres.setRow _
   have hsum2 : Lies (w1.setRow w.heap.size cv) (w.heap.size + 1 + 1) cv 48 := hcur.setRowOther _ _ (by omega)
   refine ⟨hsum2, ?_⟩
   simp only [Act.put, List.setIfInBounds_toArray, List.set_cons_zero, List.set_cons_succ]
   have hrm2 : RoomT w.heap.size (w1.setRow w.heap.size cv) pt lt.length ct := (hrm1.setRow (Nat.lt_of_lt_of_le hsz1 hbd.size) cv).mono (Nat.le_trans HE.out.below.size hbd.size)
   generalize w1.setRow w.heap.size cv = w2 at hbs hrow2 hres2 hsum2 hrm2 ⊢
   have hcur := hsum2
   refine tk 4 (.slice pt lt.length ct) 3 rfl rfl hcur ?_
   refine wpAnyH_done (by kernel_rfl) ?_ _
   unfold NoPanic
   dsimp only
   have HZ := Lib.hid (And.intro hbs (And.intro hrow2 (And.intro hres2 (And.intro htt (And.intro hfr hrm2)))))
   clear hbs hrow2 hres2 htt hfr hrm2 hrm1 hsz1 hsum2 hcur hres hw1 hc1 hb1 hrow htot htot2 hD hDf hwd hbd
   go_wp2_with fail
   refine bodyPost_ret (v := .tuple #[.agg cv, .slice pt lt.length ct]) (results_row_tmp (p := 2) (u := 3) (ty := 48) (by kernel_rfl) _ _ w.heap.size 48 cv (0, 0) _ rfl HZ.out.2.2.1 Tryz.underlying48 rfl HI.out.1) rfl ⟨⟨pt, lt, ct, by rw [HI.out.2.2.2], HZ.out.2.1, HZ.out.2.2.2.1, HZ.out.2.2.2.2⟩, HZ.out.1⟩
theorem sumsF_any (hT : TotalsAt) (w : World) (pa : Option Addr) (vs : List Va) (c : Nat) (h : RowV w pa vs) (hc : (ctsL vs).length ≤ 1000000) (hnm : ∀ p, p ∈ ctsL vs → p.1.1.length = 32 ∧ p.1.2.length ≤ 281474976710656) :
  Calls Tryz.prog 26 #[.slice pa vs.length c] w fun e w' => SumsResF vs w.heap.size w' e ∧ Below w.heap.size w w' :=
 (sumsR_any hT w pa vs c h hc hnm).mono fun _ _ ⟨⟨p, l, c', h1, h2, h3, h4, _⟩, h5⟩ => ⟨⟨p, l, c', h1, h2, h3, h4⟩, h5⟩
theorem sums_any (hT : TotalsAt) (w : World) (pa : Option Addr) (vs : List Va) (c : Nat) (h : RowV w pa vs) (hc : (ctsL vs).length ≤ 1000000) (hnm : ∀ p, p ∈ ctsL vs → p.1.1.length = 32 ∧ p.1.2.length ≤ 281474976710656) :
  Calls Tryz.prog 26 #[.slice pa vs.length c] w fun e w' => SumsRes vs w' e ∧ Below w.heap.size w w' :=
 (sumsF_any hT w pa vs c h hc hnm).mono fun _ _ ⟨⟨p, l, c', h1, h2, h3, _⟩, h5⟩ => ⟨⟨p, l, c', h1, h2, h3⟩, h5⟩
end Go.Proofs.YtjngghihciimjaaGreat
