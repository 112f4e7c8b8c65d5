/-
  slices.SortFunc of totals; strings.Clone.
-/
import Derived.Test.YtjngghihciimjaaVj
import Derived.Test.YtjngghihciimjaaShelf
import Derived.Shelf.SlSortCmp.NoneTotal
namespace Go.Proofs.Ytjngghihciimjaa
set_option maxRecDepth 100000
open Go.RowKit Go.Sort Go.Maps Go.Shelf

theorem gro_of {w w' : World} (hb : RowKit.Below w.heap.size w w') (hd : w.drawn ≤ w'.drawn) : ∃ q os', w' = grow (w.drewN q) os' := by
  obtain ⟨p, rfl⟩ := regrown_of_below hb
  have h : w.drawn ≤ p.d := hd
  refine ⟨p.d - w.drawn, p.os, ?_⟩
  show grow { w with drawn := p.d } p.os = grow { w with drawn := w.drawn + (p.d - w.drawn) } p.os
  rw [Nat.add_sub_cancel' h]
theorem strclone_any (w : World) (s : ByteArray) (hl : s.size ≤ 281474976710656) : Calls Try.prog 45 #[.string s] w fun e w' => e = .returned (.string s) ∧ RowKit.Below w.heap.size w w' := by
  have h := Try.stringslite_Clone s w hl
  have H := Lib.hid h
  clear h
  go_enter Try.func45, Try.ntmps45
  go_wp2_with fail
  refine H.out.mono ?_
  rintro e w2 ⟨rfl, hb⟩
  have HB := Lib.hid hb
  clear hb
  go_wp2_with fail
  go_ret
  exact ⟨rfl, HB.out⟩
/-- A total whose policy has 32 bytes. -/
abbrev OkTo := {a : To // a.nm.1.length = 32}
instance : Inhabited OkTo := ⟨⟨⟨(List.replicate 32 0, []), 0⟩, by simp⟩⟩
def encT (a : OkTo) : List Value := (toC a.1).toList
def cfT (a b : OkTo) : Int := cN a.1.nm b.1.nm
theorem ltT (a b : OkTo) : ltOf cfT a b = decide (cN a.1.nm b.1.nm < 0) := rfl
theorem swoT : SWO (ltOf cfT) where
  irrefl x := by rw [ltT, decide_eq_false_iff_not]; exact cN_irrefl _
  trans x y z h1 h2 := by rw [ltT, decide_eq_true_iff] at *; exact cN_trans h1 h2
  ntrans x y z h1 h2 := by
    rw [ltT, decide_eq_false_iff_not] at *
    intro h3
    by_cases e : cN x.1.nm y.1.nm = 0
    · rw [cN_eq e] at h3
      exact h2 h3
    · have h4 := cN_swap x.1.nm y.1.nm
      exact h2 (cN_trans (by omega) h3)
theorem cmpLaysT (blk off size : Nat) (w : World) : CmpLays Try.prog 47 #[] encT 35 cfT blk off size w := fun m os dk _ x y => by
  have h := cmpTotal_gro (sortWorldK encT 35 w blk off m dk os) x.1 y.1 x.2 y.2
  have e : (#[Value.agg (encT x).toArray, .agg (encT y).toArray] ++ #[] : Array Value) = #[.agg (toC x.1), .agg (toC y.1)] := by simp [encT]
  rw [e]
  exact h.mono fun e w' h => ⟨h.1, gro_of h.2.1 h.2.2⟩
def okL (l : List To) (h : ∀ a, a ∈ l → a.nm.1.length = 32) : List OkTo := l.pmap (fun a h => ⟨a, h⟩) h
theorem okL_map (l : List To) (h : ∀ a, a ∈ l → a.nm.1.length = 32) : (okL l h).map (·.1) = l := by
  unfold okL
  rw [List.map_pmap]
  simp
theorem grown_sort {α : Type} [Inhabited α] (enc : α → List Value) (k : Nat) (w : World) (g off n : Nat) (d : Array α) (os : Array Obj) : w.grownBy (sortWorldK enc k w g off n d os) (some g) := by
  refine ⟨rfl, rfl, rfl, by simp [sortWorldK, grow, putRowK, putRow, mapBlock, Sort.ahead], fun i hi hne => ?_⟩
  have hne' : ¬ g = i := fun e => hne (by rw [e])
  show ((w.heap.modify g (onCells (putCells id off (flatK enc k d)))) ++ os)[i]? = w.heap[i]?
  rw [Array.getElem?_append_left (by simpa using hi), Array.getElem?_modify, if_neg hne']
/-- No later one stands ahead of an earlier one. -/
def SortL (l : List To) : Prop := ∀ (i j : Nat) (a b : To), i < j → l[i]? = some a → l[j]? = some b → ¬ cN b.nm a.nm < 0
theorem enters47 : ∀ args w, (callFunc 47 args).run Try.prog w = .ok (.enter 47 args) w := enters_of Try.func47 (by kernel_rfl) rfl
set_option maxHeartbeats 1000000 in
theorem sortT_any (w : World) (g cap : Nat) (l : List To) (ho : ∀ a, a ∈ l → a.nm.1.length = 32) (hh : ∀ (i : Nat) (a : To), l[i]? = some a → w.rangeAt g (0 + i * 35) (toC a).toList) (hf : ∀ j, w.frozen? ⟨g, j, none⟩ = false) (hg : g < w.heap.size) (hl : l.length < 4611686018427387904) :
    Calls Try.prog 46 #[.slice (some ⟨g, 0, none⟩) l.length cap, .func (.func 47) #[] #[]] w fun e w' => e = .returned (.tuple #[]) ∧
      ∃ l' : List To, l'.Perm l ∧ SortL l' ∧ (∀ (i : Nat) (a : To), l'[i]? = some a → w'.rangeAt g (0 + i * 35) (toC a).toList) ∧ w.grownBy w' (some g) := by
  obtain ⟨d, hd⟩ : ∃ d, d = (okL l ho).toArray := ⟨_, rfl⟩
  have hmap : d.toList.map (·.1) = l := by rw [hd]; exact okL_map l ho
  have hsz : d.size = l.length := by rw [← hmap, List.length_map, Array.length_toList]
  have hget : ∀ i, i < d.size → l[i]? = some (d[i]!).1 := fun i hi => by
    rw [← hmap, List.getElem?_map, Array.getElem?_toList, Array.getElem?_eq_getElem hi, getElem!_pos d i hi]
    rfl
  have henc : ∀ (x : OkTo), (encT x).length = 35 := fun x => by unfold encT; rw [Array.length_toList]; exact toC_size x.1 x.2
  have hH : HoldsK encT 35 w g 0 d := fun t ht => by
    rw [size_flatK] at ht
    have hi : t / 35 < d.size := by omega
    have hj : t % 35 < 35 := Nat.mod_lt _ (by decide)
    refine ⟨?_, hf _⟩
    show w.cell? ⟨g, 0 + t, none⟩ = some (flatK encT 35 d)[t]!
    rw [get_flatK encT 35 d t ht]
    have hc := hh (t / 35) _ (hget _ hi) (t % 35) ((encT d[t / 35]!)[t % 35]!) (by
      show (encT d[t / 35]!)[t % 35]? = _
      rw [getElem!_pos _ (t % 35) (by rw [henc]; exact hj), List.getElem?_eq_getElem])
    rw [show 0 + t = 0 + t / 35 * 35 + t % 35 by omega]
    exact hc
  have h := AnyQ.slices_SortFunc (P := Try.prog) (ρ := Try.sortTo_ren) Try.sortTo 35 Try.isAgg48 Try.sizeOf48 encT henc (fun x v hv => by
    have := toC_one x.1
    rw [Array.all_eq_true_iff_forall_mem] at this
    exact this v (Array.mem_toList_iff.1 hv)) cfT swoT 47 #[] g 0 cap d w enters47 (cmpLaysT g 0 d.size w) hH hg (by rw [hsz]; exact hl)
  change Calls Try.prog 46 _ _ _ at h
  rw [hsz] at h
  refine h.mono fun e w' hh' => ?_
  obtain ⟨he, d', n, os, hp, hs, rfl⟩ := hh'
  have hsz' : d'.size = d.size := by rw [hsz]; exact hp.1.trans hsz
  have hget' : ∀ i, i < d'.size → (d'.toList.map (·.1))[i]? = some (d'[i]!).1 := fun i hi => by
    rw [List.getElem?_map, Array.getElem?_toList, Array.getElem?_eq_getElem hi, getElem!_pos d' i hi]
    rfl
  have hlt' : ∀ (i : Nat) (a : To), (d'.toList.map (·.1))[i]? = some a → i < d'.size ∧ a = (d'[i]!).1 := fun i a ha => by
    have hi : i < d'.size := by
      have := (List.getElem?_eq_some_iff.1 ha).1
      rwa [List.length_map, Array.length_toList] at this
    rw [hget' i hi] at ha
    exact ⟨hi, (Option.some.inj ha).symm⟩
  have hH' := holdsK_sortWorldK_c encT 35 w g 0 d d' n os hH hg hsz'
  refine ⟨he, d'.toList.map (·.1), ?_, ?_, ?_, grown_sort encT 35 w g 0 n d' os⟩
  · have h3 := hp.2.2
    rw [← hsz, ← hsz', Array.extract_size, hsz', Array.extract_size] at h3
    have h4 := h3.map (·.1)
    rw [hmap] at h4
    exact h4
  · intro i j a b hij ha hb
    obtain ⟨hi, rfl⟩ := hlt' i a ha
    obtain ⟨hj, rfl⟩ := hlt' j b hb
    have := hs i j (Nat.zero_le _) hij (by omega)
    rw [ltT, decide_eq_false_iff_not] at this
    exact this
  · intro i a ha j v hv
    obtain ⟨hi, rfl⟩ := hlt' i a ha
    have hj : j < 35 := by
      have := (List.getElem?_eq_some_iff.1 hv).1
      rw [Array.length_toList, toC_size _ (d'[i]!).2] at this
      exact this
    have ht : i * 35 + j < d'.size * 35 := by omega
    have hc := (hH' (i * 35 + j) (by rw [size_flatK]; exact ht)).1
    change _ = some (flatK encT 35 d')[i * 35 + j]! at hc
    rw [get_flatK encT 35 d' _ ht, show (i * 35 + j) / 35 = i by omega, show (i * 35 + j) % 35 = j by omega] at hc
    rw [show 0 + i * 35 + j = 0 + (i * 35 + j) by omega, hc]
    have hv' : (encT d'[i]!)[j]? = some v := hv
    rw [getElem!_pos _ j (by rw [henc]; exact hj)]
    rw [List.getElem?_eq_getElem (by rw [henc]; exact hj)] at hv'
    exact hv'
theorem sortN_any (w : World) (a : Option Addr) (cap : Nat) :
    Calls Try.prog 46 #[.slice a 0 cap, .func (.func 47) #[] #[]] w fun e w' => e = .returned (.tuple #[]) ∧ w = w' := by
  have h := AnyF.slices_SortFunc_none (P := Try.prog) (ρ := Try.sortTo_ren) Try.sortTo a cap (.func (.func 47) #[] #[]) w
  exact h.mono fun e w' h => ⟨h.1, h.2.symm⟩
end Go.Proofs.Ytjngghihciimjaa
