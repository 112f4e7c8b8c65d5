/-
  The document's own writer, spoilt or not: what each call makes of it.
-/
import Derived.Test.YtilbbemdinpjcaaGreatJWStr
import Derived.Test.YtilbbemdinpjcaaGreatJWTell
import Derived.Deep.RegionHeld3
import Derived.Laws.IdiomStrings
import Derived.Deep.WholeRow
import Derived.Deep.MidRow
namespace Go.Proofs.YtilbbemdinpjcaaGreat.W
open Go.RowKit

/-- Bytes that were put are told in new memory. -/
theorem wbytes_some (w : World) (B g : Nat) (v : Value) (l : List UInt8) (h : WrV w B g v l) (h0 : l ≠ []) (hx : l.length ≤ 2000000) :
    Calls Tryz.prog 38 #[.pointer (some ⟨g, 0, none⟩)] w fun e w' => ∃ k c, e = .returned (.tuple #[.slice (some ⟨k, 0, none⟩) l.length c, .int .i64 0]) ∧ w'.ownsRow w.heap.size 5 1 (.slice (some ⟨k, 0, none⟩) l.length c) l.length (B8 l).toList ∧ Below w.heap.size w w' := by
  have hpos : 0 < l.length := List.length_pos_iff.2 h0
  obtain ⟨gk, ck, rfl, _, hgk⟩ := h.2.1.form hpos
  have hcl := clone_any w l gk 0 ck (own_src h.2.1) hgk hx
  have ha := answered_self w g (h.1.cell 0 rfl)
  have c1 : w.cell? ⟨g, 1, none⟩ = some (.bool false) := h.1.cell 1 rfl
  have c2 : w.cell? ⟨g, 2, none⟩ = some (.slice (some ⟨gk, 0, none⟩) l.length ck) := h.1.cell 2 rfl
  have HC := Lib.hid hcl
  clear hcl h
  go_enter Tryz.func38, Tryz.ntmps38
  go_wp2_with fail
  refine ha.mono ?_
  rintro e w1 ⟨rfl, rfl⟩
  clear ha
  go_wp2_with fail
  refine HC.out.mono ?_
  rintro e w1 ⟨u, rfl, hown, hb⟩
  obtain ⟨k, c, rfl, _, _⟩ := hown.form hpos
  have HH := Lib.hid (And.intro hown hb)
  clear hown hb
  go_wp2_with fail
  go_ret2
  exact ⟨k, c, rfl, HH.out.1, HH.out.2⟩
/-- A writer that nobody made, or that is none: no bytes, ErrNil. -/
theorem wbytes_nil (w : World) : Calls Tryz.prog 38 #[.pointer none] w fun e w' => e = .returned (.tuple #[.slice none 0 0, .int .i64 1]) ∧ w = w' := by
  go_enter Tryz.func38, Tryz.ntmps38
  go_wp2
  go_ret2
  exact ⟨rfl, rfl⟩
theorem wbytes_none (w : World) (g : Nat) (h : w.cell? ⟨g, 0, none⟩ = some (.pointer none)) : Calls Tryz.prog 38 #[.pointer (some ⟨g, 0, none⟩)] w fun e w' => e = .returned (.tuple #[.slice none 0 0, .int .i64 1]) ∧ w = w' := by
  have ha := answered_none w g h
  go_enter Tryz.func38, Tryz.ntmps38
  go_wp2_with fail
  refine ha.mono ?_
  rintro e w1 ⟨rfl, rfl⟩
  clear ha
  go_wp2_with fail
  go_ret2
  exact ⟨rfl, rfl⟩
set_option maxRecDepth 100000 in
/-- A new reader of bytes that lie somewhere. -/
theorem newreader_some (w : World) (gx off c0 : Nat) (xs : List UInt8) (hs : Src w gx off xs) (hg : gx < w.heap.size) (hx : xs.length ≤ 2000000) (h0 : xs ≠ []) :
    Calls Tryz.prog 25 #[.slice (some ⟨gx, off, none⟩) xs.length c0] w fun e w' => ∃ g k c, e = .returned (.pointer (some ⟨g, 0, none⟩)) ∧ w.heap.size ≤ g ∧ w.heap.size ≤ k ∧ Rdr w' g k xs c 0 false ∧ Below w.heap.size w w' := by
  have hpos : 0 < xs.length := List.length_pos_iff.2 h0
  have hcl := clone_any w xs gx off c0 hs hg hx
  have HC := Lib.hid hcl
  clear hcl hs
  go_enter Tryz.func25, Tryz.ntmps25
  go_wp2_with fail
  refine HC.out.mono ?_
  rintro e w1 ⟨u, rfl, hown, hb⟩
  obtain ⟨k, c, rfl, hk1, hk2⟩ := hown.form hpos
  have hc : xs.length ≤ c := by
    rcases hown.2 with ⟨h, _⟩ | ⟨g2, cap, cur, h, _, _, h5, _⟩
    · cases h
    · cases h; exact h5
  have hcn : c ≠ NILC := by
    rcases hown.2 with ⟨h, _⟩ | ⟨g2, cap, cur, h, _, _, _, h6, _⟩
    · cases h
    · cases h
      unfold maxLen at h6
      unfold NILC
      omega
  have hsrc := own_src hown
  have HH := Lib.hid (And.intro hsrc hb)
  clear hown hb hsrc HC
  go_wp2_with fail
  have hl := Lies.new w1 #[.pointer none, .bool false, .slice (some ⟨k, 0, none⟩) xs.length c, .int .i64 0] 129
  have hb1 : Below w1.heap.size w1 (w1.alloc (.cells #[.pointer none, .bool false, .slice (some ⟨k, 0, none⟩) xs.length c, .int .i64 0] 129)) := (Below.refl _ _).alloc (Nat.le_refl _) _
  generalize w1.alloc (.cells #[.pointer none, .bool false, .slice (some ⟨k, 0, none⟩) xs.length c, .int .i64 0] 129) = w2 at hl hb1 ⊢
  refine (begin_any w2 w1.heap.size (.pointer none) (hl.cell 0 rfl) (hl.free 0) rfl).mono ?_
  rintro e w3 ⟨rfl, hw3⟩
  have hr : Rdr w3 w1.heap.size k xs c 0 false := by
    rw [hw3]
    have hl2 : Lies w2 w1.heap.size #[.pointer none, .bool false, RS k xs.length c, .int .i64 0] 129 := by rw [RS_some k _ hcn]; exact hl
    refine ⟨hl2.set 0 _, ?_, by omega, by rw [size_set]; exact Nat.lt_of_lt_of_le hk2 hb1.size, hx, hc, fun e => absurd e hcn⟩
    have h1 : Src w2 k 0 xs := fun j hj => (hb1.cell (p := ⟨k, 0 + j, none⟩) hk2).trans (HH.out.1 j hj)
    exact h1.only (only_set w1.heap.size 0 w2 _) (Nat.lt_of_lt_of_le hk2 hb1.size) (by omega)
  have hb3 : Below w.heap.size w w3 := by
    rw [hw3]
    exact (HH.out.2.trans (hb1.mono HH.out.2.size)).setCell HH.out.2.size _
  have HX := Lib.hid (And.intro hr hb3)
  clear hl hb1 hw3 hr hb3
  go_wp2_with fail
  go_ret
  exact ⟨w1.heap.size, k, c, rfl, HH.out.2.size, hk1, HX.out.1, HX.out.2⟩
end Go.Proofs.YtilbbemdinpjcaaGreat.W
namespace Go.Proofs.YtilbbemdinpjcaaGreat.W
open Go.RowKit

theorem rdr_pair {w : World} {g k : Nat} {xs : List UInt8} {c a : Nat} (h : Rdr w g k xs c a false) (v1 v2 : Value) (t1 t2 : TypeId) :
    Rdr ((w.alloc (.cells #[v1] t1)).alloc (.cells #[v2] t2)) g k xs c a false ∧ Below w.heap.size w ((w.alloc (.cells #[v1] t1)).alloc (.cells #[v2] t2)) := by
  have hb : Below w.heap.size w ((w.alloc (.cells #[v1] t1)).alloc (.cells #[v2] t2)) := ((Below.refl _ _).alloc (Nat.le_refl _) _).alloc (by simp) _
  exact ⟨h.below hb, hb⟩
/-- Count's closure. -/
theorem count1_good (W : World) (p q g k : Nat) (xs : List UInt8) (c a : Nat) (m : Int) (hp : W.cell? ⟨p, 0, none⟩ = some (.pointer (some ⟨g, 0, none⟩))) (hq : W.cell? ⟨q, 0, none⟩ = some (.int .i64 m)) (h : Rdr W g k xs c a false)
    (hn : a + 2 ≤ xs.length) (hm : (beVal ((xs.drop a).take 2) : Int) ≤ m) :
    Calls Tryz.prog 268 #[.pointer (some ⟨p, 0, none⟩), .pointer (some ⟨q, 0, none⟩)] W fun e W' => e = .returned (.int .i64 (beVal ((xs.drop a).take 2))) ∧ Rdr W' g k xs c (a + 2) false ∧ Only g W W' none := by
  have HU := Lib.hid (upto_good W g k xs c a h m 2 (by omega) hn hm)
  clear h hm
  go_enter Tryz.func268, Tryz.ntmps268
  go_wp2_with fail
  refine HU.out.mono ?_
  rintro e w1 ⟨rfl, hr⟩
  have HR := Lib.hid hr
  clear hr
  go_wp2_with fail
  go_ret
  exact ⟨rfl, HR.out⟩
theorem count1_bad (W : World) (p q g k : Nat) (xs : List UInt8) (c a : Nat) (m : Int) (hp : W.cell? ⟨p, 0, none⟩ = some (.pointer (some ⟨g, 0, none⟩))) (hq : W.cell? ⟨q, 0, none⟩ = some (.int .i64 m)) (h : Rdr W g k xs c a false) (ha : a ≤ xs.length)
    (hm : xs.length < a + 2 ∨ m < beVal ((xs.drop a).take 2)) :
    Calls Tryz.prog 268 #[.pointer (some ⟨p, 0, none⟩), .pointer (some ⟨q, 0, none⟩)] W fun e W' => Unmet e ∧ (∃ a', Rdr W' g k xs c a' false) ∧ Only g W W' none := by
  have hu : Calls Tryz.prog 269 #[.pointer (some ⟨g, 0, none⟩), .int .i64 m, .int .i64 2] W fun e W' => Unmet e ∧ (∃ a', Rdr W' g k xs c a' false) ∧ Only g W W' none := by
    by_cases hs : xs.length < a + 2
    · exact (upto_short W g k xs c a h ha m 2 hs).mono fun e W' hh => ⟨hh.1, ⟨a, h.below hh.2⟩, only_below hh.2⟩
    · exact (upto_great W g k xs c a h m 2 (by omega) (by omega) (by omega)).mono fun e W' hh => ⟨hh.1, ⟨_, hh.2.1⟩, hh.2.2⟩
  have HU := Lib.hid hu
  clear h hu hm
  go_enter Tryz.func268, Tryz.ntmps268
  go_wp2_with fail
  refine HU.out.mono ?_
  rintro e w1 ⟨⟨v, rfl⟩, hr⟩
  have HR := Lib.hid hr
  clear hr
  go_wp2_with fail
  exact ⟨rfl, ⟨_, rfl⟩, HR.out⟩
set_option maxRecDepth 100000 in
theorem count_good (w : World) (g k : Nat) (xs : List UInt8) (c a : Nat) (m : Int) (h : Rdr w g k xs c a false) (hn : a + 2 ≤ xs.length) (hm : (beVal ((xs.drop a).take 2) : Int) ≤ m) :
    Calls Tryz.prog 217 #[.pointer (some ⟨g, 0, none⟩), .int .i64 m] w fun e w' => e = .returned (.int .i64 (beVal ((xs.drop a).take 2))) ∧ Rdr w' g k xs c (a + 2) false ∧ Only g w w' none := by
  have hmf : ∀ (fn : Fn) (first cap : Array Value) (w : World), (Instr.makeFunc fn first cap).run Tryz.prog w = .ok (.func fn first cap) w := fun _ _ _ _ => rfl
  obtain ⟨hr, hb⟩ := rdr_pair h (.pointer (some ⟨g, 0, none⟩)) (.int .i64 m) 56 3
  have ht := tell73_met _ g k xs c a (a + 2) (.int .i64 (beVal ((xs.drop a).take 2))) 268 #[.pointer (some ⟨w.heap.size, 0, none⟩), .pointer (some ⟨w.heap.size + 1, 0, none⟩)] hr (callK 268 Tryz.f268 Tryz.func268 (by kernel_rfl) (by kernel_rfl) _)
    (fun W hW hR => count1_good W _ _ g k xs c a m (by rw [hW.cell (p := ⟨w.heap.size, 0, none⟩) (by simp; omega)]; simp [go_sem]) (by rw [hW.cell (p := ⟨w.heap.size + 1, 0, none⟩) (by simp)]; simp [go_sem]) hR hn hm)
  have HT := Lib.hid ht
  have HB := Lib.hid hb
  clear ht hb hr h hm
  go_enter Tryz.func217, Tryz.ntmps217
  go_wp2_with fail
  refine HT.out.mono ?_
  rintro e w1 ⟨rfl, hr, ho⟩
  have HR := Lib.hid (And.intro hr ((only_below HB.out).trans0 ho))
  clear hr ho
  go_wp2_with fail
  go_ret
  exact ⟨rfl, HR.out⟩
set_option maxRecDepth 100000 in
theorem count_bad (w : World) (g k : Nat) (xs : List UInt8) (c a : Nat) (m : Int) (h : Rdr w g k xs c a false) (ha : a ≤ xs.length) (hm : xs.length < a + 2 ∨ m < beVal ((xs.drop a).take 2)) :
    Calls Tryz.prog 217 #[.pointer (some ⟨g, 0, none⟩), .int .i64 m] w fun e w' => e = .returned (.int .i64 0) ∧ Rdr w' g k xs c a true ∧ Only g w w' none := by
  have hmf : ∀ (fn : Fn) (first cap : Array Value) (w : World), (Instr.makeFunc fn first cap).run Tryz.prog w = .ok (.func fn first cap) w := fun _ _ _ _ => rfl
  obtain ⟨hr, hb⟩ := rdr_pair h (.pointer (some ⟨g, 0, none⟩)) (.int .i64 m) 56 3
  have ht := tell73_unmet _ g k xs c a 268 #[.pointer (some ⟨w.heap.size, 0, none⟩), .pointer (some ⟨w.heap.size + 1, 0, none⟩)] hr (callK 268 Tryz.f268 Tryz.func268 (by kernel_rfl) (by kernel_rfl) _)
    (fun W hW hR => count1_bad W _ _ g k xs c a m (by rw [hW.cell (p := ⟨w.heap.size, 0, none⟩) (by simp; omega)]; simp [go_sem]) (by rw [hW.cell (p := ⟨w.heap.size + 1, 0, none⟩) (by simp)]; simp [go_sem]) hR ha hm)
  have HT := Lib.hid ht
  have HB := Lib.hid hb
  clear ht hb hr h hm
  go_enter Tryz.func217, Tryz.ntmps217
  go_wp2_with fail
  refine HT.out.mono ?_
  rintro e w1 ⟨rfl, hr, ho⟩
  have HR := Lib.hid (And.intro hr ((only_below HB.out).trans0 ho))
  clear hr ho
  go_wp2_with fail
  go_ret
  exact ⟨rfl, HR.out⟩
/-- Flag's closure. -/
theorem flag1_good (W : World) (p g k : Nat) (xs : List UInt8) (c a : Nat) (hp : W.cell? ⟨p, 0, none⟩ = some (.pointer (some ⟨g, 0, none⟩))) (h : Rdr W g k xs c a false)
    (hn : a + 1 ≤ xs.length) (hm : (beVal ((xs.drop a).take 1) : Int) ≤ 1) :
    Calls Tryz.prog 292 #[.pointer (some ⟨p, 0, none⟩)] W fun e W' => e = .returned (.bool (decide (beVal ((xs.drop a).take 1) = 1))) ∧ Rdr W' g k xs c (a + 1) false ∧ Only g W W' none := by
  have hu := upto_good W g k xs c a h 1 1 (by omega) hn hm
  generalize beVal ((xs.drop a).take 1) = v at hu ⊢
  obtain ⟨t, ht⟩ : ∃ t, decide (v = 1) = t := ⟨_, rfl⟩
  have hb : ((v : Int) == 1) = t := by rw [← ht, Bool.eq_iff_iff, beq_iff_eq, decide_eq_true_eq]; omega
  rw [ht]
  have HU := Lib.hid hu
  clear h hm hu ht
  go_enter Tryz.func292, Tryz.ntmps292
  go_wp2_with fail
  refine HU.out.mono ?_
  rintro e w1 ⟨rfl, hr⟩
  have HR := Lib.hid hr
  clear hr
  go_wp2_with fail
  go_ret
  exact ⟨rfl, HR.out⟩
set_option maxRecDepth 100000 in
theorem flag_good (w : World) (g k : Nat) (xs : List UInt8) (c a : Nat) (h : Rdr w g k xs c a false) (hn : a + 1 ≤ xs.length) (hm : (beVal ((xs.drop a).take 1) : Int) ≤ 1) :
    Calls Tryz.prog 273 #[.pointer (some ⟨g, 0, none⟩)] w fun e w' => e = .returned (.bool (decide (beVal ((xs.drop a).take 1) = 1))) ∧ Rdr w' g k xs c (a + 1) false ∧ Only g w w' none := by
  have hmf : ∀ (fn : Fn) (first cap : Array Value) (w : World), (Instr.makeFunc fn first cap).run Tryz.prog w = .ok (.func fn first cap) w := fun _ _ _ _ => rfl
  have hb : Below w.heap.size w (w.alloc (.cells #[.pointer (some ⟨g, 0, none⟩)] 56)) := (Below.refl _ _).alloc (Nat.le_refl _) _
  have hr := h.below hb
  have ht := tell85_met _ g k xs c a (a + 1) (.bool (decide (beVal ((xs.drop a).take 1) = 1))) 292 #[.pointer (some ⟨w.heap.size, 0, none⟩)] hr (callK 292 Tryz.f292 Tryz.func292 (by kernel_rfl) (by kernel_rfl) _)
    (fun W hW hR => flag1_good W _ g k xs c a (by rw [hW.cell (p := ⟨w.heap.size, 0, none⟩) (by simp)]; simp [go_sem]) hR hn hm)
  have HT := Lib.hid ht
  have HB := Lib.hid hb
  clear ht hb hr h hm
  generalize decide (beVal ((xs.drop a).take 1) = 1) = t at HT ⊢
  go_enter Tryz.func273, Tryz.ntmps273
  go_wp2_with fail
  refine HT.out.mono ?_
  rintro e w1 ⟨rfl, hr, ho⟩
  have HR := Lib.hid (And.intro hr ((only_below HB.out).trans0 ho))
  clear hr ho
  go_wp2_with fail
  go_ret
  exact ⟨rfl, HR.out⟩

/-! ## Left, End, Err -/
set_option maxRecDepth 100000 in
theorem left_good (w : World) (g k : Nat) (xs : List UInt8) (c a : Nat) (h : Rdr w g k xs c a false) (ha : a ≤ xs.length) :
    Calls Tryz.prog 28 #[.pointer (some ⟨g, 0, none⟩)] w fun e w' => e = .returned (.int .i64 (xs.length - a : Nat)) ∧ Below w.heap.size w w' := by
  have ht := tells_self w g false (h.1.cell 0 rfl) (h.1.cell 1 rfl)
  obtain ⟨A, c', hrs⟩ := h.form
  have c2 : w.cell? ⟨g, 2, none⟩ = some (RS k xs.length c) := h.1.cell 2 rfl
  rw [hrs] at c2
  clear hrs
  have c3 : w.cell? ⟨g, 3, none⟩ = some (.int .i64 a) := h.1.cell 3 rfl
  obtain ⟨_, _, _, _, hx, _, _⟩ := h
  have hw : IntKind.i64.wrap ((xs.length : Int) - a) = ((xs.length - a : Nat) : Int) := by rw [IntKind.wrap_i64]; omega
  go_enter Tryz.func28, Tryz.ntmps28
  go_wp2_with fail
  refine ht.mono ?_
  rintro e w1 ⟨rfl, rfl⟩
  clear ht
  go_wp2_with fail
  go_quiet (fail)
  go_wp2_with fail
  go_ret
  exact ⟨rfl, below_drewN w _⟩
set_option maxRecDepth 100000 in
theorem err_any (w : World) (g k : Nat) (xs : List UInt8) (c a : Nat) (sp : Bool) (h : Rdr w g k xs c a sp) :
    Calls Tryz.prog 30 #[.pointer (some ⟨g, 0, none⟩)] w fun e w' => e = .returned (.int .i64 (if sp then 4 else 0)) ∧ w = w' := by
  have ha := answered_self w g (h.1.cell 0 rfl)
  have c1 : w.cell? ⟨g, 1, none⟩ = some (.bool sp) := h.1.cell 1 rfl
  clear h
  cases sp
  all_goals
    go_enter Tryz.func30, Tryz.ntmps30
    go_wp2_with fail
    refine ha.mono ?_
    rintro e w1 ⟨rfl, rfl⟩
    clear ha
    go_wp2_with fail
    go_ret
    exact ⟨rfl, rfl⟩
end Go.Proofs.YtilbbemdinpjcaaGreat.W
namespace Go.Proofs.YtilbbemdinpjcaaGreat.W
open Go.RowKit


set_option maxRecDepth 100000 in
theorem ask25_idle (w : World) (p : Option Addr) (h : Idle w p) : Calls Tryz.prog 200 #[.pointer p] w fun e w' => e = .returned (.int .i64 0) ∧ Below w.heap.size w w' := by
  have hmf : ∀ (fn : Fn) (first cap : Array Value) (w : World), (Instr.makeFunc fn first cap).run Tryz.prog w = .ok (.func fn first cap) w := fun _ _ _ _ => rfl
  have hb : Below w.heap.size w (w.alloc (.cells #[.pointer p] 56)) := (Below.refl _ _).alloc (Nat.le_refl _) _
  have ht := tell73_idle _ p (.func (Fn.func 259) #[] #[.pointer (some ⟨w.heap.size, 0, none⟩)]) (h.below hb)
  have HT := Lib.hid ht
  have HB := Lib.hid hb
  clear ht hb h
  go_enter Tryz.func200, Tryz.ntmps200
  go_wp2_with fail
  refine HT.out.mono ?_
  rintro e w1 ⟨rfl, hb1⟩
  have HB1 := Lib.hid hb1
  clear hb1
  go_wp2_with fail
  go_ret
  exact ⟨rfl, HB.out.trans (HB1.out.mono HB.out.size)⟩

set_option maxRecDepth 100000 in
theorem ask53_idle (w : World) (p : Option Addr) (h : Idle w p) : Calls Tryz.prog 251 #[.pointer p] w fun e w' => e = .returned (.int .i64 0) ∧ Below w.heap.size w w' := by
  have hmf : ∀ (fn : Fn) (first cap : Array Value) (w : World), (Instr.makeFunc fn first cap).run Tryz.prog w = .ok (.func fn first cap) w := fun _ _ _ _ => rfl
  have hb : Below w.heap.size w (w.alloc (.cells #[.pointer p] 56)) := (Below.refl _ _).alloc (Nat.le_refl _) _
  have ht := tell73_idle _ p (.func (Fn.func 280) #[] #[.pointer (some ⟨w.heap.size, 0, none⟩)]) (h.below hb)
  have HT := Lib.hid ht
  have HB := Lib.hid hb
  clear ht hb h
  go_enter Tryz.func251, Tryz.ntmps251
  go_wp2_with fail
  refine HT.out.mono ?_
  rintro e w1 ⟨rfl, hb1⟩
  have HB1 := Lib.hid hb1
  clear hb1
  go_wp2_with fail
  go_ret
  exact ⟨rfl, HB.out.trans (HB1.out.mono HB.out.size)⟩

set_option maxRecDepth 100000 in
theorem ask54_idle (w : World) (p : Option Addr) (h : Idle w p) : Calls Tryz.prog 224 #[.pointer p] w fun e w' => e = .returned (.int .i64 0) ∧ Below w.heap.size w w' := by
  have hmf : ∀ (fn : Fn) (first cap : Array Value) (w : World), (Instr.makeFunc fn first cap).run Tryz.prog w = .ok (.func fn first cap) w := fun _ _ _ _ => rfl
  have hb : Below w.heap.size w (w.alloc (.cells #[.pointer p] 56)) := (Below.refl _ _).alloc (Nat.le_refl _) _
  have ht := tell73_idle _ p (.func (Fn.func 272) #[] #[.pointer (some ⟨w.heap.size, 0, none⟩)]) (h.below hb)
  have HT := Lib.hid ht
  have HB := Lib.hid hb
  clear ht hb h
  go_enter Tryz.func224, Tryz.ntmps224
  go_wp2_with fail
  refine HT.out.mono ?_
  rintro e w1 ⟨rfl, hb1⟩
  have HB1 := Lib.hid hb1
  clear hb1
  go_wp2_with fail
  go_ret
  exact ⟨rfl, HB.out.trans (HB1.out.mono HB.out.size)⟩

set_option maxRecDepth 100000 in
theorem ask55_idle (w : World) (p : Option Addr) (h : Idle w p) : Calls Tryz.prog 256 #[.pointer p] w fun e w' => e = .returned (.int .u64 0) ∧ Below w.heap.size w w' := by
  have hmf : ∀ (fn : Fn) (first cap : Array Value) (w : World), (Instr.makeFunc fn first cap).run Tryz.prog w = .ok (.func fn first cap) w := fun _ _ _ _ => rfl
  have hb : Below w.heap.size w (w.alloc (.cells #[.pointer p] 56)) := (Below.refl _ _).alloc (Nat.le_refl _) _
  have ht := tell91_idle _ p (.func (Fn.func 284) #[] #[.pointer (some ⟨w.heap.size, 0, none⟩)]) (h.below hb)
  have HT := Lib.hid ht
  have HB := Lib.hid hb
  clear ht hb h
  go_enter Tryz.func256, Tryz.ntmps256
  go_wp2_with fail
  refine HT.out.mono ?_
  rintro e w1 ⟨rfl, hb1⟩
  have HB1 := Lib.hid hb1
  clear hb1
  go_wp2_with fail
  go_ret
  exact ⟨rfl, HB.out.trans (HB1.out.mono HB.out.size)⟩

set_option maxRecDepth 100000 in
theorem ask56_idle (w : World) (p : Option Addr) (h : Idle w p) : Calls Tryz.prog 221 #[.pointer p] w fun e w' => e = .returned (.int .i64 0) ∧ Below w.heap.size w w' := by
  have hmf : ∀ (fn : Fn) (first cap : Array Value) (w : World), (Instr.makeFunc fn first cap).run Tryz.prog w = .ok (.func fn first cap) w := fun _ _ _ _ => rfl
  have hb : Below w.heap.size w (w.alloc (.cells #[.pointer p] 56)) := (Below.refl _ _).alloc (Nat.le_refl _) _
  have ht := tell93_idle _ p (.func (Fn.func 271) #[] #[.pointer (some ⟨w.heap.size, 0, none⟩)]) (h.below hb)
  have HT := Lib.hid ht
  have HB := Lib.hid hb
  clear ht hb h
  go_enter Tryz.func221, Tryz.ntmps221
  go_wp2_with fail
  refine HT.out.mono ?_
  rintro e w1 ⟨rfl, hb1⟩
  have HB1 := Lib.hid hb1
  clear hb1
  go_wp2_with fail
  go_ret
  exact ⟨rfl, HB.out.trans (HB1.out.mono HB.out.size)⟩

set_option maxRecDepth 100000 in
theorem ask33_idle (w : World) (p : Option Addr) (h : Idle w p) : Calls Tryz.prog 273 #[.pointer p] w fun e w' => e = .returned (.bool false) ∧ Below w.heap.size w w' := by
  have hmf : ∀ (fn : Fn) (first cap : Array Value) (w : World), (Instr.makeFunc fn first cap).run Tryz.prog w = .ok (.func fn first cap) w := fun _ _ _ _ => rfl
  have hb : Below w.heap.size w (w.alloc (.cells #[.pointer p] 56)) := (Below.refl _ _).alloc (Nat.le_refl _) _
  have ht := tell85_idle _ p (.func (Fn.func 292) #[] #[.pointer (some ⟨w.heap.size, 0, none⟩)]) (h.below hb)
  have HT := Lib.hid ht
  have HB := Lib.hid hb
  clear ht hb h
  go_enter Tryz.func273, Tryz.ntmps273
  go_wp2_with fail
  refine HT.out.mono ?_
  rintro e w1 ⟨rfl, hb1⟩
  have HB1 := Lib.hid hb1
  clear hb1
  go_wp2_with fail
  go_ret
  exact ⟨rfl, HB.out.trans (HB1.out.mono HB.out.size)⟩

set_option maxRecDepth 100000 in
theorem ask31_idle (w : World) (p : Option Addr) (m : Int) (h : Idle w p) : Calls Tryz.prog 217 #[.pointer p, .int .i64 m] w fun e w' => e = .returned (.int .i64 0) ∧ Below w.heap.size w w' := by
  have hmf : ∀ (fn : Fn) (first cap : Array Value) (w : World), (Instr.makeFunc fn first cap).run Tryz.prog w = .ok (.func fn first cap) w := fun _ _ _ _ => rfl
  have hb : Below w.heap.size w ((w.alloc (.cells #[.pointer p] 56)).alloc (.cells #[.int .i64 m] 3)) := ((Below.refl _ _).alloc (Nat.le_refl _) _).alloc (by simp) _
  have ht := tell73_idle _ p (.func (Fn.func 268) #[] #[.pointer (some ⟨w.heap.size, 0, none⟩), .pointer (some ⟨w.heap.size + 1, 0, none⟩)]) (h.below hb)
  have HT := Lib.hid ht
  have HB := Lib.hid hb
  clear ht hb h
  go_enter Tryz.func217, Tryz.ntmps217
  go_wp2_with fail
  refine HT.out.mono ?_
  rintro e w1 ⟨rfl, hb1⟩
  have HB1 := Lib.hid hb1
  clear hb1
  go_wp2_with fail
  go_ret
  exact ⟨rfl, HB.out.trans (HB1.out.mono HB.out.size)⟩

set_option maxRecDepth 100000 in
theorem ask32_idle (w : World) (p : Option Addr) (m : Int) (h : Idle w p) : Calls Tryz.prog 254 #[.pointer p, .int .i64 m] w fun e w' => e = .returned (.string ⟨#[]⟩) ∧ Below w.heap.size w w' := by
  have hmf : ∀ (fn : Fn) (first cap : Array Value) (w : World), (Instr.makeFunc fn first cap).run Tryz.prog w = .ok (.func fn first cap) w := fun _ _ _ _ => rfl
  have hb : Below w.heap.size w ((w.alloc (.cells #[.pointer p] 56)).alloc (.cells #[.int .i64 m] 3)) := ((Below.refl _ _).alloc (Nat.le_refl _) _).alloc (by simp) _
  have ht := tell83_idle _ p (.func (Fn.func 282) #[] #[.pointer (some ⟨w.heap.size, 0, none⟩), .pointer (some ⟨w.heap.size + 1, 0, none⟩)]) (h.below hb)
  have HT := Lib.hid ht
  have HB := Lib.hid hb
  clear ht hb h
  go_enter Tryz.func254, Tryz.ntmps254
  go_wp2_with fail
  refine HT.out.mono ?_
  rintro e w1 ⟨rfl, hb1⟩
  have HB1 := Lib.hid hb1
  clear hb1
  go_wp2_with fail
  go_ret
  exact ⟨rfl, HB.out.trans (HB1.out.mono HB.out.size)⟩

set_option maxRecDepth 100000 in
theorem left_idle (w : World) (p : Option Addr) (h : Idle w p) : Calls Tryz.prog 28 #[.pointer p] w fun e w' => e = .returned (.int .i64 0) ∧ w = w' := by
  have ht := tells_idle w p h
  go_enter Tryz.func28, Tryz.ntmps28
  go_wp2_with fail
  refine ht.mono ?_
  rintro e w1 ⟨rfl, rfl⟩
  clear ht
  go_wp2_with fail
  go_ret
  exact ⟨rfl, rfl⟩
set_option maxRecDepth 100000 in
theorem rspoil_idle (w : World) (p : Option Addr) (h : Idle w p) : Calls Tryz.prog 197 #[.pointer p] w fun e w' => e = .returned (.tuple #[]) ∧ w = w' := by
  have ht := tells_idle w p h
  go_enter Tryz.func197, Tryz.ntmps197
  go_wp2_with fail
  refine ht.mono ?_
  rintro e w1 ⟨rfl, rfl⟩
  clear ht
  go_wp2_with fail
  go_end0
  exact ⟨rfl, rfl⟩
/-- No reader, or one that nobody made. -/
def Nobody (w : World) (p : Option Addr) : Prop := p = none ∨ ∃ g, p = some ⟨g, 0, none⟩ ∧ g < w.heap.size ∧ w.cell? ⟨g, 0, none⟩ = some (.pointer none)
theorem Nobody.idle {w : World} {p : Option Addr} (h : Nobody w p) : Idle w p := by
  rcases h with h | ⟨g, h1, h2, h3⟩
  · exact .inl h
  · exact .inr ⟨g, h1, h2, .inl h3⟩
theorem Nobody.below {w w' : World} {p : Option Addr} (h : Nobody w p) (hb : Below w.heap.size w w') : Nobody w' p := by
  rcases h with h | ⟨g, h1, h2, h3⟩
  · exact .inl h
  · exact .inr ⟨g, h1, Nat.lt_of_lt_of_le h2 hb.size, (hb.cell (p := ⟨g, 0, none⟩) h2).trans h3⟩
set_option maxRecDepth 100000 in
theorem err_nobody (w : World) (p : Option Addr) (h : Nobody w p) : Calls Tryz.prog 30 #[.pointer p] w fun e w' => e = .returned (.int .i64 1) ∧ w = w' := by
  rcases h with rfl | ⟨g, rfl, _, h⟩
  · go_enter Tryz.func30, Tryz.ntmps30
    go_wp2
    go_ret
    exact ⟨rfl, rfl⟩
  · have ha := answered_none w g h
    go_enter Tryz.func30, Tryz.ntmps30
    go_wp2_with fail
    refine ha.mono ?_
    rintro e w1 ⟨rfl, rfl⟩
    clear ha
    go_wp2_with fail
    go_ret
    exact ⟨rfl, rfl⟩
theorem wbytes_nobody (w : World) (p : Option Addr) (h : Nobody w p) : Calls Tryz.prog 38 #[.pointer p] w fun e w' => e = .returned (.tuple #[.slice none 0 0, .int .i64 1]) ∧ w = w' := by
  rcases h with rfl | ⟨g, rfl, _, h⟩
  · exact wbytes_nil w
  · exact wbytes_none w g h
theorem tmod_ten (n : Int) : (0 ≤ n.tmod 10 → n.tmod 10 = n % 10) ∧ (n.tmod 10 < 0 → n.tmod 10 + 10 = n % 10) ∧ -9 ≤ n.tmod 10 ∧ n.tmod 10 ≤ 9 := by
  rcases Int.le_total 0 n with h | h
  · have := Int.tmod_eq_emod_of_nonneg (b := 10) h
    omega
  · have h1 := Int.tmod_eq_emod_of_nonneg (b := 10) (show 0 ≤ -n by omega)
    rw [Int.neg_tmod] at h1
    omega
theorem pick_any (n : Int) (w : World) : Calls Tryz.prog 24 #[.int .i64 n, .int .i64 10] w fun e w' => e = .returned (.int .i64 (n % 10)) ∧ w = w' := by
  obtain ⟨h1, h2, h3, h4⟩ := tmod_ten n
  obtain ⟨r, hr⟩ : ∃ r, n.tmod 10 = r := ⟨_, rfl⟩
  rw [hr] at h1 h2 h3 h4
  obtain ⟨q, hq⟩ : ∃ q, q = n % 10 := ⟨_, rfl⟩
  rw [← hq] at h1 h2 ⊢
  have hw : IntKind.i64.wrap r = r := by rw [IntKind.wrap_i64]; omega
  by_cases h : r < 0
  · have e := h2 h
    have hw2 : IntKind.i64.wrap (r + 10) = q := by rw [IntKind.wrap_i64]; omega
    have HE := Lib.hid e
    clear h1 h2 hq e
    go_enter Tryz.func24, Tryz.ntmps24
    go_wp2
    go_ret
    exact ⟨by rw [← HE.out]; rfl, rfl⟩
  · have e := h1 (by omega)
    subst e
    clear h1 h2 hq
    go_enter Tryz.func24, Tryz.ntmps24
    go_wp2
    go_ret
    exact ⟨rfl, rfl⟩
end Go.Proofs.YtilbbemdinpjcaaGreat.W
namespace Go.Proofs.YtilbbemdinpjcaaGreat.W
open Go.RowKit

set_option maxRecDepth 100000 in
theorem hash_idle (w : World) (p : Option Addr) (hs : Array Value) (h : Idle w p) : Calls Tryz.prog 212 #[.pointer p, .agg hs] w fun e w' => e = .returned (.tuple #[]) ∧ Below w.heap.size w w' := by
  have hb : Below w.heap.size w (w.alloc (.cells hs 30)) := (Below.refl _ _).alloc (Nat.le_refl _) _
  have hr := fun v => raw_idle _ p v (h.below hb)
  have HR := Lib.hid hr
  have HB := Lib.hid hb
  clear hr hb h
  go_enter Tryz.func212, Tryz.ntmps212
  go_wp2_with fail
  refine (HR.out _).mono ?_
  rintro e w1 ⟨rfl, rfl⟩
  go_wp2_with fail
  go_end0
  exact ⟨rfl, HB.out⟩
/-- What a call's parts are, cell by cell. -/
structure PutC (cs : Array Value) : Prop where
  size : cs.size = 37
  what : ∃ n : Int, cs[0]? = some (.int .i64 n)
  num : ∃ n : Int, cs[1]? = some (.int .i64 n)
  wide : ∃ n : Int, cs[2]? = some (.int .u64 n)
  raw : ∃ a l c, cs[35]? = some (.slice a l c)
  text : ∃ s, cs[36]? = some (.string s)
end Go.Proofs.YtilbbemdinpjcaaGreat.W
namespace Go.Proofs.YtilbbemdinpjcaaGreat.W
open Go.RowKit

/-- What a Put is made of. -/
structure PutV (cs : Array Value) (n0 n1 : Int) (n2 : Nat) (hs : List UInt8) (bv : Value) (s : ByteArray) : Prop where
  size : cs.size = 37
  what : cs[0]? = some (.int .i64 n0)
  num : cs[1]? = some (.int .i64 n1)
  wide : cs[2]? = some (.int .u64 n2)
  wlt : n2 < 18446744073709551616
  hash : (cs.toList.drop 3).take 32 = (B8 hs).toList
  hlen : hs.length = 32
  raw : cs[35]? = some bv
  text : cs[36]? = some (.string s)
  slen : s.size < 9223372036854775808
def stepText (st : Option (List UInt8)) (s : ByteArray) : Option (List UInt8) := if s.size < 65536 then stepB st (beN s.size 2 ++ s.data.toList) else none
def stepFlag (st : Option (List UInt8)) (n : Int) : Option (List UInt8) := stepB st [if n = 1 then 1 else 0]
theorem text_of (w : World) (B g : Nat) (v : Value) (st : Option (List UInt8)) (s : ByteArray) (h : WSt w B g v st) (hB : B ≤ w.heap.size) (hx : ∀ l, st = some l → l.length ≤ 900000) (hs2 : s.size < 9223372036854775808) :
    Calls Tryz.prog 237 #[.pointer (some ⟨g, 0, none⟩), .string s] w fun e w' => e = .returned (.tuple #[]) ∧ MoreO w B g v (stepText st s) w' := text_st w B g v st s h hB hx hs2
theorem flag_of (w : World) (B g : Nat) (v : Value) (st : Option (List UInt8)) (n : Int) (h : WSt w B g v st) (hB : B ≤ w.heap.size) (hx : ∀ l, st = some l → l.length ≤ 1000000) :
    Calls Tryz.prog 266 #[.pointer (some ⟨g, 0, none⟩), .bool (n == 1)] w fun e w' => e = .returned (.tuple #[]) ∧ MoreO w B g v (stepFlag st n) w' := by
  have := flag_st w B g v st (n == 1) h hB hx
  have e : (if (n == 1) = true then (1 : UInt8) else 0) = if n = 1 then 1 else 0 := by by_cases h1 : n = 1 <;> simp [h1]
  rw [e] at this
  exact this
def low64 (n : Int) : Nat := (n % 18446744073709551616).toNat
theorem low64_eq (n : Int) : ((low64 n : Nat) : Int) = n % 18446744073709551616 := by unfold low64; omega
theorem low64_of (n : Nat) (h : n < 18446744073709551616) (z : Int) (hz : IntKind.i64.wrap (n : Int) = z) : (n : Int) = z % 18446744073709551616 := by
  rw [← hz, IntKind.wrap_i64]; omega
theorem Src.below {w w' : World} {g off : Nat} {xs : List UInt8} (h : Src w g off xs) (hb : Below w.heap.size w w') (hg : g < w.heap.size) : Src w' g off xs := fun j hj => (hb.cell (p := ⟨g, off + j, none⟩) hg).trans (h j hj)
theorem RawIn.below {w w' : World} {bv : Value} {xs : List UInt8} (h : RawIn w bv xs) (hb : Below w.heap.size w w') : RawIn w' bv xs := by
  rcases h with h | ⟨ad, c, rfl, hs⟩
  · exact .inl h
  · exact .inr ⟨ad, c, rfl, hs.below hb hs.lt⟩
def stepPut (st : Option (List UInt8)) (n0 n1 : Int) (n2 : Nat) (hs xs : List UInt8) (s : ByteArray) : Option (List UInt8) :=
  if n0 % 10 = 0 then stepN st (low64 n1) 1 else
  if n0 % 10 = 1 then stepN st (low64 n1) 2 else
  if n0 % 10 = 2 then stepN st (low64 n1) 4 else
  if n0 % 10 = 3 then stepN st n2 8 else
  if n0 % 10 = 4 then stepN st n2 8 else
  if n0 % 10 = 5 then stepB st hs else
  if n0 % 10 = 6 then stepB st xs else
  if n0 % 10 = 7 then stepText st s else
  if n0 % 10 = 8 then stepFlag st n1 else
  if n1 = 7 then none else st
end Go.Proofs.YtilbbemdinpjcaaGreat.W
namespace Go.Proofs.YtilbbemdinpjcaaGreat.W
open Go.RowKit

/-- The reference writer in block g whose bytes are l. -/
def RfV (w : World) (B g : Nat) (v : Value) (l : List UInt8) : Prop :=
  Lies w g #[v, .bool false] 76 ∧ w.ownsRow B 5 1 v l.length (B8 l).toList ∧ v.ownBlock ≠ some g ∧ B ≤ g
def RMore (w : World) (B g : Nat) (v : Value) (l : List UInt8) (w' : World) : Prop :=
  ∃ v', RfV w' B g v' l ∧ Only g w w' v.ownBlock ∧ (v'.ownBlock = v.ownBlock ∨ ∃ k, v'.ownBlock = some k ∧ w.heap.size ≤ k ∧ k < w'.heap.size)
theorem rmore_of {w w1 : World} {B g : Nat} {v v' : Value} {l l2 : List UInt8} (h : RfV w B g v l) (hown : w1.ownsRow B 5 1 v' l2.length (B8 l2).toList) (hg : w.grownBy w1 v.ownBlock) (hat : v'.ownBlock = v.ownBlock ∨ v'.ownBlock = some w.heap.size) :
    RMore w B g v l2 (w1.setCell ⟨g, 0, none⟩ v') := by
  obtain ⟨h1, h2, h3, h4⟩ := h
  have hgl : g < w.heap.size := h1.lt
  have hne : v'.ownBlock ≠ some g := by
    rcases hat with e | e
    · rw [e]; exact h3
    · rw [e]; intro e2; have := Option.some.inj e2; omega
  have hl1 : Lies w1 g #[v, .bool false] 76 := (hg.block g hgl (fun e => h3 e.symm)).trans h1
  refine ⟨v', ⟨hl1.set 0 v', own_set hown hne, hne, h4⟩, ⟨hg.os, hg.tape, hg.output, by rw [size_set]; exact hg.size, fun k hk h5 h6 => (heap_setCell_other w1 _ k v' h5).trans (hg.block k hk h6)⟩, ?_⟩
  rcases hat with e | e
  · exact .inl e
  · exact .inr ⟨_, e, Nat.le_refl _, by rw [size_set]; exact own_lt hown e⟩

theorem RMore.trans {w w1 w2 : World} {B g : Nat} {v v1 : Value} {l : List UInt8} (h1 : Only g w w1 v.ownBlock) (hat : v1.ownBlock = v.ownBlock ∨ ∃ k, v1.ownBlock = some k ∧ w.heap.size ≤ k ∧ k < w1.heap.size) (k : RMore w1 B g v1 l w2) : RMore w B g v l w2 := by
  obtain ⟨v2, a, b, c⟩ := k
  refine ⟨v2, a, h1.trans b (hat.imp id fun ⟨k, e, h, _⟩ => ⟨k, e, h⟩), ?_⟩
  rcases c with e | ⟨x, e, hx⟩
  · exact hat.imp (fun h => e.trans h) (fun ⟨k, hk, h2, h3⟩ => ⟨k, e.trans hk, h2, Nat.lt_of_lt_of_le h3 b.size⟩)
  · exact .inr ⟨x, e, Nat.le_trans h1.size hx.1, hx.2⟩

set_option maxRecDepth 100000 in
set_option maxHeartbeats 1000000 in
theorem rput_any (w : World) (B g : Nat) (v : Value) (l : List UInt8) (n s : Nat) (h : RfV w B g v l) (hB : B ≤ w.heap.size) (hx : l.length ≤ 1000000) (hs : s ≤ 8) :
    Calls Tryz.prog 203 #[.pointer (some ⟨g, 0, none⟩), .int .u64 n, .int .i64 s] w fun e w' => e = .returned (.tuple #[]) ∧ RMore w B g v (l ++ beN n s) w' := by
  have c1 := h.1.cell 1 (v := .bool false) rfl
  have HW := Lib.hid h
  clear h
  go_enter Tryz.func203, Tryz.ntmps203
  go_wp2_with fail
  clear c1
  have h0 : RMore w B g v (l ++ (beN n s).take 0) w := ⟨v, by simpa using HW.out, Only.refl g w _, .inl rfl⟩
  have H0 := Lib.hid h0
  clear h0
  go_loopw [6] (fun i wr => ∃ t : Nat, t ≤ s ∧ i = .int .i64 ((s : Int) - 1 - (t : Int)) ∧ RMore w B g v (l ++ (beN n s).take t) wr) (fun i _ => (intOf i + 1).toNat)
  case atStart => exact ⟨0, by omega, by refine congrArg (Value.int .i64) ?_; omega, H0.out⟩
  case round =>
    obtain ⟨t, ht, rfl, v1, hw1, ho1, ha1⟩ := hrel
    by_cases hlt : t < s
    · obtain ⟨d, hd⟩ : ∃ d, d = s - 1 - t := ⟨_, rfl⟩
      have e1 : (s : Int) - 1 - (t : Int) = (d : Int) := by omega
      rw [e1]
      have d7 : d ≤ 7 := by omega
      have d0 : (0 : Int) ≤ (d : Int) := by omega
      have d8 : (d : Int) ≤ 7 := by omega
      have hbyte : Value.int .u8 (IntKind.u8.wrap ((n : Int) / 2 ^ (8 * d))) = .int .u8 ((UInt8.ofNat (n / 2 ^ (8 * d))).toNat : Int) := by
        have e : (2 : Int) ^ (8 * d) = ((2 ^ (8 * d) : Nat) : Int) := by simp
        rw [e, ← Int.natCast_ediv, IntKind.wrap_u8', u8_of]
      have htk := beN_take n s t hlt
      rw [← hd] at htk
      obtain ⟨i0, hi0, hz0, hz1, hz2⟩ := info_parts info5
      have c2 : wr.cell? ⟨g, 0, none⟩ = some v1 := hw1.1.cell 0 rfl
      have f2 : wr.frozen? ⟨g, 0, none⟩ = false := hw1.1.free 0
      have hlen : (l ++ (beN n s).take t).length ≤ 1000008 := by rw [List.length_append, List.length_take, beN_length]; omega
      have hgl : g < wr.heap.size := hw1.1.lt
      have hvg : some g ≠ v1.ownBlock := fun e => hw1.2.2.1 e.symm
      have HW1 := Lib.hid hw1
      have HD := Lib.hid hd
      have HTK := Lib.hid htk
      have HBY := Lib.hid hbyte
      have x4 : (0 : Int) ≤ 8 * (d : Int) := by omega
      have x5 : 8 * (d : Int) ≤ 64 := by omega
      have x6 : (8 * (d : Int)).toNat = 8 * d := by omega
      have x7 : IntKind.i64.wrap (8 * (d : Int)) = 8 * (d : Int) := by rw [IntKind.wrap_i64]; omega
      have x8 : ¬ 8 * (d : Int) < 0 := by omega
      have hs1 := ho1.size
      clear hd e1 htk hbyte hw1
      go_upto_region 4 with fail
      obtain ⟨l1, hl1⟩ : ∃ l1, l1 = l ++ (beN n s).take t := ⟨_, rfl⟩
      rw [← hl1] at HW1 hlen
      have HL1 := Lib.hid hl1
      clear hl1
      go_wp2_with (at_builtin; go_must (refine wpList_append_own_at (wr.alloc (.cells #[(.int .u8 (IntKind.u8.wrap ((n : Int) / 2 ^ (8 * d))))] 5)) rfl _ _ 54 rfl B 5 i0 (.int .u8 0) 1 1 Tryz.underlying54 hi0 hz0 hz1 hz2 rfl (by decide) v1 l1.length (B8 l1).toList rfl (ownsRow_alloc HW1.out.2.1 _) ⟨wr.heap.size, 0, none⟩ 1 1 [(.int .u8 (IntKind.u8.wrap ((n : Int) / 2 ^ (8 * d))))] rfl (by rfl) (World.news_of_block (cs := #[(.int .u8 (IntKind.u8.wrap ((n : Int) / 2 ^ (8 * d))))]) (t := 5) (fr := (0, 0)) (heap_alloc_new wr _)) (by simp [Value.oneCell']) (by unfold maxLen; omega) (by omega) (by simp; omega) ?_; intro v' w1 hown1 hgrow _ hat; obtain ⟨A', cap, rfl⟩ := own_slice hown1; have f3 : w1.frozen? ⟨g, 0, none⟩ = false := (hgrow.frozen_far _ (by simp; omega) hvg).trans ((HW1.out.1.alloc _).free 0); have c3 : w1.cell? ⟨g, 0, none⟩ = some v1 := (hgrow.cell_far _ (by simp; omega) hvg).trans ((HW1.out.1.alloc _).cell 0 rfl)))
      all_goals
        have hwv : RfV (wr.alloc (.cells #[.int .u8 (IntKind.u8.wrap ((n : Int) / 2 ^ (8 * d)))] 5)) B g v1 l1 := ⟨HW1.out.1.alloc _, ownsRow_alloc HW1.out.2.1 _, HW1.out.2.2⟩
        have hon : Only g w (wr.alloc (.cells #[.int .u8 (IntKind.u8.wrap ((n : Int) / 2 ^ (8 * d)))] 5)) v.ownBlock :=
          ⟨ho1.os, ho1.tape, ho1.output, by simp; omega, fun k hk h1 h2 => (Below.heap_alloc wr _ k (Nat.lt_of_lt_of_le hk ho1.size)).trans (ho1.block k hk h1 h2)⟩
        have hown2 : w1.ownsRow B 5 1 (.slice A' (l1.length + 1) cap) (l1 ++ [UInt8.ofNat (n / 2 ^ (8 * d))]).length (B8 (l1 ++ [UInt8.ofNat (n / 2 ^ (8 * d))])).toList := by
          have e : (B8 (l1 ++ [UInt8.ofNat (n / 2 ^ (8 * d))])).toList = (B8 l1).toList ++ [.int .u8 (UInt8.ofNat (n / 2 ^ (8 * d))).toNat] := by simp [B8]
          rw [e, List.length_append, ← HBY.out]
          exact hown1
        have hmo := RMore.trans hon (ha1.imp id fun ⟨k, a1, a2, a3⟩ => ⟨k, a1, a2, by have := a3; simp; omega⟩) (rmore_of hwv hown2 hgrow hat)
        rw [HL1.out, List.append_assoc, ← HTK.out] at hmo
        rw [← HL1.out] at hmo
        have HMO := Lib.hid hmo
        clear hmo hown2 hon hwv hown1 hgrow c3 f3 hat c2 f2
        go_wp2_with fail
        refine ⟨⟨t + 1, by omega, by have := HD.out; refine congrArg (Value.int .i64) ?_; omega, HMO.out⟩, ?_⟩
        simp [intOf]
    · obtain rfl : t = s := by omega
      have hm : RMore w B g v (l ++ beN n t) wr := by
        have := (⟨v1, hw1, ho1, ha1⟩ : RMore w B g v (l ++ (beN n t).take t) wr)
        rwa [List.take_of_length_le (by rw [beN_length]; exact Nat.le_refl _)] at this
      have HM := Lib.hid hm
      clear hm hw1 ho1 ha1 H0
      have e1 : (t : Int) - 1 - (t : Int) = -1 := by omega
      rw [e1]
      go_wp2_with fail
      go_end0
      exact ⟨rfl, HM.out⟩
end Go.Proofs.YtilbbemdinpjcaaGreat.W
namespace Go.Proofs.YtilbbemdinpjcaaGreat.W
open Go.RowKit

def RfS (w : World) (B g : Nat) (v : Value) : Option (List UInt8) → Prop
  | some l => RfV w B g v l
  | none => Lies w g #[v, .bool true] 76 ∧ v.ownBlock ≠ some g ∧ B ≤ g
def RMoreO (w : World) (B g : Nat) (v : Value) (st : Option (List UInt8)) (w' : World) : Prop :=
  ∃ v', RfS w' B g v' st ∧ Only g w w' v.ownBlock ∧ (v'.ownBlock = v.ownBlock ∨ ∃ k, v'.ownBlock = some k ∧ w.heap.size ≤ k ∧ k < w'.heap.size)
theorem RMoreO.same {w : World} {B g : Nat} {v : Value} {st : Option (List UInt8)} (h : RfS w B g v st) : RMoreO w B g v st w := ⟨v, h, Only.refl g w _, .inl rfl⟩
theorem RfS.bad {w : World} {B g : Nat} {v : Value} {st : Option (List UInt8)} (h : RfS w B g v st) : RfS (w.setCell ⟨g, 1, none⟩ (.bool true)) B g v none := by
  cases st with
  | none => exact ⟨h.1.set 1 _, h.2.1, h.2.2⟩
  | some l => exact ⟨h.1.set 1 _, h.2.2.1, h.2.2.2⟩
theorem RMoreO.bad {w : World} {B g : Nat} {v : Value} {st : Option (List UInt8)} (h : RfS w B g v st) : RMoreO w B g v none (w.setCell ⟨g, 1, none⟩ (.bool true)) := ⟨v, h.bad, (only_set g 1 w _).weak _, .inl rfl⟩
theorem RfS.cell1 {w : World} {B g : Nat} {v : Value} {st : Option (List UInt8)} (h : RfS w B g v st) : w.cell? ⟨g, 1, none⟩ = some (.bool st.isNone) := by
  cases st with
  | none => exact h.1.cell 1 rfl
  | some l => exact h.1.cell 1 rfl
theorem RfS.free1 {w : World} {B g : Nat} {v : Value} {st : Option (List UInt8)} (h : RfS w B g v st) : w.frozen? ⟨g, 1, none⟩ = false := by
  cases st with
  | none => exact h.1.free 1
  | some l => exact h.1.free 1
set_option maxRecDepth 100000 in
theorem rput_bad (w : World) (g : Nat) (n s : Int) (h : w.cell? ⟨g, 1, none⟩ = some (.bool true)) : Calls Tryz.prog 203 #[.pointer (some ⟨g, 0, none⟩), .int .u64 n, .int .i64 s] w fun e w' => e = .returned (.tuple #[]) ∧ w = w' := by
  go_enter Tryz.func203, Tryz.ntmps203
  go_wp2
  refine bodyPost_ret (results_none rfl _ _ _) rfl ?_
  exact ⟨rfl, rfl⟩
theorem rput_st (w : World) (B g : Nat) (v : Value) (st : Option (List UInt8)) (n s : Nat) (h : RfS w B g v st) (hB : B ≤ w.heap.size) (hx : ∀ l, st = some l → l.length ≤ 1000000) (hs : s ≤ 8) :
    Calls Tryz.prog 203 #[.pointer (some ⟨g, 0, none⟩), .int .u64 n, .int .i64 s] w fun e w' => e = .returned (.tuple #[]) ∧ RMoreO w B g v (stepB st (beN n s)) w' := by
  cases st with
  | none =>
    refine (rput_bad w g n s (h.1.cell 1 rfl)).mono ?_
    rintro e w' ⟨rfl, rfl⟩
    exact ⟨rfl, RMoreO.same h⟩
  | some l =>
    refine (rput_any w B g v l n s h hB (hx l rfl) hs).mono ?_
    rintro e w' ⟨rfl, v', h1, h2, h3⟩
    exact ⟨rfl, v', h1, h2, h3⟩
theorem low64_fit (n : Int) (h0 : 0 ≤ n) (h1 : n < 9223372036854775808) : ((low64 n : Nat) : Int) = n := by rw [low64_eq]; omega
theorem stepN_fit1 (st : Option (List UInt8)) (n : Int) (h0 : 0 ≤ n) (h1 : n < 256) : stepN st (low64 n) 1 = stepB st (beN (low64 n) 1) := by
  have e : low64 n / 2 ^ (8 * 1) = 0 := Nat.div_eq_of_lt (by have := low64_fit n h0 (by omega); omega)
  cases st with
  | none => rfl
  | some l => simp only [stepN, Option.bind_some, if_pos e, stepB, Option.map_some]
theorem stepN_not1 (st : Option (List UInt8)) (n : Int) (hlo : -9223372036854775808 ≤ n) (hhi : n < 9223372036854775808) (h1 : n < 0 ∨ 256 ≤ n) : stepN st (low64 n) 1 = none := by
  have e : ¬ low64 n / 2 ^ (8 * 1) = 0 := by
    have hle : 256 ≤ low64 n := by have := low64_eq n; omega
    have h3 : 1 ≤ low64 n / 256 := (Nat.le_div_iff_mul_le (by omega)).2 (by omega)
    have e2 : (2 : Nat) ^ (8 * 1) = 256 := by decide
    rw [e2]; omega
  cases st with
  | none => rfl
  | some l => simp only [stepN, Option.bind_some, if_neg e]
set_option maxRecDepth 100000 in
theorem rbelow1 (w : World) (B g : Nat) (v : Value) (st : Option (List UInt8)) (n : Int) (hlo : -9223372036854775808 ≤ n) (hhi : n < 9223372036854775808) (h : RfS w B g v st) (hB : B ≤ w.heap.size) (hx : ∀ l, st = some l → l.length ≤ 1000000) :
    Calls Tryz.prog 126 #[.pointer (some ⟨g, 0, none⟩), .int .i64 n, .int .i64 1] w fun e w' => e = .returned (.tuple #[]) ∧ RMoreO w B g v (stepN st (low64 n) 1) w' := by
  by_cases hfit : 0 ≤ n ∧ n < 256
  · obtain ⟨h0, h1⟩ := hfit
    rw [stepN_fit1 st n h0 h1]
    have he := rput_st w B g v st (low64 n) 1 h hB hx (by omega)
    rw [low64_fit n h0 hhi] at he
    have HE := Lib.hid he
    have hw : IntKind.u64.wrap n = n := by rw [IntKind.wrap_u64]; omega
    have hn0 : ¬ n < 0 := by omega
    have hn1 : ¬ 256 ≤ n := by omega
    clear he h hx
    go_enter Tryz.func126, Tryz.ntmps126
    go_wp2_with fail
    refine HE.out.mono ?_
    rintro e w1 ⟨rfl, hm⟩
    have HM := Lib.hid hm
    clear hm HE
    go_wp2_with fail
    go_end0
    exact ⟨rfl, HM.out⟩
  · have hor : n < 0 ∨ 256 ≤ n := by omega
    rw [stepN_not1 st n hlo hhi hor]
    have c1 := h.cell1
    have f1 := h.free1
    have hm := RMoreO.bad h
    have he := fun m => rput_bad (w.setCell ⟨g, 1, none⟩ (.bool true)) g m 1 (h.bad.1.cell 1 rfl)
    have HE := Lib.hid he
    have HM := Lib.hid hm
    clear hm he h hx
    rcases hor with hor | hor
    · go_enter Tryz.func126, Tryz.ntmps126
      go_wp2_with fail
      refine (HE.out _).mono ?_
      rintro e w1 ⟨rfl, rfl⟩
      go_wp2_with fail
      go_end0
      exact ⟨rfl, HM.out⟩
    · have hw : IntKind.u64.wrap n = n := by rw [IntKind.wrap_u64]; omega
      have hn0 : ¬ n < 0 := by omega
      go_enter Tryz.func126, Tryz.ntmps126
      go_wp2_with fail
      refine (HE.out _).mono ?_
      rintro e w1 ⟨rfl, rfl⟩
      go_wp2_with fail
      go_end0
      exact ⟨rfl, HM.out⟩
theorem stepN_fit2 (st : Option (List UInt8)) (n : Int) (h0 : 0 ≤ n) (h1 : n < 65536) : stepN st (low64 n) 2 = stepB st (beN (low64 n) 2) := by
  have e : low64 n / 2 ^ (8 * 2) = 0 := Nat.div_eq_of_lt (by have := low64_fit n h0 (by omega); omega)
  cases st with
  | none => rfl
  | some l => simp only [stepN, Option.bind_some, if_pos e, stepB, Option.map_some]
theorem stepN_not2 (st : Option (List UInt8)) (n : Int) (hlo : -9223372036854775808 ≤ n) (hhi : n < 9223372036854775808) (h1 : n < 0 ∨ 65536 ≤ n) : stepN st (low64 n) 2 = none := by
  have e : ¬ low64 n / 2 ^ (8 * 2) = 0 := by
    have hle : 65536 ≤ low64 n := by have := low64_eq n; omega
    have h3 : 1 ≤ low64 n / 65536 := (Nat.le_div_iff_mul_le (by omega)).2 (by omega)
    have e2 : (2 : Nat) ^ (8 * 2) = 65536 := by decide
    rw [e2]; omega
  cases st with
  | none => rfl
  | some l => simp only [stepN, Option.bind_some, if_neg e]
set_option maxRecDepth 100000 in
theorem rbelow2 (w : World) (B g : Nat) (v : Value) (st : Option (List UInt8)) (n : Int) (hlo : -9223372036854775808 ≤ n) (hhi : n < 9223372036854775808) (h : RfS w B g v st) (hB : B ≤ w.heap.size) (hx : ∀ l, st = some l → l.length ≤ 1000000) :
    Calls Tryz.prog 126 #[.pointer (some ⟨g, 0, none⟩), .int .i64 n, .int .i64 2] w fun e w' => e = .returned (.tuple #[]) ∧ RMoreO w B g v (stepN st (low64 n) 2) w' := by
  by_cases hfit : 0 ≤ n ∧ n < 65536
  · obtain ⟨h0, h1⟩ := hfit
    rw [stepN_fit2 st n h0 h1]
    have he := rput_st w B g v st (low64 n) 2 h hB hx (by omega)
    rw [low64_fit n h0 hhi] at he
    have HE := Lib.hid he
    have hw : IntKind.u64.wrap n = n := by rw [IntKind.wrap_u64]; omega
    have hn0 : ¬ n < 0 := by omega
    have hn1 : ¬ 65536 ≤ n := by omega
    clear he h hx
    go_enter Tryz.func126, Tryz.ntmps126
    go_wp2_with fail
    refine HE.out.mono ?_
    rintro e w1 ⟨rfl, hm⟩
    have HM := Lib.hid hm
    clear hm HE
    go_wp2_with fail
    go_end0
    exact ⟨rfl, HM.out⟩
  · have hor : n < 0 ∨ 65536 ≤ n := by omega
    rw [stepN_not2 st n hlo hhi hor]
    have c1 := h.cell1
    have f1 := h.free1
    have hm := RMoreO.bad h
    have he := fun m => rput_bad (w.setCell ⟨g, 1, none⟩ (.bool true)) g m 2 (h.bad.1.cell 1 rfl)
    have HE := Lib.hid he
    have HM := Lib.hid hm
    clear hm he h hx
    rcases hor with hor | hor
    · go_enter Tryz.func126, Tryz.ntmps126
      go_wp2_with fail
      refine (HE.out _).mono ?_
      rintro e w1 ⟨rfl, rfl⟩
      go_wp2_with fail
      go_end0
      exact ⟨rfl, HM.out⟩
    · have hw : IntKind.u64.wrap n = n := by rw [IntKind.wrap_u64]; omega
      have hn0 : ¬ n < 0 := by omega
      go_enter Tryz.func126, Tryz.ntmps126
      go_wp2_with fail
      refine (HE.out _).mono ?_
      rintro e w1 ⟨rfl, rfl⟩
      go_wp2_with fail
      go_end0
      exact ⟨rfl, HM.out⟩
theorem stepN_fit4 (st : Option (List UInt8)) (n : Int) (h0 : 0 ≤ n) (h1 : n < 4294967296) : stepN st (low64 n) 4 = stepB st (beN (low64 n) 4) := by
  have e : low64 n / 2 ^ (8 * 4) = 0 := Nat.div_eq_of_lt (by have := low64_fit n h0 (by omega); omega)
  cases st with
  | none => rfl
  | some l => simp only [stepN, Option.bind_some, if_pos e, stepB, Option.map_some]
theorem stepN_not4 (st : Option (List UInt8)) (n : Int) (hlo : -9223372036854775808 ≤ n) (hhi : n < 9223372036854775808) (h1 : n < 0 ∨ 4294967296 ≤ n) : stepN st (low64 n) 4 = none := by
  have e : ¬ low64 n / 2 ^ (8 * 4) = 0 := by
    have hle : 4294967296 ≤ low64 n := by have := low64_eq n; omega
    have h3 : 1 ≤ low64 n / 4294967296 := (Nat.le_div_iff_mul_le (by omega)).2 (by omega)
    have e2 : (2 : Nat) ^ (8 * 4) = 4294967296 := by decide
    rw [e2]; omega
  cases st with
  | none => rfl
  | some l => simp only [stepN, Option.bind_some, if_neg e]
set_option maxRecDepth 100000 in
theorem rbelow4 (w : World) (B g : Nat) (v : Value) (st : Option (List UInt8)) (n : Int) (hlo : -9223372036854775808 ≤ n) (hhi : n < 9223372036854775808) (h : RfS w B g v st) (hB : B ≤ w.heap.size) (hx : ∀ l, st = some l → l.length ≤ 1000000) :
    Calls Tryz.prog 126 #[.pointer (some ⟨g, 0, none⟩), .int .i64 n, .int .i64 4] w fun e w' => e = .returned (.tuple #[]) ∧ RMoreO w B g v (stepN st (low64 n) 4) w' := by
  by_cases hfit : 0 ≤ n ∧ n < 4294967296
  · obtain ⟨h0, h1⟩ := hfit
    rw [stepN_fit4 st n h0 h1]
    have he := rput_st w B g v st (low64 n) 4 h hB hx (by omega)
    rw [low64_fit n h0 hhi] at he
    have HE := Lib.hid he
    have hw : IntKind.u64.wrap n = n := by rw [IntKind.wrap_u64]; omega
    have hn0 : ¬ n < 0 := by omega
    have hn1 : ¬ 4294967296 ≤ n := by omega
    clear he h hx
    go_enter Tryz.func126, Tryz.ntmps126
    go_wp2_with fail
    refine HE.out.mono ?_
    rintro e w1 ⟨rfl, hm⟩
    have HM := Lib.hid hm
    clear hm HE
    go_wp2_with fail
    go_end0
    exact ⟨rfl, HM.out⟩
  · have hor : n < 0 ∨ 4294967296 ≤ n := by omega
    rw [stepN_not4 st n hlo hhi hor]
    have c1 := h.cell1
    have f1 := h.free1
    have hm := RMoreO.bad h
    have he := fun m => rput_bad (w.setCell ⟨g, 1, none⟩ (.bool true)) g m 4 (h.bad.1.cell 1 rfl)
    have HE := Lib.hid he
    have HM := Lib.hid hm
    clear hm he h hx
    rcases hor with hor | hor
    · go_enter Tryz.func126, Tryz.ntmps126
      go_wp2_with fail
      refine (HE.out _).mono ?_
      rintro e w1 ⟨rfl, rfl⟩
      go_wp2_with fail
      go_end0
      exact ⟨rfl, HM.out⟩
    · have hw : IntKind.u64.wrap n = n := by rw [IntKind.wrap_u64]; omega
      have hn0 : ¬ n < 0 := by omega
      go_enter Tryz.func126, Tryz.ntmps126
      go_wp2_with fail
      refine (HE.out _).mono ?_
      rintro e w1 ⟨rfl, rfl⟩
      go_wp2_with fail
      go_end0
      exact ⟨rfl, HM.out⟩
set_option maxRecDepth 100000 in
theorem ru8_st (w : World) (B g : Nat) (v : Value) (st : Option (List UInt8)) (n : Int) (hlo : -9223372036854775808 ≤ n) (hhi : n < 9223372036854775808) (h : RfS w B g v st) (hB : B ≤ w.heap.size) (hx : ∀ l, st = some l → l.length ≤ 1000000) :
    Calls Tryz.prog 59 #[.pointer (some ⟨g, 0, none⟩), .int .i64 n] w fun e w' => e = .returned (.tuple #[]) ∧ RMoreO w B g v (stepN st (low64 n) 1) w' := by
  have he := rbelow1 w B g v st n hlo hhi h hB hx
  have HE := Lib.hid he
  clear he h hx
  go_enter Tryz.func59, Tryz.ntmps59
  go_wp2_with fail
  refine HE.out.mono ?_
  rintro e w' ⟨rfl, hm⟩
  have HM := Lib.hid hm
  clear HE hm
  go_wp2_with fail
  go_end0
  exact ⟨rfl, HM.out⟩
set_option maxRecDepth 100000 in
theorem ru16_st (w : World) (B g : Nat) (v : Value) (st : Option (List UInt8)) (n : Int) (hlo : -9223372036854775808 ≤ n) (hhi : n < 9223372036854775808) (h : RfS w B g v st) (hB : B ≤ w.heap.size) (hx : ∀ l, st = some l → l.length ≤ 1000000) :
    Calls Tryz.prog 179 #[.pointer (some ⟨g, 0, none⟩), .int .i64 n] w fun e w' => e = .returned (.tuple #[]) ∧ RMoreO w B g v (stepN st (low64 n) 2) w' := by
  have he := rbelow2 w B g v st n hlo hhi h hB hx
  have HE := Lib.hid he
  clear he h hx
  go_enter Tryz.func179, Tryz.ntmps179
  go_wp2_with fail
  refine HE.out.mono ?_
  rintro e w' ⟨rfl, hm⟩
  have HM := Lib.hid hm
  clear HE hm
  go_wp2_with fail
  go_end0
  exact ⟨rfl, HM.out⟩
set_option maxRecDepth 100000 in
theorem ru32_st (w : World) (B g : Nat) (v : Value) (st : Option (List UInt8)) (n : Int) (hlo : -9223372036854775808 ≤ n) (hhi : n < 9223372036854775808) (h : RfS w B g v st) (hB : B ≤ w.heap.size) (hx : ∀ l, st = some l → l.length ≤ 1000000) :
    Calls Tryz.prog 178 #[.pointer (some ⟨g, 0, none⟩), .int .i64 n] w fun e w' => e = .returned (.tuple #[]) ∧ RMoreO w B g v (stepN st (low64 n) 4) w' := by
  have he := rbelow4 w B g v st n hlo hhi h hB hx
  have HE := Lib.hid he
  clear he h hx
  go_enter Tryz.func178, Tryz.ntmps178
  go_wp2_with fail
  refine HE.out.mono ?_
  rintro e w' ⟨rfl, hm⟩
  have HM := Lib.hid hm
  clear HE hm
  go_wp2_with fail
  go_end0
  exact ⟨rfl, HM.out⟩
theorem stepN8 (st : Option (List UInt8)) (n : Nat) (h : n < 18446744073709551616) : stepB st (beN n 8) = stepN st n 8 := by
  have e : n / 2 ^ (8 * 8) = 0 := Nat.div_eq_of_lt h
  cases st with
  | none => rfl
  | some l => simp only [stepN, Option.bind_some, if_pos e, stepB, Option.map_some]
set_option maxRecDepth 100000 in
theorem ru64_st (w : World) (B g : Nat) (v : Value) (st : Option (List UInt8)) (n : Nat) (h : RfS w B g v st) (hB : B ≤ w.heap.size) (hx : ∀ l, st = some l → l.length ≤ 1000000) (hn : n < 18446744073709551616) :
    Calls Tryz.prog 177 #[.pointer (some ⟨g, 0, none⟩), .int .u64 n] w fun e w' => e = .returned (.tuple #[]) ∧ RMoreO w B g v (stepN st n 8) w' := by
  have he := rput_st w B g v st n 8 h hB hx (by omega)
  rw [stepN8 st n hn] at he
  have HE := Lib.hid he
  clear he h hx
  go_enter Tryz.func177, Tryz.ntmps177
  go_wp2_with fail
  refine HE.out.mono ?_
  rintro e w' ⟨rfl, hm⟩
  have HM := Lib.hid hm
  clear HE hm
  go_wp2_with fail
  go_end0
  exact ⟨rfl, HM.out⟩
set_option maxRecDepth 100000 in
theorem ri64_st (w : World) (B g : Nat) (v : Value) (st : Option (List UInt8)) (n : Int) (m : Nat) (h : RfS w B g v st) (hB : B ≤ w.heap.size) (hx : ∀ l, st = some l → l.length ≤ 1000000) (hm : (m : Int) = n % 18446744073709551616) :
    Calls Tryz.prog 175 #[.pointer (some ⟨g, 0, none⟩), .int .i64 n] w fun e w' => e = .returned (.tuple #[]) ∧ RMoreO w B g v (stepN st m 8) w' := by
  have he := rput_st w B g v st m 8 h hB hx (by omega)
  rw [stepN8 st m (by omega)] at he
  have HE := Lib.hid he
  have hw : IntKind.u64.wrap n = (m : Int) := by rw [IntKind.wrap_u64]; omega
  clear he h hx hm
  go_enter Tryz.func175, Tryz.ntmps175
  go_wp2_with fail
  refine HE.out.mono ?_
  rintro e w' ⟨rfl, hm⟩
  have HM := Lib.hid hm
  clear HE hm
  go_wp2_with fail
  go_end0
  exact ⟨rfl, HM.out⟩
set_option maxRecDepth 100000 in
theorem rspoil_st (w : World) (B g : Nat) (v : Value) (st : Option (List UInt8)) (h : RfS w B g v st) : Calls Tryz.prog 213 #[.pointer (some ⟨g, 0, none⟩)] w fun e w' => e = .returned (.tuple #[]) ∧ RMoreO w B g v none w' := by
  have c1 := h.cell1
  have f1 := h.free1
  have hm := RMoreO.bad h
  have HM := Lib.hid hm
  clear hm h
  go_enter Tryz.func213, Tryz.ntmps213
  go_wp2_with fail
  go_end0
  exact ⟨rfl, HM.out⟩
end Go.Proofs.YtilbbemdinpjcaaGreat.W
