/-
  SumParts: any bytes, cuts, hashes.
-/
import Derived.Test.YtccfdobogbiomaaDoorSame
import Derived.Test.YtccfdobogbiomaaDoorTrio
import Derived.Test.YtccfdobogbiomaaDoorGreat
import Derived.Deep.DeepMust
import Derived.Deep.Cut
namespace Go.Proofs.YtccfdobogbiomaaDoor
open Go.RowKit Sha

def Ints (w : World) (g off : Nat) (cs : List Int) : Prop := ∀ j, j < cs.length → w.cell? ⟨g, off + j, none⟩ = some (.int .i64 (cs.getD j 0))
theorem great_one (w : World) (pa : Option Addr) (n pc : Nat) (h : n ≤ 140737488355328) :
    Calls Tryd.prog 7 #[.slice (some ⟨w.heap.size, 0, none⟩) 1 1] (w.alloc (.cells #[.slice pa n pc] 38)) fun e w' => e = .returned (.bool (decide (3000 < 1 + n))) ∧ w.alloc (.cells #[.slice pa n pc] 38) = w' := by
  have hm : (1 : Nat) ≤ maxLen := by unfold maxLen; omega
  have hone : ∀ q : Part, q ∈ [(⟨pa, List.replicate n 0, pc⟩ : Part)] → q.xs.length ≤ 140737488355328 := by
    intro q hq
    rw [List.mem_singleton] at hq
    rw [hq]; simpa using h
  have := great_any [⟨pa, List.replicate n 0, pc⟩] (w.alloc (.cells #[.slice pa n pc] 38)) (some ⟨w.heap.size, 0, none⟩) 1 hm hone (fun _ => ⟨_, _, rfl, fun j hj => ?_⟩)
  · have e : total [⟨pa, List.replicate n 0, pc⟩] [(⟨pa, List.replicate n 0, pc⟩ : Part)].length = 1 + n := by simp [total, joined]
    rw [e] at this
    exact this
  · obtain rfl : j = 0 := by simp at hj; omega
    have := cell_of_row _ _ 0 _ _ _ (heap_alloc_new w (.cells #[.slice pa n pc] 38))
    simp [Part.val]

set_option maxRecDepth 100000 in
set_option maxHeartbeats 2000000 in
theorem parts_over (w : World) (pa : Option Addr) (z pc : Nat) (h47 : z ≤ 140737488355328) (n m : Nat) (cv lv : Option Addr) (cc lc : Nat) (hs : Starts w) (hc : Cubes w)
    (h : 3000 < 1 + z ∨ 40 < n ∨ 40 < m) :
    Calls Tryd.prog 6 #[.slice pa z pc, .slice cv n cc, .slice lv m lc] w fun e w' => e = .returned (.bool true) ∧ Below w.heap.size w w' := by
  have hg := fun W => great_one W pa z pc h47
  have HS := Lib.hid hs
  have HC := Lib.hid hc
  clear hs hc
  by_cases h1 : 3000 < 1 + z
  · rw [decide_eq_true h1] at hg
    have HG := Lib.hid hg
    clear hg h h1 h47
    go_enter Tryd.func6, Tryd.ntmps6
    go_wp2_with fail
    refine (awake_any w HS.out HC.out).mono ?_
    rintro e w1 ⟨rfl, hb1⟩
    go_wp2_with fail
    refine (HG.out w1).mono ?_
    rintro e w2 ⟨rfl, rfl⟩
    go_wp2_with fail
    go_ret
    exact ⟨rfl, hb1.alloc hb1.size _⟩
  · rw [decide_eq_false h1] at hg
    have HG := Lib.hid hg
    by_cases h2 : 40 < n
    · have d2 : decide (40 < (n : Int)) = true := by simp; omega
      have e2 : (40 : Int) < (n : Int) := by omega
      clear hg h h1 h47
      go_enter Tryd.func6, Tryd.ntmps6
      go_wp2_with fail
      refine (awake_any w HS.out HC.out).mono ?_
      rintro e w1 ⟨rfl, hb1⟩
      go_wp2_with fail
      refine (HG.out w1).mono ?_
      rintro e w2 ⟨rfl, rfl⟩
      go_wp2_with fail
      go_ret
      exact ⟨rfl, hb1.alloc hb1.size _⟩
    · have h3 : 40 < m := by omega
      have d2 : ¬ (40 : Int) < (n : Int) := by omega
      have e3 : (40 : Int) < (m : Int) := by omega
      clear hg h h1 h47
      go_enter Tryd.func6, Tryd.ntmps6
      go_wp2_with fail
      refine (awake_any w HS.out HC.out).mono ?_
      rintro e w1 ⟨rfl, hb1⟩
      go_wp2_with fail
      refine (HG.out w1).mono ?_
      rintro e w2 ⟨rfl, rfl⟩
      go_wp2_with fail
      go_ret
      exact ⟨rfl, hb1.alloc hb1.size _⟩

/-- While the bytes are cut. -/
def CutI (w : World) (cs : List Int) (xs : List UInt8) (v t i : Value) (wr : World) : Prop :=
  ∃ (k a : Nat) (ps : List Part), k ≤ cs.length ∧ i = .int .i64 k ∧ a ≤ xs.length ∧ t = .int .i64 a ∧ ps.length = k ∧ joined ps = xs.take a ∧ (∀ p, p ∈ ps → Good w p) ∧ RowP w ps v wr
theorem take_more (xs : List UInt8) (a d : Nat) : xs.take a ++ (xs.drop a).take d = xs.take (a + d) := by
  rw [List.take_add]
theorem cut_next {w : World} {cs : List Int} {xs : List UInt8} {k a d : Nat} {ps : List Part} {p : Part} {v : Value} {w5 : World} {x y : Int} (hk : k < cs.length) (had : a + d ≤ xs.length) (hpl : ps.length = k) (hj : joined ps = xs.take a)
    (hgp : ∀ p, p ∈ ps → Good w p) (hp : p.xs = (xs.drop a).take d) (hg : Good w p) (hr : RowP w (ps ++ [p]) v w5) (hx : x = (a : Int) + (d : Int)) (hy : y = (k : Int) + 1) : CutI w cs xs v (.int .i64 x) (.int .i64 y) w5 := by
  refine ⟨k + 1, a + d, ps ++ [p], hk, by rw [hy]; rfl, had, by rw [hx]; rfl, by simp [hpl], ?_, ?_, hr⟩
  · unfold joined at hj ⊢
    rw [List.flatMap_append, hj]
    simp only [List.flatMap_cons, List.flatMap_nil, List.append_nil]
    rw [hp, take_more]
  · intro q hq
    rcases List.mem_append.1 hq with h | h
    · exact hgp q h
    · rw [List.mem_singleton] at h; rw [h]; exact hg
theorem good_cut {w : World} {g off : Nat} {xs : List UInt8} {c : Nat} (h : Good w ⟨some ⟨g, off, none⟩, xs, c⟩) (a d : Nat) (had : a + d ≤ xs.length) (hg : g < w.heap.size) (hs : Src w g off xs) : Good w ⟨some ⟨g, off + a, none⟩, (xs.drop a).take d, c - a⟩ := by
  obtain ⟨h1, h2, _⟩ := h
  have h1' : xs.length ≤ c := h1
  have h2' : c ≤ maxLen := h2
  refine ⟨?_, ?_, fun _ => ⟨g, off + a, rfl, hg, (hs.drop a).take d⟩⟩
  · show ((xs.drop a).take d).length ≤ c - a
    rw [List.length_take, List.length_drop]; omega
  · show c - a ≤ maxLen
    omega

/-- All parts stand. -/
def CutE (w : World) (xs : List UInt8) (v : Value) (wr : World) : Prop :=
  ∃ (ps : List Part) (g c : Nat), v = .slice (some ⟨g, 0, none⟩) ps.length c ∧ ps.length ≤ 50 ∧ 0 < ps.length ∧ joined ps = xs ∧ (∀ p, p ∈ ps → Good w p) ∧ RowP w ps v wr
theorem cut_end {w : World} {xs : List UInt8} {a : Nat} {ps : List Part} {q p : Part} {v : Value} {w5 : World} (hpl : ps.length ≤ 40) (hj : joined ps = xs.take a) (hgp : ∀ p, p ∈ ps → Good w p)
    (hq : q.xs = []) (hgq : Good w q) (hp : p.xs = xs.drop a) (hg : Good w p) (hr : RowP w (ps ++ [q, p]) v w5) : CutE w xs v w5 := by
  obtain ⟨g, c, hv⟩ := hr.shape (by simp)
  refine ⟨ps ++ [q, p], g, c, hv, by simp; omega, by simp, ?_, ?_, hr⟩
  · unfold joined at hj ⊢
    rw [List.flatMap_append, hj]
    simp only [List.flatMap_cons, List.flatMap_nil, List.append_nil]
    rw [hq, hp, List.nil_append, List.take_append_drop]
  · intro x hx
    rcases List.mem_append.1 hx with h | h
    · exact hgp x h
    · simp only [List.mem_cons, List.not_mem_nil, or_false] at h
      rcases h with rfl | rfl
      · exact hgq
      · exact hg
/-- While the halves are looked for. -/
def FindI (w : World) (m : Nat) (f n : Value) (wr : World) : Prop :=
  ∃ (k : Nat) (b : Bool), n = .int .i64 k ∧ f = .bool b ∧ (k = 1 ∨ k = 2 ∨ k = 4 ∨ k = 8 ∨ k = 16 ∨ k = 32 ∨ k = 64) ∧ (b = true ∨ (2 ≤ m ∧ k ≤ powB m)) ∧ Below w.heap.size w wr
theorem find_more {m k : Nat} (hm : m ≤ 40) (hk : k = 1 ∨ k = 2 ∨ k = 4 ∨ k = 8 ∨ k = 16 ∨ k = 32 ∨ k = 64) (h2 : k * 2 < m) : (k * 2 = 1 ∨ k * 2 = 2 ∨ k * 2 = 4 ∨ k * 2 = 8 ∨ k * 2 = 16 ∨ k * 2 = 32 ∨ k * 2 = 64) ∧ 2 ≤ m ∧ k * 2 ≤ powB m := by
  refine ⟨by omega, by omega, ?_⟩
  unfold powB blen
  rcases hk with rfl | rfl | rfl | rfl | rfl | rfl | rfl <;> (repeat' split) <;> (first | omega | (simp; done) | (exfalso; omega) | (simp; omega))
theorem find_last {m k : Nat} (hm : m ≤ 40) (hk : k = 1 ∨ k = 2 ∨ k = 4 ∨ k = 8 ∨ k = 16 ∨ k = 32 ∨ k = 64) (h1 : k < m) (h2 : m ≤ k * 2) : powB m = k := by
  unfold powB blen
  rcases hk with rfl | rfl | rfl | rfl | rfl | rfl | rfl <;> (repeat' split) <;> (first | omega | (simp; done) | (exfalso; omega) | (simp; omega))

set_option maxRecDepth 100000 in
set_option maxHeartbeats 4000000 in
theorem parts_fit (w : World) (pa : Option Addr) (xs : List UInt8) (pc : Nat) (hgb : Good w ⟨pa, xs, pc⟩) (hx : 1 + xs.length ≤ 3000) (cs : List Int) (cv : Option Addr) (cc : Nat) (hn : cs.length ≤ 40)
    (hcs : 0 < cs.length → ∃ g off, cv = some ⟨g, off, none⟩ ∧ g < w.heap.size ∧ Ints w g off cs)
    (m : Nat) (hm : m ≤ 40) (F : List UInt8) (hF : F.length = 32 * m) (lv : Option Addr) (lc : Nat) (hlc1 : m ≤ lc) (hlc2 : lc ≤ maxLen)
    (hsrc : 0 < m → ∃ g off, lv = some ⟨g, off, none⟩ ∧ g < w.heap.size ∧ Src w g off F) (hs : Starts w) (hc : Cubes w) :
    Calls Tryd.prog 6 #[.slice pa xs.length pc, .slice cv cs.length cc, .slice lv m lc] w fun e w' => e = .returned (.bool true) ∧ Below w.heap.size w w' := by
  have hg := fun W => great_one W pa xs.length pc (by omega)
  rw [decide_eq_false (by omega)] at hg
  have HG := Lib.hid hg
  have HS := Lib.hid hs
  have HC := Lib.hid hc
  have HGB := Lib.hid hgb
  have HCS := Lib.hid hcs
  have HF := Lib.hid hF
  have HSRC := Lib.hid hsrc
  have d2 : ¬ (40 : Int) < (cs.length : Int) := by omega
  have d3 : ¬ (40 : Int) < (m : Int) := by omega
  clear hg hs hc hgb hcs hF hsrc
  go_enter Tryd.func6, Tryd.ntmps6
  go_wp2_with fail
  refine (awake_any w HS.out HC.out).mono ?_
  rintro e w1 ⟨rfl, hb1⟩
  go_wp2_with fail
  refine (HG.out w1).mono ?_
  rintro e w2 ⟨rfl, rfl⟩
  have hb2 : Below w.heap.size w (w1.alloc (.cells #[.slice pa xs.length pc] 38)) := hb1.alloc hb1.size _
  generalize w1.alloc (.cells #[.slice pa xs.length pc] 38) = w2 at hb2 ⊢
  have HB := Lib.hid hb2
  clear hb1 hb2 HG
  go_wp2_with fail
  go_loopw [7, 8, 9] (fun v t i wr => CutI w cs xs v t i wr) (fun _ _ i _ => cs.length - (intOf i).toNat)
  case atStart => exact ⟨0, 0, [], Nat.zero_le _, rfl, Nat.zero_le _, rfl, rfl, by simp [joined], fun p hp => (by cases hp), ⟨World.ownsRow_nil _ _ _ _, HB.out⟩⟩
  case round =>
    obtain ⟨k, a, ps, hk, rfl, ha, rfl, hpl, hj, hgp, hrow⟩ := hrel
    have HPL := Lib.hid hpl
    have HJ := Lib.hid hj
    have HGP := Lib.hid hgp
    have HROW := Lib.hid hrow
    clear hpl hj hgp hrow HB
    by_cases hlt : k < cs.length
    · obtain ⟨g, off, rfl, hgw, hints⟩ := HCS.out (by omega)
      have hcell : wr.cell? ⟨g, off + k, none⟩ = some (.int .i64 (cs.getD k 0)) := (HROW.out.2.cell (p := ⟨g, off + k, none⟩) hgw).trans (hints k hlt)
      generalize cs.getD k 0 = c at hcell
      have m1 : (k : Int) < (cs.length : Int) := by omega
      clear hints
      by_cases hl : a < xs.length
      · have l1 : (0 : Int) < (xs.length : Int) - (a : Int) := by omega
        have l2 : (a : Int) < (xs.length : Int) := by omega
        obtain ⟨hxc, hcm, hpa⟩ := HGB.out
        obtain ⟨g2, o2, rfl, hg2, hs2⟩ := hpa (by show 0 < xs.length; omega)
        have HS2 := Lib.hid hs2
        have hxc2 : xs.length ≤ pc := hxc
        have l3 : ¬ pc = a := by omega
        have l4 : (xs.length : Int) ≤ (pc : Int) := by omega
        have q1 : c.tmod ((xs.length : Int) - (a : Int) + 1) < (xs.length : Int) - (a : Int) + 1 := Int.tmod_lt_of_pos _ (by omega)
        have q2 : -((xs.length : Int) - (a : Int) + 1) < c.tmod ((xs.length : Int) - (a : Int) + 1) := Int.lt_tmod_of_pos _ (by omega)
        obtain ⟨q, hq⟩ : ∃ q, c.tmod ((xs.length : Int) - (a : Int) + 1) = q := ⟨_, rfl⟩
        rw [hq] at q1 q2
        clear hs2 hpa hxc hl
        by_cases hneg : q < 0
        · obtain ⟨d, hd⟩ : ∃ d : Nat, q + ((xs.length : Int) - (a : Int)) + 1 = (d : Int) := ⟨(q + ((xs.length : Int) - (a : Int)) + 1).toNat, by omega⟩
          have d1 : (a : Int) + (d : Int) ≤ (xs.length : Int) := by omega
          have d2 : ((a : Int) + (d : Int)).toNat = a + d := by omega
          have d3 : (a : Int) + (d : Int) ≤ (pc : Int) := by omega
          have had : a + d ≤ xs.length := by omega
          have hlen : ((xs.drop a).take d).length = d := by rw [List.length_take, List.length_drop]; omega
          have hcl : #[Value.slice (some ⟨g2, o2 + a, none⟩) d (pc - a)] = (List.map Part.val [⟨some ⟨g2, o2 + a, none⟩, (xs.drop a).take d, pc - a⟩]).toArray := by simp [Part.val, hlen]
          have hl5 : ps.length + [(⟨some ⟨g2, o2 + a, none⟩, (xs.drop a).take d, pc - a⟩ : Part)].length ≤ 5000 := by have := HPL.out; simp; omega
          have HLEN := Lib.hid hlen
          have HCL := Lib.hid hcl
          have HL5 := Lib.hid hl5
          clear hlen hcl hl5
          go_wp2_with (at_builtin; go_must (refine wpList_pushP rfl _ _ rfl ps [⟨some ⟨g2, o2 + a, none⟩, (xs.drop a).take d, pc - a⟩] _ _ HCL.out rfl rfl HL5.out HROW.out ?_; intro v5 w5 HR5))
          refine ⟨cut_next hlt had HPL.out HJ.out HGP.out rfl (good_cut HGB.out a d had hg2 HS2.out) HR5.out rfl rfl, ?_⟩
          simp [intOf]; omega
        · obtain ⟨d, rfl⟩ : ∃ d : Nat, q = (d : Int) := ⟨q.toNat, by omega⟩
          have d1 : (a : Int) + (d : Int) ≤ (xs.length : Int) := by omega
          have d2 : ((a : Int) + (d : Int)).toNat = a + d := by omega
          have d3 : (a : Int) + (d : Int) ≤ (pc : Int) := by omega
          have had : a + d ≤ xs.length := by omega
          have hlen : ((xs.drop a).take d).length = d := by rw [List.length_take, List.length_drop]; omega
          have hcl : #[Value.slice (some ⟨g2, o2 + a, none⟩) d (pc - a)] = (List.map Part.val [⟨some ⟨g2, o2 + a, none⟩, (xs.drop a).take d, pc - a⟩]).toArray := by simp [Part.val, hlen]
          have hl5 : ps.length + [(⟨some ⟨g2, o2 + a, none⟩, (xs.drop a).take d, pc - a⟩ : Part)].length ≤ 5000 := by have := HPL.out; simp; omega
          have HLEN := Lib.hid hlen
          have HCL := Lib.hid hcl
          have HL5 := Lib.hid hl5
          clear hlen hcl hl5
          go_wp2_with (at_builtin; go_must (refine wpList_pushP rfl _ _ rfl ps [⟨some ⟨g2, o2 + a, none⟩, (xs.drop a).take d, pc - a⟩] _ _ HCL.out rfl rfl HL5.out HROW.out ?_; intro v5 w5 HR5))
          refine ⟨cut_next hlt had HPL.out HJ.out HGP.out rfl (good_cut HGB.out a d had hg2 HS2.out) HR5.out rfl rfl, ?_⟩
          simp [intOf]; omega
      · have hax : a = xs.length := by omega
        have hcm : pc ≤ maxLen := HGB.out.2.1
        have hxc : xs.length ≤ pc := HGB.out.1
        have l1 : ¬ (0 : Int) < (xs.length : Int) - (a : Int) := by omega
        have l4 : (a : Int) ≤ (pc : Int) := by omega
        have hl5 : ∀ z : Option Addr, ∀ c : Nat, ps.length + [(⟨z, [], c⟩ : Part)].length ≤ 5000 := by intro _ _; have := HPL.out; simp; omega
        have HCL : Hid (∀ (z : Option Addr) (c : Nat), #[Value.slice z 0 c] = (List.map Part.val [⟨z, [], c⟩]).toArray) := Lib.hid (fun _ _ => rfl)
        have HL5 := Lib.hid hl5
        have HAX := Lib.hid hax
        clear hl5 hax hl
        by_cases hpc : pc = a
        · subst hpc
          go_wp2_with (at_builtin; go_must (refine wpList_pushP rfl _ _ rfl ps [⟨_, [], _⟩] _ _ (HCL.out _ _) rfl rfl (HL5.out _ _) HROW.out ?_; intro v5 w5 HR5))
          refine ⟨cut_next (d := 0) hlt ha HPL.out HJ.out HGP.out rfl (good_none _ _ _ (by omega)) HR5.out (by simp) rfl, ?_⟩
          simp [intOf]; omega
        · go_wp2_with (at_builtin; go_must (refine wpList_pushP rfl _ _ rfl ps [⟨_, [], _⟩] _ _ (HCL.out _ _) rfl rfl (HL5.out _ _) HROW.out ?_; intro v5 w5 HR5))
          refine ⟨cut_next (d := 0) hlt ha HPL.out HJ.out HGP.out rfl (good_none _ _ _ (by omega)) HR5.out (by simp) rfl, ?_⟩
          simp [intOf]; omega
    · have hd : decide ((k : Int) < (cs.length : Int)) = false := by simp; omega
      have hkl : k = cs.length := by omega
      go_upto_region 18 with fail
      have hpl4 : ps.length ≤ 40 := by have := HPL.out; omega
      have HPL4 := Lib.hid hpl4
      clear hpl4 hkl hd hlt hk
      go_cut [7] from 16 (fun v wr2 => CutE w xs v wr2)
      case first =>
        have hl5 : ∀ z : Option Addr, ∀ (l : List UInt8) (c : Nat), ps.length + [(⟨none, [], 0⟩ : Part), ⟨z, l, c⟩].length ≤ 5000 := by intro _ _ _; have := HPL4.out; simp; omega
        have HL5 := Lib.hid hl5
        have hxc : xs.length ≤ pc := HGB.out.1
        have hcm : pc ≤ maxLen := HGB.out.2.1
        have l0 : (a : Int) ≤ (xs.length : Int) := by omega
        clear hl5
        by_cases hl : a < xs.length
        · obtain ⟨g2, o2, rfl, hg2, hs2⟩ := HGB.out.2.2 (by show 0 < xs.length; omega)
          have HS2 := Lib.hid hs2
          have l3 : ¬ pc = a := by omega
          have hlen : (xs.drop a).length = xs.length - a := by rw [List.length_drop]
          have hcl : #[Value.slice none 0 0, Value.slice (some ⟨g2, o2 + a, none⟩) (xs.length - a) (pc - a)] = (List.map Part.val [⟨none, [], 0⟩, ⟨some ⟨g2, o2 + a, none⟩, xs.drop a, pc - a⟩]).toArray := by simp [Part.val]
          have HCL := Lib.hid hcl
          clear hcl hlen hs2
          go_wp2_with (at_builtin; go_must (refine wpList_pushP rfl _ _ rfl ps [⟨none, [], 0⟩, ⟨some ⟨g2, o2 + a, none⟩, xs.drop a, pc - a⟩] _ _ HCL.out rfl rfl (HL5.out _ _ _) HROW.out ?_; intro v5 w5 HR5))
          go_meet
          case rel =>
            have hgd := good_cut HGB.out a (xs.length - a) (by omega) hg2 HS2.out
            rw [List.take_of_length_le (by rw [List.length_drop]; exact Nat.le_refl _)] at hgd
            exact cut_end HPL4.out HJ.out HGP.out rfl (good_none _ _ _ (Nat.zero_le _)) rfl hgd HR5.out
        · have hax : a = xs.length := by omega
          have hxa : xs.length - a = 0 := by omega
          have hdr : [] = xs.drop a := by rw [hax, List.drop_length]
          have HCL : Hid (∀ (z : Option Addr) (c : Nat), #[Value.slice none 0 0, Value.slice z 0 c] = (List.map Part.val [⟨none, [], 0⟩, ⟨z, [], c⟩]).toArray) := Lib.hid (fun _ _ => rfl)
          have HAX := Lib.hid (And.intro hax hdr)
          clear hax hl hdr
          by_cases hpc : pc = a
          · subst hpc
            go_wp2_with (at_builtin; go_must (refine wpList_pushP rfl _ _ rfl ps [⟨none, [], 0⟩, ⟨_, [], _⟩] _ _ (HCL.out _ _) rfl rfl (HL5.out _ _ _) HROW.out ?_; intro v5 w5 HR5))
            go_meet
            case rel => exact cut_end HPL4.out HJ.out HGP.out rfl (good_none _ _ _ (Nat.zero_le _)) HAX.out.2 (good_none _ _ _ (by omega)) HR5.out
          · go_wp2_with (at_builtin; go_must (refine wpList_pushP rfl _ _ rfl ps [⟨none, [], 0⟩, ⟨_, [], _⟩] _ _ (HCL.out _ _) rfl rfl (HL5.out _ _ _) HROW.out ?_; intro v5 w5 HR5))
            go_meet
            case rel => exact cut_end HPL4.out HJ.out HGP.out rfl (good_none _ _ _ (Nat.zero_le _)) HAX.out.2 (good_none _ _ _ (by omega)) HR5.out
      case rest =>
        clear HROW HGP HJ HPL
        obtain ⟨qs, g7, c7, rfl, q1, q2, q3, q4, q5⟩ := hcut
        have hbw : Below w.heap.size w wc := q5.2
        have h1n : 1 < w.heap.size := Lies.lt HC.out
        have hof := of_any qs wc (some ⟨g7, 0, none⟩) c7 (by unfold maxLen; omega) (fun p hp => (q4 p hp).below hbw) (fun _ => ⟨g7, 0, rfl, (q5.1.lt g7 rfl).2, q5.psrc⟩) (by rw [q3]; omega) (Lies.below HS.out hbw (by omega)) (Lies.below HC.out hbw h1n)
        rw [q3] at hof
        have HOF := Lib.hid hof
        have HBW := Lib.hid hbw
        have H1N := Lib.hid h1n
        clear hof hbw h1n q3 q4 q5 q1 q2
        have hl32 : (sha xs).length = 32 := rfl
        have heq := equal_same (sha xs) hl32
        have hgu := guard27
        clear hl32
        go_wp2_with fail
        refine HOF.out.mono ?_
        rintro e w6 ⟨rfl, hb6⟩
        have HB6 := Lib.hid (HBW.out.trans (hb6.mono HBW.out.size))
        clear hb6 HOF
        go_wp2_with fail
        refine (of_bytes w6 pa xs pc (by omega) (HGB.out.below HB6.out) (Lies.below HS.out HB6.out (by have := H1N.out; omega)) (Lies.below HC.out HB6.out H1N.out)).mono ?_
        rintro e w7 ⟨rfl, hb7⟩
        have HB7 := Lib.hid (HB6.out.trans (hb7.mono HB6.out.size))
        clear hb7 HB6
        generalize sha xs = X at heq ⊢
        go_wp2_with fail
        have hm2 : (m : Int) ≤ 40 := by omega
        go_loopw [12, 13] (fun f n wr => FindI w m f n wr) (fun _ n _ => m - (intOf n).toNat)
        case atStart =>
          refine ⟨1, decide ((m : Int) < 2), rfl, rfl, .inl rfl, ?_, HB7.out⟩
          by_cases h : m < 2
          · left; simp; omega
          · right; exact ⟨by omega, (powB_bounds m (by omega)).1⟩
        case round =>
          obtain ⟨n, b, rfl, rfl, hp, hbn, hbw⟩ := hrel
          have HP := Lib.hid hp
          have HBN := Lib.hid hbn
          have HBW2 := Lib.hid hbw
          have n64 : n ≤ 64 := by omega
          have n1 : 1 ≤ n := by omega
          clear hp hbn hbw HB7
          by_cases h1 : n < m
          · have i1 : (n : Int) < (m : Int) := by omega
            by_cases h2 : n * 2 < m
            · have i2 : (n : Int) * 2 < (m : Int) := by omega
              go_wp2_with fail
              have hnx := find_more hm HP.out h2
              refine ⟨⟨n * 2, b, rfl, rfl, hnx.1, .inr hnx.2, HBW2.out⟩, ?_⟩
              simp [intOf]; omega
            · have i2 : ¬ (n : Int) * 2 < (m : Int) := by omega
              have i3 : (m : Int) ≤ (n : Int) * 2 := by omega
              obtain ⟨g3, o3, rfl, hg3, hs3⟩ := HSRC.out (by omega)
              have hpw := find_last hm HP.out h1 (by omega)
              have hroot := root_more m F (by omega)
              rw [hpw] at hroot
              have HS3 := Lib.hid hs3
              have HROOT := Lib.hid hroot
              clear hs3 hroot hpw
              have hlc : lc ≤ 9223372036854775807 := by unfold maxLen at hlc2; omega
              have n3 : n ≤ m := by omega
              have n4 : n ≤ lc := by omega
              have n5 : ¬ lc = n := by omega
              have n6 : (n : Int) ≤ (lc : Int) := by omega
              have n7 : (n : Int) ≤ (m : Int) := by omega
              have c1 : ∀ W, Below wr.heap.size wr W → Calls Tryd.prog 14 #[.slice (some ⟨g3, o3, none⟩) n lc] W fun e w' => e = .returned (.agg (B8 (root n (F.take (32 * n))))) ∧ Below W.heap.size W w' := by
                intro W hB
                have hB2 := HBW2.out.trans (hB.mono HBW2.out.size)
                exact root_any n (F.take (32 * n)) W _ lc (by omega) (by rw [List.length_take, HF.out]; omega) n4 hlc2 (fun _ => ⟨g3, o3, rfl, Nat.lt_of_lt_of_le hg3 hB2.size, (HS3.out.take _).below hB2 hg3⟩) (Lies.below HS.out hB2 (by have := H1N.out; omega)) (Lies.below HC.out hB2 H1N.out)
              have c2 : ∀ W, Below wr.heap.size wr W → Calls Tryd.prog 14 #[.slice (some ⟨g3, o3 + n * 32, none⟩) (m - n) (lc - n)] W fun e w' => e = .returned (.agg (B8 (root (m - n) (F.drop (32 * n))))) ∧ Below W.heap.size W w' := by
                intro W hB
                have hB2 := HBW2.out.trans (hB.mono HBW2.out.size)
                exact root_any (m - n) (F.drop (32 * n)) W _ (lc - n) (by omega) (by rw [List.length_drop, HF.out]; omega) (by omega) (by omega) (fun _ => ⟨g3, o3 + n * 32, rfl, Nat.lt_of_lt_of_le hg3 hB2.size, (by rw [Nat.mul_comm n 32]; exact (HS3.out.drop _).below hB2 hg3)⟩) (Lies.below HS.out hB2 (by have := H1N.out; omega)) (Lies.below HC.out hB2 H1N.out)
              have c3 : ∀ W, Below w.heap.size w W → Calls Tryd.prog 14 #[.slice (some ⟨g3, o3, none⟩) m lc] W fun e w' => e = .returned (.agg (B8 (root m F))) ∧ Below W.heap.size W w' := by
                intro W hB2
                exact root_any m F W _ lc (by omega) HF.out hlc1 hlc2 (fun _ => ⟨g3, o3, rfl, Nat.lt_of_lt_of_le hg3 hB2.size, HS3.out.below hB2 hg3⟩) (Lies.below HS.out hB2 (by have := H1N.out; omega)) (Lies.below HC.out hB2 H1N.out)
              have hR1 := root_length n (F.take (32 * n))
              have hR2 := root_length (m - n) (F.drop (32 * n))
              generalize root n (F.take (32 * n)) = R1 at c1 HROOT hR1
              generalize root (m - n) (F.drop (32 * n)) = R2 at c2 HROOT hR2
              rw [HROOT.out] at c3
              have C1 := Lib.hid c1
              have C2 := Lib.hid c2
              have C3 := Lib.hid c3
              have L1 := Lib.hid hR1
              have L2 := Lib.hid hR2
              clear c1 c2 c3 hR1 hR2 HROOT heq
              go_upto_region 26 with fail
              refine wp_region_any (by kernel_rfl) ?_
              change wpAny _ _ _ _ _ _ _ (World.drew wr)
              refine wpAny_takeTo (i := 0) (v := .slice (some ⟨g3, o3, none⟩) m lc) rfl 94 rfl (by kernel_rfl) (by kernel_rfl) (by kernel_rfl) (fun _ _ _ h => h) rfl ?_ #[true, false, false, false, false, false, false, false, false, false, false, false] (by kernel_rfl) ?_
              · intro w; go_simp
              simp only [Act.put, List.setIfInBounds_toArray, List.set_cons_zero, List.set_cons_succ]
              refine wpAny_takeTo (i := 1) (v := .int .i64 n) rfl 95 rfl (by kernel_rfl) (by kernel_rfl) (by kernel_rfl) (fun _ _ _ h => h) rfl ?_ #[true, true, false, false, false, false, false, false, false, false, false, false] (by kernel_rfl) ?_
              · intro w; go_simp
              simp only [Act.put, List.setIfInBounds_toArray, List.set_cons_zero, List.set_cons_succ]
              refine wpAny_takeTo (i := 2) (v := .slice (some ⟨g3, o3, none⟩) n lc) rfl 96 rfl (by kernel_rfl) (by kernel_rfl) (by kernel_rfl) (fun _ _ _ h => h) rfl ?_ #[true, true, true, false, false, false, false, false, false, false, false, false] (by kernel_rfl) ?_
              · intro w; go_simp
              simp only [Act.put, List.setIfInBounds_toArray, List.set_cons_zero, List.set_cons_succ]
              refine wpAny_takeTo (i := 4) (v := .slice (some ⟨g3, o3, none⟩) m lc) rfl 98 rfl (by kernel_rfl) (by kernel_rfl) (by kernel_rfl) (fun _ _ _ h => h) rfl ?_ #[true, true, true, false, true, false, false, false, false, false, false, false] (by kernel_rfl) ?_
              · intro w; go_simp
              simp only [Act.put, List.setIfInBounds_toArray, List.set_cons_zero, List.set_cons_succ]
              refine wpAny_takeTo (i := 5) (v := .int .i64 n) rfl 99 rfl (by kernel_rfl) (by kernel_rfl) (by kernel_rfl) (fun _ _ _ h => h) rfl ?_ #[true, true, true, false, true, true, false, false, false, false, false, false] (by kernel_rfl) ?_
              · intro w; go_simp
              simp only [Act.put, List.setIfInBounds_toArray, List.set_cons_zero, List.set_cons_succ]
              refine wpAny_takeTo (i := 6) (v := .slice (some ⟨g3, o3 + n * 32, none⟩) (m - n) (lc - n)) rfl 100 rfl (by kernel_rfl) (by kernel_rfl) (by kernel_rfl) (fun _ _ _ h => h) rfl ?_ #[true, true, true, false, true, true, true, false, false, false, false, false] (by kernel_rfl) ?_
              · intro w; go_simp
              simp only [Act.put, List.setIfInBounds_toArray, List.set_cons_zero, List.set_cons_succ]
              refine pair_any wr R1 R2 L1.out L2.out _ 97 101 14 15 (by decide) (by decide) (by decide) (by decide) (by decide) (by decide) (by show (97 : Nat) < 111; decide) (by show (101 : Nat) < 111; decide) (by show (14 : Nat) < 111; decide) (by show (15 : Nat) < 111; decide)
                14 #[.slice (some ⟨g3, o3, none⟩) n lc] #[.slice (some ⟨g3, o3 + n * 32, none⟩) (m - n) (lc - n)] _ _ _ _ _ _ rfl rfl rfl (fun _ _ _ _ _ => by kernel_rfl) rfl rfl rfl (fun _ _ _ _ _ => by kernel_rfl) rfl rfl rfl rfl rfl rfl rfl rfl rfl rfl rfl rfl rfl rfl rfl rfl ?hr ?hc1 ?hc2 ?hQ wr.drew (Below.refl _ _).drew
              case hr => exact PairReady.of (by kernel_rfl)
              case hc1 => exact C1.out
              case hc2 => exact C2.out
              intro gx gy w8 b1 b2 hne y1 y2 hb
              simp only [put4, Act.put, List.setIfInBounds_toArray, List.set_cons_zero, List.set_cons_succ]
              have Y1 := Lib.hid y1
              have Y2 := Lib.hid y2
              have HB8 := Lib.hid (HBW2.out.trans (hb.mono HBW2.out.size))
              clear y1 y2 hb b1 b2 hne C1 C2 HBW2
              go_upto_region 27 with fail
              refine wp_region_any (by kernel_rfl) ?_
              change wpAny _ _ _ _ _ _ _ (World.drew w8)
              refine wpAny_takeTo (i := 0) (v := .slice (some ⟨g3, o3, none⟩) m lc) rfl 102 rfl (by kernel_rfl) (by kernel_rfl) (by kernel_rfl) (fun _ _ _ h => h) rfl ?_ #[true, false, false, false, false, false, false, false, false] (by kernel_rfl) ?_
              · intro w; go_simp
              simp only [Act.put, List.setIfInBounds_toArray, List.set_cons_zero, List.set_cons_succ]
              refine wpAny_takeTo (i := 3) (v := .slice (some ⟨gx, 0, none⟩) 32 32) rfl 105 rfl (by kernel_rfl) (by kernel_rfl) (by kernel_rfl) (fun _ _ _ h => h) rfl ?_ #[true, false, false, true, false, false, false, false, false] (by kernel_rfl) ?_
              · intro w; go_simp
              simp only [Act.put, List.setIfInBounds_toArray, List.set_cons_zero, List.set_cons_succ]
              refine wpAny_takeTo (i := 4) (v := .slice (some ⟨gy, 0, none⟩) 32 32) rfl 106 rfl (by kernel_rfl) (by kernel_rfl) (by kernel_rfl) (fun _ _ _ h => h) rfl ?_ #[true, false, false, true, true, false, false, false, false] (by kernel_rfl) ?_
              · intro w; go_simp
              simp only [Act.put, List.setIfInBounds_toArray, List.set_cons_zero, List.set_cons_succ]
              refine trio_any w8 (sha (2 :: (R1 ++ R2))) R1 R2 gx gy L1.out L2.out _ 103 104 107 108 (by decide) (by decide) (by decide) (by decide) (by decide) (by decide) Y1.out Y2.out
                (Lies.below HS.out HB8.out (by have := H1N.out; omega)) (Lies.below HC.out HB8.out H1N.out) 14 #[.slice (some ⟨g3, o3, none⟩) m lc] _ _ _ _
                rfl rfl rfl (fun _ _ _ _ _ => by kernel_rfl) rfl rfl rfl (fun _ _ _ _ _ => by kernel_rfl) rfl rfl rfl (fun _ _ _ _ _ => by kernel_rfl) rfl rfl rfl (fun _ _ _ _ _ => by kernel_rfl)
                (by kernel_rfl) (by kernel_rfl) (by kernel_rfl) (by kernel_rfl) (by kernel_rfl) (by kernel_rfl) ?hk1 ?hkQ w8.drew (Below.refl _ _).drew
              case hk1 => exact fun W hW => C3.out W (HB8.out.trans (hW.mono HB8.out.size))
              intro v2 v3 w9 hb9
              simp only [put4, Act.put, List.setIfInBounds_toArray, List.set_cons_zero, List.set_cons_succ]
              have heq2 := equal_same (sha (2 :: (R1 ++ R2))) rfl
              have HB9 := Lib.hid (HB8.out.trans (hb9.mono HB8.out.size))
              clear hb9 HB8 C3 Y1 Y2
              generalize sha (2 :: (R1 ++ R2)) = X2 at heq2 ⊢
              refine wpAny_valueTo (i := 7) rfl rfl 109 rfl (by kernel_rfl) #[true, true, true, true, true, true, true, true, false] (by kernel_rfl) (.bool true) w9 ?_ ?_
              · go_simp
              simp only [Act.put, List.setIfInBounds_toArray, List.set_cons_zero, List.set_cons_succ]
              refine wpAny_valueTo (i := 8) rfl rfl 12 rfl (by kernel_rfl) #[true, true, true, true, true, true, true, true, true] (by kernel_rfl) (.bool true) w9 ?_ ?_
              · go_simp
              simp only [Act.put, List.setIfInBounds_toArray, List.set_cons_zero, List.set_cons_succ]
              refine wpAny_done (by kernel_rfl) ?_ _
              clear heq2
              go_wp2_with fail
              have hp2 := HP.out
              refine ⟨⟨n * 2, true, rfl, rfl, by omega, .inl rfl, HB9.out⟩, ?_⟩
              simp [intOf]; omega
          · have i1 : ¬ (n : Int) < (m : Int) := by omega
            have hb1 : b = true := by
              rcases HBN.out with h | ⟨h, h'⟩
              · exact h
              · have := (powB_bounds m h).2; omega
            subst hb1
            go_wp2_with fail
            go_ret
            exact ⟨rfl, HBW2.out⟩
end Go.Proofs.YtccfdobogbiomaaDoor
