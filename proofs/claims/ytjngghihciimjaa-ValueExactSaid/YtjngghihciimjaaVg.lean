/-
  How much work is it? Some number comes back, and nothing old turns.
-/
import Derived.Test.YtjngghihciimjaaVs
namespace Go.Proofs.Ytjngghihciimjaa
set_option maxRecDepth 100000
open Go.RowKit Go.Sort

set_option maxHeartbeats 4000000 in
theorem assetsOf_any (w : World) (pa : Option Addr) (l : List As) (c : Nat) (lim : Int) (h : Row w pa l) :
    Calls Try.prog 50 #[.slice pa l.length c, .int .i64 lim] w fun e w' => (∃ n, e = .returned (.int .i64 n)) ∧ Below w.heap.size w w' := by
  have hli : (l.length : Int) ≤ 9223372036854775807 := by have := h.1; unfold maxLen at this; omega
  have H := Lib.hid h
  clear h
  go_enter Try.func50, Try.ntmps50
  go_wp2_with fail
  go_loopw [5, 6] (fun s i W => ∃ (k : Nat) (n : Int), k ≤ l.length ∧ s = .int .i64 n ∧ i = .int .i64 k ∧ Below w.heap.size w W) (fun _ i _ => l.length - (intOf i).toNat)
  case atStart => exact ⟨0, 0, Nat.zero_le _, rfl, rfl, Below.refl _ _⟩
  case round =>
    obtain ⟨k, n, hk, rfl, rfl, hb⟩ := hrel
    by_cases hlt : k < l.length
    · have m1 : (k : Int) < (l.length : Int) := by omega
      have m0 : (0 : Int) ≤ (k : Int) := by omega
      by_cases hn : n ≤ lim
      · obtain ⟨g, off, rfl, hg, hh⟩ := H.out.2.2 (by omega)
        obtain ⟨a, ha⟩ : ∃ a, a = l[k] := ⟨_, rfl⟩
        have hka : l[k]? = some a := by rw [ha, List.getElem?_eq_getElem hlt]
        have oka := H.out.2.1 a (List.mem_of_getElem? hka)
        have c32 := (hh.below hb hg) k a hka 32 (.string (txt a.nm.2)) (by rw [Array.getElem?_toList]; exact asC_txt a oka.1)
        have hts := txt_size a.nm.2
        have ht := oka.2.1
        have HR := Lib.hid (And.intro hb hlt)
        generalize txt a.nm.2 = tv at c32 hts
        have hti : (tv.size : Int) ≤ 9223372036854775807 := by unfold maxLen at ht; omega
        clear ha hka oka hg hh hb hlt hk hts ht
        go_wp2_with fail
        have e1 : (k : Int) + 1 = ((k + 1 : Nat) : Int) := by omega
        rw [e1]
        refine ⟨⟨k + 1, _, HR.out.2, rfl, rfl, HR.out.1⟩, ?_⟩
        have h := HR.out.2
        show l.length - (k + 1) < l.length - k
        omega
      · have HB := Lib.hid hb
        clear hb hlt hk
        go_wp2_with fail
        go_ret
        exact ⟨⟨n, rfl⟩, HB.out⟩
    · have m1 : ¬ (k : Int) < (l.length : Int) := by omega
      have HB := Lib.hid hb
      clear hb hlt hk
      go_wp2_with fail
      go_ret
      exact ⟨⟨n, rfl⟩, HB.out⟩
set_option maxHeartbeats 1000000 in
theorem valueOf_any (w : World) (x : Int) (pa : Option Addr) (l : List As) (c : Nat) (lim : Int) (h : Row w pa l) :
    Calls Try.prog 40 #[.agg (vC x pa l.length c), .int .i64 lim] w fun e w' => (∃ n, e = .returned (.int .i64 n)) ∧ Below w.heap.size w w' := by
  have hli : (l.length : Int) ≤ 9223372036854775807 := by have := h.1; unfold maxLen at this; omega
  have hb1 : Below w.heap.size w (w.alloc (.cells (vC x pa l.length c) 24)) := (Below.refl _ _).alloc (Nat.le_refl _) _
  have hL : Lies (w.alloc (.cells (vC x pa l.length c) 24)) w.heap.size (vC x pa l.length c) 24 := Lies.new _ _ _
  have hC := assetsOf_any _ pa l c lim (h.below hb1 (Nat.le_refl _))
  have H := Lib.hid (And.intro hC hb1)
  have c0 := hL.cell 0 (v := .int .i64 x) rfl
  have c1 := hL.cell 1 (v := .slice pa l.length c) rfl
  clear h hC hb1 hL
  unfold vC
  unfold vC at H c0 c1
  go_enter Try.func40, Try.ntmps40
  go_wp2_with fail
  refine H.out.1.mono ?_
  rintro e w2 ⟨⟨n, rfl⟩, hb2⟩
  have HB := Lib.hid (H.out.2.trans (hb2.mono H.out.2.size))
  clear hb2 c0 c1
  go_wp2_with fail
  go_ret
  exact ⟨⟨_, rfl⟩, HB.out⟩
/-- A bundle: its number, its row. -/
structure Va where
  coin : Int
  pa : Option Addr
  l : List As
  c : Nat
def vaC (v : Va) : Array Value := vC v.coin v.pa v.l.length v.c
theorem vaC_size (v : Va) : (vaC v).size = 2 := rfl
theorem vaC_one (v : Va) : (vaC v).all (·.oneCell') = true := by simp [vaC, vC, Value.oneCell']
theorem info_value : (Try.prog.info? 24).map (·.size) = some 2 := by kernel_rfl
/-- The number has 64 bits, the row lies in memory. -/
def VaOk (w : World) (v : Va) : Prop := -9223372036854775808 ≤ v.coin ∧ v.coin < 9223372036854775808 ∧ Row w v.pa v.l
/-- Bundles lie one behind the other. -/
def HasV (w : World) (g off : Nat) (vs : List Va) : Prop := ∀ (i : Nat) (v : Va), vs[i]? = some v → w.rangeAt g (off + i * 2) (vaC v).toList ∧ VaOk w v
theorem HasV.below {B : Nat} {w w' : World} {g off : Nat} {vs : List Va} (h : HasV w g off vs) (hb : Below B w w') (hg : g < B) (hB : w.heap.size ≤ B) : HasV w' g off vs :=
  fun i v hi => ⟨fun j x hj => (hb.cell (p := ⟨g, off + i * 2 + j, none⟩) hg).trans ((h i v hi).1 j x hj), (h i v hi).2.1, (h i v hi).2.2.1, (h i v hi).2.2.2.below hb hB⟩
def RowV (w : World) (pa : Option Addr) (vs : List Va) : Prop := vs.length ≤ maxLen ∧ (0 < vs.length → ∃ g off, pa = some ⟨g, off, none⟩ ∧ g < w.heap.size ∧ HasV w g off vs)
theorem RowV.below {B : Nat} {w w' : World} {pa : Option Addr} {vs : List Va} (h : RowV w pa vs) (hb : Below B w w') (hB : w.heap.size ≤ B) : RowV w' pa vs :=
  ⟨h.1, fun hl => by
    obtain ⟨g, off, e, hg, hh⟩ := h.2 hl
    exact ⟨g, off, e, Nat.lt_of_lt_of_le hg hb.size, hh.below hb (Nat.lt_of_lt_of_le hg hB) hB⟩⟩
set_option maxHeartbeats 4000000 in
theorem valuesOf_any (w : World) (pa : Option Addr) (vs : List Va) (c : Nat) (lim : Int) (h : RowV w pa vs) :
    Calls Try.prog 21 #[.slice pa vs.length c, .int .i64 lim] w fun e w' => (∃ n, e = .returned (.int .i64 n)) ∧ Below w.heap.size w w' := by
  have hli : (vs.length : Int) ≤ 9223372036854775807 := by have := h.1; unfold maxLen at this; omega
  have H := Lib.hid h
  clear h
  go_enter Try.func21, Try.ntmps21
  go_wp2_with fail
  go_loopw [5, 6] (fun s i W => ∃ (k : Nat) (n : Int), k ≤ vs.length ∧ s = .int .i64 n ∧ i = .int .i64 k ∧ Below w.heap.size w W) (fun _ i _ => vs.length - (intOf i).toNat)
  case atStart => exact ⟨0, 0, Nat.zero_le _, rfl, rfl, Below.refl _ _⟩
  case round =>
    obtain ⟨k, n, hk, rfl, rfl, hb⟩ := hrel
    by_cases hlt : k < vs.length
    · have m1 : (k : Int) < (vs.length : Int) := by omega
      have m0 : (0 : Int) ≤ (k : Int) := by omega
      by_cases hn : n ≤ lim
      · obtain ⟨g, off, rfl, hg, hh⟩ := H.out.2 (by omega)
        obtain ⟨v, hv⟩ : ∃ v, v = vs[k] := ⟨_, rfl⟩
        have hkv : vs[k]? = some v := by rw [hv, List.getElem?_eq_getElem hlt]
        have hvv := hh.below hb hg (Nat.le_refl _) k v hkv
        have c0 := hvv.1 0 (.int .i64 v.coin) rfl
        have c1 := hvv.1 1 (.slice v.pa v.l.length v.c) rfl
        have hcall : ∀ W, Below w.heap.size w W → Calls Try.prog 40 #[.agg #[.int .i64 v.coin, .slice v.pa v.l.length v.c], .int .i64 lim] W fun e w' => (∃ n, e = .returned (.int .i64 n)) ∧ Below W.heap.size W w' := fun W hW =>
          valueOf_any W v.coin v.pa v.l v.c lim ((hh k v hkv).2.2.2.below hW (Nat.le_refl _))
        have HC := Lib.hid hcall
        have HR := Lib.hid (And.intro hb hlt)
        rw [Nat.add_zero] at c0
        clear hv hkv hvv hcall hg hh hb hlt hk
        go_wp2_with fail
        refine (HC.out _ HR.out.1).mono ?_
        rintro e w2 ⟨⟨m, rfl⟩, hb2⟩
        have HB2 := Lib.hid (HR.out.1.trans (hb2.mono HR.out.1.size))
        clear hb2 c0 c1
        go_wp2_with fail
        have e1 : (k : Int) + 1 = ((k + 1 : Nat) : Int) := by omega
        rw [e1]
        refine ⟨⟨k + 1, _, HR.out.2, rfl, rfl, HB2.out⟩, ?_⟩
        have h := HR.out.2
        show vs.length - (k + 1) < vs.length - k
        omega
      · have HB := Lib.hid hb
        clear hb hlt hk
        go_wp2_with fail
        go_ret
        exact ⟨⟨n, rfl⟩, HB.out⟩
    · have m1 : ¬ (k : Int) < (vs.length : Int) := by omega
      have HB := Lib.hid hb
      clear hb hlt hk
      go_wp2_with fail
      go_ret
      exact ⟨⟨n, rfl⟩, HB.out⟩
/-- A row of bundles: where, which, its room. -/
structure Vr where
  pa : Option Addr
  vs : List Va
  c : Nat
def RowR (w : World) (pa : Option Addr) (rs : List Vr) : Prop := rs.length ≤ maxLen ∧ (0 < rs.length → ∃ g off, pa = some ⟨g, off, none⟩ ∧ g < w.heap.size ∧ ∀ (i : Nat) (r : Vr), rs[i]? = some r → w.cell? ⟨g, off + i, none⟩ = some (.slice r.pa r.vs.length r.c) ∧ RowV w r.pa r.vs)
def SomeB (e : Ending) : Prop := ∃ b, e = .returned (.bool b)
set_option maxHeartbeats 4000000 in
theorem great_any (w : World) (pa : Option Addr) (rs : List Vr) (c : Nat) (h : RowR w pa rs) :
    Calls Try.prog 6 #[.slice pa rs.length c] w fun e w' => SomeB e ∧ Below w.heap.size w w' := by
  have hli : (rs.length : Int) ≤ 9223372036854775807 := by have := h.1; unfold maxLen at this; omega
  have H := Lib.hid h
  clear h
  go_enter Try.func6, Try.ntmps6
  go_wp2_with fail
  go_loopw [3, 4] (fun s i W => ∃ (k : Nat) (n : Int), k ≤ rs.length ∧ s = .int .i64 n ∧ i = .int .i64 k ∧ Below w.heap.size w W) (fun _ i _ => rs.length - (intOf i).toNat)
  case atStart => exact ⟨0, 0, Nat.zero_le _, rfl, rfl, Below.refl _ _⟩
  case round =>
    obtain ⟨k, n, hk, rfl, rfl, hb⟩ := hrel
    by_cases hlt : k < rs.length
    · have m1 : (k : Int) < (rs.length : Int) := by omega
      have m0 : (0 : Int) ≤ (k : Int) := by omega
      obtain ⟨g, off, rfl, hg, hh⟩ := H.out.2 (by omega)
      obtain ⟨r, hr⟩ : ∃ r, r = rs[k] := ⟨_, rfl⟩
      have hkr : rs[k]? = some r := by rw [hr, List.getElem?_eq_getElem hlt]
      have c0 := (hb.cell (p := ⟨g, off + k, none⟩) hg).trans (hh k r hkr).1
      have HC := Lib.hid (fun W (hW : Below w.heap.size w W) => valuesOf_any W r.pa r.vs r.c 200 ((hh k r hkr).2.below hW (Nat.le_refl _)))
      have HR := Lib.hid (And.intro hb hlt)
      clear hr hkr hg hh hb hlt hk
      go_wp2_with fail
      refine (HC.out _ (by first | exact HR.out.1 | exact HR.out.1.drew)).mono ?_
      rintro e w2 ⟨⟨m, rfl⟩, hb2⟩
      have HB2 := Lib.hid (HR.out.1.trans ((by first | exact hb2 | exact hb2 : Below wr.heap.size wr w2).mono HR.out.1.size))
      clear hb2 c0
      go_wp2_with fail
      have e1 : (k : Int) + 1 = ((k + 1 : Nat) : Int) := by omega
      rw [e1]
      refine ⟨⟨k + 1, _, HR.out.2, rfl, rfl, HB2.out⟩, ?_⟩
      have h := HR.out.2
      show rs.length - (k + 1) < rs.length - k
      omega
    · have m1 : ¬ (k : Int) < (rs.length : Int) := by omega
      have HB := Lib.hid hb
      clear hb hlt hk
      go_wp2_with fail
      go_ret
      exact ⟨⟨_, rfl⟩, HB.out⟩
end Go.Proofs.Ytjngghihciimjaa
