/-
  Rows of bundles, and of assets, as they come in, with their room.
-/
import Derived.Test.YtjngghihciimjaaGreatJVmc
import Derived.Test.YtjngghihciimjaaGreatJAt
import Derived.WalkKit
import Derived.ProofKit
import Derived.OpenShut
import Derived.Carry
import Derived.SizedLaws
import Derived.Deep.Slices
import Derived.ChangeSlices
namespace Go.Proofs.YtjngghihciimjaaGreat
set_option maxRecDepth 100000
open Go.RowKit Go.Sort
def cntA (l : List As) : Nat := (l.map fun a => 1 + a.nm.2.length / 16).sum
theorem cntA_take {l : List As} {k : Nat} {a : As} (h : l[k]? = some a) : cntA (l.take (k + 1)) = cntA (l.take k) + (1 + a.nm.2.length / 16) := by
 unfold cntA
 rw [List.take_add_one, h, List.map_append, List.sum_append]
 simp
theorem cntA_len : ∀ l : List As, l.length ≤ cntA l
  | [] => Nat.zero_le _
  | a :: l => by
    have h := cntA_len l
    unfold cntA at h ⊢
    simp only [List.map_cons, List.sum_cons, List.length_cons]
    omega
theorem cntA_mem : ∀ {l : List As} {a : As}, a ∈ l → a.nm.2.length / 16 ≤ cntA l
  | b :: l, a, h => by
    unfold cntA
    simp only [List.map_cons, List.sum_cons]
    rcases List.mem_cons.1 h with rfl | h
    · omega
    · have := cntA_mem h
      unfold cntA at this
      omega
def CntRes (x : Nat) (lim B : Int) (e : Ending) : Prop := ∃ n : Nat, e = .returned (.int .i64 n) ∧ (n : Int) ≤ B ∧ ((n : Int) ≤ lim → n = x)
set_option maxHeartbeats 4000000 in
theorem assetsX_any (w : World) (pa : Option Addr) (l : List As) (c : Nat) (lim : Int) (h : Row w pa l) (hlim : lim ≤ 1000000) :
  Calls Tryz.prog 130 #[.slice pa l.length c, .int .i64 lim] w fun e w' => CntRes (cntA l) lim 600000000000000000 e ∧ Below w.heap.size w w' := by
 have hli : (l.length : Int) ≤ 9223372036854775807 := by have := h.1; unfold maxLen at this; omega
 have H := Lib.hid (And.intro h hlim)
 clear h hlim
 go_enter Tryz.func130, Tryz.ntmps130
 go_wp2_with fail
 go_loopw [5, 6] (fun s i W => ∃ (k n : Nat), k ≤ l.length ∧ s = .int .i64 n ∧ i = .int .i64 k ∧ Below w.heap.size w W ∧ n = cntA (l.take k) ∧ (n : Int) ≤ 600000000000000000) (fun _ i _ => l.length - (intOf i).toNat)
 case atStart => exact ⟨0, 0, Nat.zero_le _, rfl, rfl, Below.refl _ _, rfl, by omega⟩
 case round =>
  obtain ⟨k, n, hk, rfl, rfl, hb, hcn, hn0⟩ := hrel
  by_cases hlt : k < l.length
  ·
   have m1 : (k : Int) < (l.length : Int) := by omega
   have m0 : (0 : Int) ≤ (k : Int) := by omega
   by_cases hn : (n : Int) ≤ lim
   ·
    obtain ⟨g, off, rfl, hg, hh⟩ := H.out.1.2.2 (by omega)
    obtain ⟨a, ha⟩ : ∃ a, a = l[k] := ⟨_, rfl⟩
    have hka : l[k]? = some a := by rw [ha, List.getElem?_eq_getElem hlt]
    have oka := H.out.1.2.1 a (List.mem_of_getElem? hka)
    have c32 := (hh.below hb hg) k a hka 32 (.string (txt a.nm.2)) (by rw [Array.getElem?_toList]; exact asC_txt a oka.1)
    have hts := txt_size a.nm.2
    have ht := oka.2.1
    have hl := H.out.2
    have hnx : n + (1 + (txt a.nm.2).size / 16) = cntA (l.take (k + 1)) := by rw [cntA_take hka, ← hcn, hts]
    generalize txt a.nm.2 = tv at c32 hts hnx
    have hti : (tv.size : Int) ≤ 9223372036854775807 := by unfold maxLen at ht; omega
    obtain ⟨z, hz⟩ : ∃ z, z = tv.size / 16 := ⟨_, rfl⟩
    have hzl : z ≤ 576460752303423488 := by omega
    have hdiv : Int.tdiv (tv.size : Int) 16 = (z : Int) := by rw [hz]; rfl
    have hw1 : IntKind.i64.wrap ((n : Int) + 1) = (n : Int) + 1 := by rw [IntKind.wrap_i64]; omega
    have hwz : IntKind.i64.wrap (z : Int) = (z : Int) := by rw [IntKind.wrap_i64]; omega
    have hw2 : IntKind.i64.wrap ((n : Int) + 1 + (z : Int)) = (n : Int) + 1 + (z : Int) := by rw [IntKind.wrap_i64]; omega
    rw [← hz] at hnx
    have hnl : ((n + (1 + z) : Nat) : Int) ≤ 600000000000000000 := by omega
    have HR := Lib.hid (And.intro hb (And.intro hlt (And.intro hnx hnl)))
    clear ha hka oka hg hh hb hlt hk hts ht hcn hl hz hzl hnx hn0 hnl
    go_wp2_with fail
    have e1 : (k : Int) + 1 = ((k + 1 : Nat) : Int) := by omega
    have e2 : (n : Int) + 1 + (z : Int) = ((n + (1 + z) : Nat) : Int) := by omega
    rw [e1, e2]
    refine ⟨⟨k + 1, n + (1 + z), HR.out.2.1, rfl, rfl, HR.out.1, HR.out.2.2.1, HR.out.2.2.2⟩, ?_⟩
    have h := HR.out.2.1
    show l.length - (k + 1) < l.length - k
    omega
   ·
    have HB := Lib.hid (And.intro hb (And.intro hn0 hn))
    clear hb hlt hk hcn hn0
    go_wp2_with fail
    go_ret
    exact ⟨⟨n, rfl, HB.out.2.1, fun h => absurd h (by have := HB.out.2.2; omega)⟩, HB.out.1⟩
  ·
   have m1 : ¬ (k : Int) < (l.length : Int) := by omega
   have hkl : k = l.length := by omega
   subst hkl
   rw [List.take_length] at hcn
   have HB := Lib.hid (And.intro hb (And.intro hn0 hcn))
   clear hb hlt hk hcn hn0
   go_wp2_with fail
   go_ret
   exact ⟨⟨n, rfl, HB.out.2.1, fun _ => HB.out.2.2⟩, HB.out.1⟩
def cntV (v : Va) : Nat := 1 + cntA v.l
set_option maxHeartbeats 1000000 in
theorem valueX_any (w : World) (x : Int) (pa : Option Addr) (l : List As) (c : Nat) (lim : Int) (h : Row w pa l) (hlim : lim ≤ 1000000) :
  Calls Tryz.prog 84 #[.agg #[.int .i64 x, .slice pa l.length c], .int .i64 lim] w fun e w' => CntRes (1 + cntA l) lim 600000000000000001 e ∧ Below w.heap.size w w' := by
 have hli : (l.length : Int) ≤ 9223372036854775807 := by have := h.1; unfold maxLen at this; omega
 have hb1 : Below w.heap.size w (w.alloc (.cells #[.int .i64 x, .slice pa l.length c] 24)) := (Below.refl _ _).alloc (Nat.le_refl _) _
 have hL : Lies (w.alloc (.cells #[.int .i64 x, .slice pa l.length c] 24)) w.heap.size #[.int .i64 x, .slice pa l.length c] 24 := Lies.new _ _ _
 have hC := assetsX_any _ pa l c lim (h.below hb1 (Nat.le_refl _)) hlim
 have H := Lib.hid (And.intro hC (And.intro hb1 hlim))
 have c0 := hL.cell 0 (v := .int .i64 x) rfl
 have c1 := hL.cell 1 (v := .slice pa l.length c) rfl
 clear h hC hb1 hL hlim
 go_enter Tryz.func84, Tryz.ntmps84
 go_wp2_with fail
 refine H.out.1.mono ?_
 rintro e w2 ⟨⟨n, rfl, hn0, hn⟩, hb2⟩
 have hw : IntKind.i64.wrap (1 + (n : Int)) = 1 + (n : Int) := by rw [IntKind.wrap_i64]; omega
 have HB := Lib.hid (And.intro (H.out.2.1.trans (hb2.mono H.out.2.1.size)) (And.intro hn0 hn))
 clear hb2 c0 c1 hn0 hn
 go_wp2_with fail
 go_ret
 have h0 := HB.out.2.1
 have h1 := HB.out.2.2
 have hl := H.out.2.2
 refine ⟨⟨1 + n, by push_cast; rfl, by omega, fun h => by have := h1 (by omega); omega⟩, HB.out.1⟩
def cntVs (vs : List Va) : Nat := (vs.map cntV).sum
theorem cntVs_take {vs : List Va} {k : Nat} {v : Va} (h : vs[k]? = some v) : cntVs (vs.take (k + 1)) = cntVs (vs.take k) + cntV v := by
 unfold cntVs
 rw [List.take_add_one, h, List.map_append, List.sum_append]
 simp
set_option maxHeartbeats 4000000 in
theorem valuesX_any (w : World) (pa : Option Addr) (vs : List Va) (c : Nat) (lim : Int) (h : RowV w pa vs) (hlim : lim ≤ 1000000) :
  Calls Tryz.prog 48 #[.slice pa vs.length c, .int .i64 lim] w fun e w' => CntRes (cntVs vs) lim 600000000002000000 e ∧ Below w.heap.size w w' := by
 have hli : (vs.length : Int) ≤ 9223372036854775807 := by have := h.1; unfold maxLen at this; omega
 have H := Lib.hid (And.intro h hlim)
 clear h hlim
 go_enter Tryz.func48, Tryz.ntmps48
 go_wp2_with fail
 go_loopw [5, 6] (fun s i W => ∃ (k n : Nat), k ≤ vs.length ∧ s = .int .i64 n ∧ i = .int .i64 k ∧ Below w.heap.size w W ∧ (n : Int) ≤ 600000000002000000 ∧ ((n : Int) ≤ lim → n = cntVs (vs.take k))) (fun _ i _ => vs.length - (intOf i).toNat)
 case atStart => exact ⟨0, 0, Nat.zero_le _, rfl, rfl, Below.refl _ _, by omega, fun _ => rfl⟩
 case round =>
  obtain ⟨k, n, hk, rfl, rfl, hb, hn0, hcn⟩ := hrel
  by_cases hlt : k < vs.length
  ·
   have m1 : (k : Int) < (vs.length : Int) := by omega
   have m0 : (0 : Int) ≤ (k : Int) := by omega
   by_cases hn : (n : Int) ≤ lim
   ·
    obtain ⟨g, off, rfl, hg, hh⟩ := H.out.1.2 (by omega)
    obtain ⟨v, hv⟩ : ∃ v, v = vs[k] := ⟨_, rfl⟩
    have hkv : vs[k]? = some v := by rw [hv, List.getElem?_eq_getElem hlt]
    have hvv := hh.below hb hg (Nat.le_refl _) k v hkv
    have c0 := hvv.1 0 (.int .i64 v.coin) rfl
    have c1 := hvv.1 1 (.slice v.pa v.l.length v.c) rfl
    have hcall : ∀ W, Below w.heap.size w W → Calls Tryz.prog 84 #[.agg #[.int .i64 v.coin, .slice v.pa v.l.length v.c], .int .i64 lim] W fun e w' => CntRes (cntV v) lim 600000000000000001 e ∧ Below W.heap.size W w' := fun W hW =>
     valueX_any W v.coin v.pa v.l v.c lim ((hh k v hkv).2.2.2.below hW (Nat.le_refl _)) H.out.2
    have HC := Lib.hid hcall
    have HR := Lib.hid (And.intro hb (And.intro hlt (And.intro hkv (And.intro (hcn hn) hn))))
    rw [Nat.add_zero] at c0
    clear hv hkv hvv hcall hg hh hb hlt hk hcn hn0
    go_wp2_with fail
    refine (HC.out _ HR.out.1).mono ?_
    rintro e w2 ⟨⟨m, rfl, hm0, hm⟩, hb2⟩
    have hl := H.out.2
    have hw : IntKind.i64.wrap ((n : Int) + (m : Int)) = (n : Int) + (m : Int) := by rw [IntKind.wrap_i64]; omega
    have hbd : ((n + m : Nat) : Int) ≤ 600000000002000000 := by omega
    have HB2 := Lib.hid (And.intro (HR.out.1.trans (hb2.mono HR.out.1.size)) (And.intro hm hbd))
    clear hb2 c0 c1 hm hm0 hl hbd
    go_wp2_with fail
    have e1 : (k : Int) + 1 = ((k + 1 : Nat) : Int) := by omega
    have e2 : (n : Int) + (m : Int) = ((n + m : Nat) : Int) := by omega
    rw [e1, e2]
    refine ⟨⟨k + 1, n + m, HR.out.2.1, rfl, rfl, HB2.out.1, HB2.out.2.2, fun h => ?_⟩, ?_⟩
    ·
     rw [cntVs_take HR.out.2.2.1, ← HR.out.2.2.2.1, HB2.out.2.1 (by omega)]
    ·
     have h := HR.out.2.1
     show vs.length - (k + 1) < vs.length - k
     omega
   ·
    have HB := Lib.hid (And.intro hb (And.intro hn0 hn))
    clear hb hlt hk hcn hn0
    go_wp2_with fail
    go_ret
    exact ⟨⟨n, rfl, HB.out.2.1, fun h => absurd h (by have := HB.out.2.2; omega)⟩, HB.out.1⟩
  ·
   have m1 : ¬ (k : Int) < (vs.length : Int) := by omega
   have hkl : k = vs.length := by omega
   subst hkl
   rw [List.take_length] at hcn
   have HB := Lib.hid (And.intro hb (And.intro hn0 hcn))
   clear hb hlt hk hcn hn0
   go_wp2_with fail
   go_ret
   exact ⟨⟨n, rfl, HB.out.2.1, HB.out.2.2⟩, HB.out.1⟩
def GreatX (rs : List Vr) (e : Ending) : Prop := ∃ b, e = .returned (.bool b) ∧ (b = false → (rs.map fun r => cntVs r.vs).sum ≤ 200)
def cntRs (rs : List Vr) : Nat := (rs.map fun r => cntVs r.vs).sum
theorem cntRs_take {rs : List Vr} {k : Nat} {r : Vr} (h : rs[k]? = some r) : cntRs (rs.take (k + 1)) = cntRs (rs.take k) + cntVs r.vs := by
 unfold cntRs
 rw [List.take_add_one, h, List.map_append, List.sum_append]
 simp
set_option maxHeartbeats 4000000 in
theorem greatX_any (w : World) (pa : Option Addr) (rs : List Vr) (c : Nat) (h : RowR w pa rs) (h10 : rs.length ≤ 10) :
  Calls Tryz.prog 7 #[.slice pa rs.length c] w fun e w' => GreatX rs e ∧ Below w.heap.size w w' := by
 have hli : (rs.length : Int) ≤ 9223372036854775807 := by omega
 have H := Lib.hid (And.intro h h10)
 clear h h10
 go_enter Tryz.func7, Tryz.ntmps7
 go_wp2_with fail
 go_loopw [3, 4] (fun s i W => ∃ (k n : Nat), k ≤ rs.length ∧ s = .int .i64 n ∧ i = .int .i64 k ∧ Below w.heap.size w W ∧ n ≤ 600000000002000000 * k ∧ (n ≤ 200 → cntRs (rs.take k) = n)) (fun _ i _ => rs.length - (intOf i).toNat)
 case atStart => exact ⟨0, 0, Nat.zero_le _, rfl, rfl, Below.refl _ _, by omega, fun _ => rfl⟩
 case round =>
  obtain ⟨k, n, hk, rfl, rfl, hb, hn0, hcn⟩ := hrel
  by_cases hlt : k < rs.length
  ·
   have m1 : (k : Int) < (rs.length : Int) := by omega
   have m0 : (0 : Int) ≤ (k : Int) := by omega
   obtain ⟨g, off, rfl, hg, hh⟩ := H.out.1.2 (by omega)
   obtain ⟨r, hr⟩ : ∃ r, r = rs[k] := ⟨_, rfl⟩
   have hkr : rs[k]? = some r := by rw [hr, List.getElem?_eq_getElem hlt]
   have c0 := (hb.cell (p := ⟨g, off + k, none⟩) hg).trans (hh k r hkr).1
   have HC := Lib.hid (fun W (hW : Below w.heap.size w W) => valuesX_any W r.pa r.vs r.c 200 ((hh k r hkr).2.below hW (Nat.le_refl _)) (by decide))
   have HR := Lib.hid (And.intro hb (And.intro hlt (And.intro hkr (And.intro hcn hn0))))
   clear hr hkr hg hh hb hlt hk hcn hn0
   go_wp2_with fail
   refine (HC.out _ (by first | exact HR.out.1 | exact HR.out.1.drew)).mono ?_
   rintro e w2 ⟨⟨m, rfl, hm0, hm⟩, hb2⟩
   have h0 := HR.out.2.2.2.2
   have hl := HR.out.2.1
   have h10 := H.out.2
   have hw : IntKind.i64.wrap ((n : Int) + (m : Int)) = (n : Int) + (m : Int) := by rw [IntKind.wrap_i64]; omega
   have hbd : n + m ≤ 600000000002000000 * (k + 1) := by omega
   have HB2 := Lib.hid (And.intro (HR.out.1.trans (hb2.mono HR.out.1.size)) (And.intro hm hbd))
   clear hb2 c0 hm hm0 h0 hl h10 hbd
   go_wp2_with fail
   have e1 : (k : Int) + 1 = ((k + 1 : Nat) : Int) := by omega
   have e2 : (n : Int) + (m : Int) = ((n + m : Nat) : Int) := by omega
   rw [e1, e2]
   refine ⟨⟨k + 1, n + m, HR.out.2.1, rfl, rfl, HB2.out.1, HB2.out.2.2, fun h => ?_⟩, ?_⟩
   ·
    rw [cntRs_take HR.out.2.2.1, HR.out.2.2.2.1 (by omega), HB2.out.2.1 (by omega)]
   ·
    have h := HR.out.2.1
    show rs.length - (k + 1) < rs.length - k
    omega
  ·
   have m1 : ¬ (k : Int) < (rs.length : Int) := by omega
   have hkl : k = rs.length := by omega
   subst hkl
   rw [List.take_length] at hcn
   have HB := Lib.hid (And.intro hb hcn)
   clear hb hlt hk hcn hn0
   by_cases hq : n ≤ 200
   ·
    have hq1 : ¬ (200 : Int) < (n : Int) := by omega
    go_wp2_with fail
    go_ret
    exact ⟨⟨_, rfl, fun _ => by have := HB.out.2 hq; unfold cntRs at this; omega⟩, HB.out.1⟩
   ·
    have hq1 : (200 : Int) < (n : Int) := by omega
    go_wp2_with fail
    go_ret
    exact ⟨⟨_, rfl, fun h => by simp at h⟩, HB.out.1⟩
end Go.Proofs.YtjngghihciimjaaGreat
namespace Go.Proofs.YtjngghihciimjaaGreat
set_option maxRecDepth 100000
open Go.ChangeShapes Go.WideShapes Go.ChangeAt Go.RowKit Go.Deep
theorem dc2 : Tryz.prog.cellsOf 2 = 1 := by kernel_rfl
section
variable {H : Type} {enc : TypeId × Value → H} {W : World}
end
end Go.Proofs.YtjngghihciimjaaGreat
namespace Go.Proofs.YtjngghihciimjaaGreat
set_option maxRecDepth 100000
open Go.RowKit Go.Sort Go.Maps Go.ChangeShapes Go.WideShapes Go.ChangeAt Go.Deep
section
variable {H : Type} {enc : TypeId × Value → H} {W : World}
def Room (v : Va) : Prop := v.pa = none → v.c = 0
end
end Go.Proofs.YtjngghihciimjaaGreat
