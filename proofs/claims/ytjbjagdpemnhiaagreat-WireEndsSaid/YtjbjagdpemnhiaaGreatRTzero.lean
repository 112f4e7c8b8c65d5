/-
  A reader's Text of no bytes, met.
-/
import Derived.Test.YtjbjagdpemnhiaaGreatRRaw
namespace Go.Proofs.YtjbjagdpemnhiaaGreat
open Go.RowKit

set_option maxRecDepth 100000 in
theorem text1_zero (W : World) (p q g k : Nat) (xs : List UInt8) (c a : Nat) (m : Int) (hp : W.cell? ⟨p, 0, none⟩ = some (.pointer (some ⟨g, 0, none⟩))) (hq : W.cell? ⟨q, 0, none⟩ = some (.int .i64 m)) (hpl : p < W.heap.size) (hql : q < W.heap.size) (hpg : p ≠ g) (hqg : q ≠ g) (h : Rdr W g k xs c a false)
    (hn : a + 2 ≤ xs.length) (hv : beVal ((xs.drop a).take 2) = 0) (hm : 0 ≤ m) :
    Calls Tryz.prog 72 #[.pointer (some ⟨p, 0, none⟩), .pointer (some ⟨q, 0, none⟩)] W fun e W' => e = .returned (.string ⟨#[]⟩) ∧ Rdr W' g k xs c (a + 2) false ∧ Only g W W' none := by
  have hu : ∀ V, Rdr V g k xs c a false → Calls Tryz.prog 70 #[.pointer (some ⟨g, 0, none⟩), .int .i64 m, .int .i64 2] V fun e V' => e = .returned (.int .i64 0) ∧ Rdr V' g k xs c (a + 2) false ∧ Only g V V' none := fun V hV => by
    have := upto_good V g k xs c a hV m 2 (by omega) (by omega) (by rw [hv]; exact hm)
    rwa [hv] at this
  have hx : ∀ V, Rdr V g k xs c (a + 2) false → Calls Tryz.prog 73 #[.pointer (some ⟨g, 0, none⟩), .int .i64 0] V fun e V' => ∃ off c', e = .returned (.slice (some ⟨k, off, none⟩) 0 c') ∧ Rdr V' g k xs c (a + 2) false ∧ Only g V V' none := fun V hV => (next_good V g k xs c (a + 2) hV 0 (by omega) (hV.notNil (by omega))).mono fun e V' hh => by
    obtain ⟨off, c', he, _, h1, h2⟩ := hh
    exact ⟨off, c', he, h1, h2⟩
  have hts : ∀ V, V.cell? ⟨p, 0, none⟩ = some (.pointer (some ⟨g, 0, none⟩)) → V.cell? ⟨q, 0, none⟩ = some (.int .i64 m) →
      V.cell? ⟨p, 0, none⟩ = some (.pointer (some ⟨g, 0, none⟩)) ∧ V.cell? ⟨q, 0, none⟩ = some (.int .i64 m) ∧ (∀ off c', (convert 26 9 (.slice (some ⟨k, off, none⟩) 0 c')).run Tryz.prog V = .ok (.string ⟨#[]⟩) V) := fun V h1 h2 => ⟨h1, h2, fun off c' => str_none V k off c'⟩
  have HU := Lib.hid hu
  have HX := Lib.hid hx
  have HT := Lib.hid hts
  have hbd : Below W.heap.size W W.drew := (Below.refl _ _).drew
  have hd := h.below hbd
  have HBD := Lib.hid hbd
  have HR := Lib.hid hd
  clear hu hx hts hv hm hd hbd h
  go_enter Tryz.func72, Tryz.ntmps72
  go_wp2_with fail
  go_region_held3 (fun w' => w'.cell? ⟨p, 0, none⟩ = some (.pointer (some ⟨g, 0, none⟩)) ∧ w'.cell? ⟨q, 0, none⟩ = some (.int .i64 m) ∧ (∀ off c', (convert 26 9 (.slice (some ⟨k, off, none⟩) 0 c')).run Tryz.prog w' = .ok (.string ⟨#[]⟩) w')) (exact HT.out _ (by assumption) (by assumption)) (first
    | ((with_reducible refine (HU.out _ HR.out).mono ?_); rintro e w1 ⟨rfl, hr1, ho1⟩; have g1 := (ho1.cell (o := 0) hpl hpg).trans hp; have g2 := (ho1.cell (o := 0) hql hqg).trans hq)
    | ((with_reducible refine (HX.out _ hr1).mono ?_); rintro e w2 ⟨off, c', rfl, hr2, ho2⟩; have k1 := (ho2.cell (o := 0) (Nat.lt_of_lt_of_le hpl ho1.size) hpg).trans g1; have k2 := (ho2.cell (o := 0) (Nat.lt_of_lt_of_le hql ho1.size) hqg).trans g2))
  all_goals
    go_wp2_with fail
    go_ret
    exact ⟨rfl, hr2, ((only_below HBD.out).trans0 ho1).trans0 ho2⟩
set_option maxRecDepth 100000 in
theorem rtext_zero (w : World) (g k : Nat) (xs : List UInt8) (c a : Nat) (m : Int) (h : Rdr w g k xs c a false)
    (hn : a + 2 ≤ xs.length) (hv : beVal ((xs.drop a).take 2) = 0) (hm : 0 ≤ m) :
    Calls Tryz.prog 20 #[.pointer (some ⟨g, 0, none⟩), .int .i64 m] w fun e w' => e = .returned (.string ⟨#[]⟩) ∧ Rdr w' g k xs c (a + 2) false ∧ Only g w w' none := by
  have hmf : ∀ (fn : Fn) (first cap : Array Value) (w : World), (Instr.makeFunc fn first cap).run Tryz.prog w = .ok (.func fn first cap) w := fun _ _ _ _ => rfl
  have hgl := h.1.lt
  obtain ⟨hr, hb⟩ := rdr_pair h (.pointer (some ⟨g, 0, none⟩)) (.int .i64 m) 44 3
  have ht := tell83_met _ g k xs c a (a + 2) (.string ⟨#[]⟩) 72 #[.pointer (some ⟨w.heap.size, 0, none⟩), .pointer (some ⟨w.heap.size + 1, 0, none⟩)] hr (callK 72 Tryz.f72 Tryz.func72 (by kernel_rfl) (by kernel_rfl) _)
    (fun W hW hR => text1_zero W w.heap.size (w.heap.size + 1) g k xs c a m (by rw [hW.cell (p := ⟨w.heap.size, 0, none⟩) (by simp; omega)]; simp [go_sem]) (by rw [hW.cell (p := ⟨w.heap.size + 1, 0, none⟩) (by simp)]; simp [go_sem])
      (by have := hW.size; simp at this; omega) (by have := hW.size; simp at this; omega) (by omega) (by omega) hR hn hv hm)
  have HT := Lib.hid ht
  have HB := Lib.hid hb
  clear ht hb hr h hv hm
  go_enter Tryz.func20, Tryz.ntmps20
  go_wp2_with fail
  refine HT.out.mono ?_
  rintro e w1 ⟨rfl, hr, ho⟩
  have HR := Lib.hid (And.intro hr ((only_below HB.out).trans0 ho))
  clear hr ho
  go_wp2_with fail
  go_ret
  exact ⟨rfl, HR.out⟩
end Go.Proofs.YtjbjagdpemnhiaaGreat
