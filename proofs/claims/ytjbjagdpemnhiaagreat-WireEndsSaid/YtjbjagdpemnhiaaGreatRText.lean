/-
  A reader's Text, met.
-/
import Derived.Test.YtjbjagdpemnhiaaGreatAsks
namespace Go.Proofs.YtjbjagdpemnhiaaGreat
open Go.RowKit

theorem str_of_src {W : World} {k off c : Nat} {l : List UInt8} (h : Src W k off l) : (convert 26 9 (.slice (some ⟨k, off, none⟩) l.length c)).run Tryz.prog W = .ok (.string ⟨l.toArray⟩) W :=
  run_convert_bytes_back W 26 9 5 ⟨k, off, none⟩ c l Tryz.underlying26 Tryz.underlying5 Tryz.underlying9 (fun j hj => by
    rw [Addr.add_mid, h j hj]
    simp [hj])
theorem str_none (w : World) (k off c : Nat) : (convert 26 9 (.slice (some ⟨k, off, none⟩) 0 c)).run Tryz.prog w = .ok (.string ⟨#[]⟩) w :=
  str_of_src (l := []) (fun j hj => absurd hj (by simp))
set_option maxRecDepth 100000 in
theorem text1_some (W : World) (p q g k : Nat) (xs : List UInt8) (c a : Nat) (m : Int) (n : Nat) (ys : List UInt8) (hp : W.cell? ⟨p, 0, none⟩ = some (.pointer (some ⟨g, 0, none⟩))) (hq : W.cell? ⟨q, 0, none⟩ = some (.int .i64 m)) (hpl : p < W.heap.size) (hql : q < W.heap.size) (hpg : p ≠ g) (hqg : q ≠ g) (h : Rdr W g k xs c a false)
    (hn : a + 2 + n ≤ xs.length) (h0 : 0 < n) (hv : beVal ((xs.drop a).take 2) = n) (hm : (n : Int) ≤ m) (hys : (xs.drop (a + 2)).take n = ys) :
    Calls Tryz.prog 72 #[.pointer (some ⟨p, 0, none⟩), .pointer (some ⟨q, 0, none⟩)] W fun e W' => e = .returned (.string ⟨ys.toArray⟩) ∧ Rdr W' g k xs c (a + 2 + n) false ∧ Only g W W' none := by
  have hyl : ys.length = n := by rw [← hys, List.length_take, List.length_drop]; omega
  have hu : ∀ V, Rdr V g k xs c a false → Calls Tryz.prog 70 #[.pointer (some ⟨g, 0, none⟩), .int .i64 m, .int .i64 2] V fun e V' => e = .returned (.int .i64 n) ∧ Rdr V' g k xs c (a + 2) false ∧ Only g V V' none := fun V hV => by
    have := upto_good V g k xs c a hV m 2 (by omega) (by omega) (by rw [hv]; exact hm)
    rwa [hv] at this
  have hx : ∀ V, Rdr V g k xs c (a + 2) false → Calls Tryz.prog 73 #[.pointer (some ⟨g, 0, none⟩), .int .i64 n] V fun e V' => e = .returned (.slice (some ⟨k, a + 2, none⟩) n (c - (a + 2))) ∧ Rdr V' g k xs c (a + 2 + n) false ∧ Only g V V' none := fun V hV => next_at V g k xs c (a + 2) hV n hn h0
  have hts : ∀ V, V.cell? ⟨p, 0, none⟩ = some (.pointer (some ⟨g, 0, none⟩)) → V.cell? ⟨q, 0, none⟩ = some (.int .i64 m) → Src V k 0 xs →
      V.cell? ⟨p, 0, none⟩ = some (.pointer (some ⟨g, 0, none⟩)) ∧ V.cell? ⟨q, 0, none⟩ = some (.int .i64 m) ∧ (convert 26 9 (.slice (some ⟨k, a + 2, none⟩) n (c - (a + 2)))).run Tryz.prog V = .ok (.string ⟨ys.toArray⟩) V := fun V h1 h2 hs => ⟨h1, h2, by
    have := str_of_src (c := c - (a + 2)) (part_src hs (a + 2) n)
    rwa [hys, hyl] at this⟩
  have HU := Lib.hid hu
  have HX := Lib.hid hx
  have HT := Lib.hid hts
  have hbd : Below W.heap.size W W.drew := (Below.refl _ _).drew
  have hd := h.below hbd
  have HBD := Lib.hid hbd
  have HR := Lib.hid hd
  have hsw : Src W k 0 xs := h.2.1
  clear hu hx hts hv hm hys hyl hd hbd h
  go_enter Tryz.func72, Tryz.ntmps72
  go_wp2_with fail
  go_region_held3 (fun w' => w'.cell? ⟨p, 0, none⟩ = some (.pointer (some ⟨g, 0, none⟩)) ∧ w'.cell? ⟨q, 0, none⟩ = some (.int .i64 m) ∧ (convert 26 9 (.slice (some ⟨k, a + 2, none⟩) n (c - (a + 2)))).run Tryz.prog w' = .ok (.string ⟨ys.toArray⟩) w') (exact HT.out _ (by assumption) (by assumption) (by assumption)) (first
    | ((with_reducible refine (HU.out _ HR.out).mono ?_); rintro e w1 ⟨rfl, hr1, ho1⟩; have g1 := (ho1.cell (o := 0) hpl hpg).trans hp; have g2 := (ho1.cell (o := 0) hql hqg).trans hq; have g3 := hr1.2.1)
    | ((with_reducible refine (HX.out _ hr1).mono ?_); rintro e w2 ⟨rfl, hr2, ho2⟩; have k1 := (ho2.cell (o := 0) (Nat.lt_of_lt_of_le hpl ho1.size) hpg).trans g1; have k2 := (ho2.cell (o := 0) (Nat.lt_of_lt_of_le hql ho1.size) hqg).trans g2; have k3 := hr2.2.1))
  all_goals
    go_wp2_with fail
    go_ret
    exact ⟨rfl, hr2, ((only_below HBD.out).trans0 ho1).trans0 ho2⟩
set_option maxRecDepth 100000 in
theorem rtext_some (w : World) (g k : Nat) (xs : List UInt8) (c a : Nat) (m : Int) (n : Nat) (ys : List UInt8) (h : Rdr w g k xs c a false)
    (hn : a + 2 + n ≤ xs.length) (h0 : 0 < n) (hv : beVal ((xs.drop a).take 2) = n) (hm : (n : Int) ≤ m) (hys : (xs.drop (a + 2)).take n = ys) :
    Calls Tryz.prog 20 #[.pointer (some ⟨g, 0, none⟩), .int .i64 m] w fun e w' => e = .returned (.string ⟨ys.toArray⟩) ∧ Rdr w' g k xs c (a + 2 + n) false ∧ Only g w w' none := by
  have hmf : ∀ (fn : Fn) (first cap : Array Value) (w : World), (Instr.makeFunc fn first cap).run Tryz.prog w = .ok (.func fn first cap) w := fun _ _ _ _ => rfl
  have hgl := h.1.lt
  obtain ⟨hr, hb⟩ := rdr_pair h (.pointer (some ⟨g, 0, none⟩)) (.int .i64 m) 44 3
  have ht := tell83_met _ g k xs c a (a + 2 + n) (.string ⟨ys.toArray⟩) 72 #[.pointer (some ⟨w.heap.size, 0, none⟩), .pointer (some ⟨w.heap.size + 1, 0, none⟩)] hr (callK 72 Tryz.f72 Tryz.func72 (by kernel_rfl) (by kernel_rfl) _)
    (fun W hW hR => text1_some W w.heap.size (w.heap.size + 1) g k xs c a m n ys (by rw [hW.cell (p := ⟨w.heap.size, 0, none⟩) (by simp; omega)]; simp [go_sem]) (by rw [hW.cell (p := ⟨w.heap.size + 1, 0, none⟩) (by simp)]; simp [go_sem])
      (by have := hW.size; simp at this; omega) (by have := hW.size; simp at this; omega) (by omega) (by omega) hR hn h0 hv hm hys)
  have HT := Lib.hid ht
  have HB := Lib.hid hb
  clear ht hb hr h hv hm hys
  go_enter Tryz.func20, Tryz.ntmps20
  go_wp2_with fail
  refine HT.out.mono ?_
  rintro e w1 ⟨rfl, hr, ho⟩
  have HR := Lib.hid (And.intro hr ((only_below HB.out).trans0 ho))
  clear hr ho
  go_wp2_with fail
  go_ret
  exact ⟨rfl, HR.out⟩
end Go.Proofs.YtjbjagdpemnhiaaGreat
