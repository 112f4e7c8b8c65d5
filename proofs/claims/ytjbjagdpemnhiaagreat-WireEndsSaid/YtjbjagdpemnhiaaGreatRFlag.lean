/-
  A reader's Flag, not met; Text of no bytes.
-/
import Derived.Test.YtjbjagdpemnhiaaGreatRNums
namespace Go.Proofs.YtjbjagdpemnhiaaGreat
open Go.RowKit

theorem upto_bad (W : World) (g k : Nat) (xs : List UInt8) (c a : Nat) (m : Int) (s : Nat) (h : Rdr W g k xs c a false) (ha : a ≤ xs.length) (hs : s ≤ 7) (hm : xs.length < a + s ∨ m < beVal ((xs.drop a).take s)) (h0 : 0 < s := by omega) :
    Calls Tryz.prog 70 #[.pointer (some ⟨g, 0, none⟩), .int .i64 m, .int .i64 s] W fun e W' => Unmet e ∧ (∃ a', Rdr W' g k xs c a' false) ∧ Only g W W' none := by
  by_cases hh : xs.length < a + s
  · exact (upto_short W g k xs c a h ha m s hh).mono fun e W' hh => ⟨hh.1, ⟨a, h.below hh.2⟩, only_below hh.2⟩
  · exact (upto_great W g k xs c a h m s hs (by omega) (by omega)).mono fun e W' hh => ⟨hh.1, ⟨_, hh.2.1⟩, hh.2.2⟩
set_option maxRecDepth 100000 in
theorem flag1_bad (W : World) (p g k : Nat) (xs : List UInt8) (c a : Nat) (hp : W.cell? ⟨p, 0, none⟩ = some (.pointer (some ⟨g, 0, none⟩))) (h : Rdr W g k xs c a false) (ha : a ≤ xs.length)
    (hm : xs.length < a + 1 ∨ (1 : Int) < beVal ((xs.drop a).take 1)) :
    Calls Tryz.prog 75 #[.pointer (some ⟨p, 0, none⟩)] W fun e W' => Unmet e ∧ (∃ a', Rdr W' g k xs c a' false) ∧ Only g W W' none := by
  have HU := Lib.hid (upto_bad W g k xs c a 1 1 h ha (by omega) hm)
  clear h hm
  go_enter Tryz.func75, Tryz.ntmps75
  go_wp2_with fail
  refine HU.out.mono ?_
  rintro e w1 ⟨⟨v, rfl⟩, hr⟩
  have HR := Lib.hid hr
  clear hr
  go_wp2_with fail
  exact ⟨rfl, ⟨_, rfl⟩, HR.out⟩
set_option maxRecDepth 100000 in
theorem flag_bad (w : World) (g k : Nat) (xs : List UInt8) (c a : Nat) (h : Rdr w g k xs c a false) (ha : a ≤ xs.length) (hm : xs.length < a + 1 ∨ (1 : Int) < beVal ((xs.drop a).take 1)) :
    Calls Tryz.prog 21 #[.pointer (some ⟨g, 0, none⟩)] w fun e w' => e = .returned (.bool false) ∧ Rdr w' g k xs c a true ∧ Only g w w' none := by
  have hmf : ∀ (fn : Fn) (first cap : Array Value) (w : World), (Instr.makeFunc fn first cap).run Tryz.prog w = .ok (.func fn first cap) w := fun _ _ _ _ => rfl
  obtain ⟨hr, hb⟩ := rdr_one h (.pointer (some ⟨g, 0, none⟩)) 44
  have ht := tell85_unmet _ g k xs c a 75 #[.pointer (some ⟨w.heap.size, 0, none⟩)] hr (callK 75 Tryz.f75 Tryz.func75 (by kernel_rfl) (by kernel_rfl) _)
    (fun W hW hR => flag1_bad W _ g k xs c a (by rw [hW.cell (p := ⟨w.heap.size, 0, none⟩) (by simp)]; simp [go_sem]) hR ha hm)
  have HT := Lib.hid ht
  have HB := Lib.hid hb
  clear ht hb hr h hm
  go_enter Tryz.func21, Tryz.ntmps21
  go_wp2_with fail
  refine HT.out.mono ?_
  rintro e w1 ⟨rfl, hr, ho⟩
  have HR := Lib.hid (And.intro hr ((only_below HB.out).trans0 ho))
  clear hr ho
  go_wp2_with fail
  go_ret
  exact ⟨rfl, HR.out⟩
end Go.Proofs.YtjbjagdpemnhiaaGreat
