/-
  SumRoots: any hashes.
-/
import Derived.Test.YtccfdobogbiomaaDoorKeptH
import Derived.Test.YtccfdobogbiomaaDoorAwake
namespace Go.Proofs.YtccfdobogbiomaaDoor
open Go.RowKit Sha

theorem OwnH.below {w w' : World} {n c k : Nat} {l : List UInt8} (h : OwnH w n c k l) (hb : Below w.heap.size w w') : OwnH w' n c k l := by
  refine ⟨h.1, ?_⟩
  rcases h.2 with ⟨e, _⟩ | ⟨g', cap, cur, e, h0, h1, h2⟩
  · cases e
  · cases e
    exact .inr ⟨n, c, cur, rfl, h0, (hb.block n (Array.getElem?_eq_some_iff.1 h1).1).trans h1, h2⟩

set_option maxRecDepth 100000 in
set_option maxHeartbeats 2000000 in
theorem roots_any (m : Nat) (F : List UInt8) (w : World) (v : Option Addr) (cap : Nat) (hF : F.length = 32 * m) (hc1 : m ≤ cap) (hc2 : cap ≤ maxLen) (hneat : v = none → m = 0 ∧ cap = 0)
    (hsrc : 0 < m → ∃ g off, v = some ⟨g, off, none⟩ ∧ g < w.heap.size ∧ Src w g off F) (hs : Starts w) (hc : Cubes w) :
    Calls Tryd.prog 4 #[.slice v m cap] w fun e w' => e = .returned (.bool true) ∧ Below w.heap.size w w' := by
  have HS := Lib.hid hs
  have HC := Lib.hid hc
  by_cases hover : 40 < m
  · have d1 : (40 : Int) < (m : Int) := by omega
    clear hs hc hsrc hneat hF hc1 hc2 hover
    go_enter Tryd.func4, Tryd.ntmps4
    go_wp2_with fail
    refine (awake_any w HS.out HC.out).mono ?_
    rintro e w1 ⟨rfl, hb1⟩
    go_wp2_with fail
    go_ret
    exact ⟨rfl, hb1⟩
  · have d1 : ¬ (40 : Int) < (m : Int) := by omega
    have hm : m ≤ 40 := by omega
    have h1n : 1 < w.heap.size := Lies.lt hc
    have HF := Lib.hid hF
    have HSRC := Lib.hid hsrc
    have HN := Lib.hid hneat
    have hrl := root_length m F
    have heq := equal_same (root m F) hrl
    have hgu := guard27
    clear hs hc hsrc hneat hF hover
    go_enter Tryd.func4, Tryd.ntmps4
    go_wp2_with fail
    refine (lenth_any m F v cap w hm HF.out HN.out HSRC.out).mono ?_
    rintro e w2 ⟨n, c, rfl, o1, o2, hb2⟩
    obtain ⟨os, on, oc1, oc2⟩ := o1.src
    have HO := Lib.hid o1
    have HB2 := Lib.hid hb2
    have hsr2 : Src w2 n 0 F := fun j hj => by
      rw [os j (by rw [List.length_append]; omega), List.getD_eq_getElem?_getD, List.getElem?_append_left hj, ← List.getD_eq_getElem?_getD]
    have hroot := root_any m F w2 (some ⟨n, 0, none⟩) c hm HF.out (by omega) oc2 (fun _ => ⟨n, 0, rfl, on, hsr2⟩) (Lies.below HS.out hb2 (by omega)) (Lies.below HC.out hb2 h1n)
    have HROOT := Lib.hid hroot
    clear o1 o2 hb2 os on oc1 oc2 hsr2 hroot hrl
    go_wp2_with fail
    refine HROOT.out.mono ?_
    rintro e w3 ⟨rfl, hb3⟩
    have HB3 := Lib.hid (HB2.out.trans (hb3.mono HB2.out.size))
    have HO3 := Lib.hid (HO.out.below hb3)
    clear hb3 HO HB2 HROOT
    go_wp2_with fail
    refine (refroot_any m F w3 v cap hm HF.out hc1 hc2 (fun hp => by
      obtain ⟨g, off, e, hg, h⟩ := HSRC.out hp
      exact ⟨g, off, e, Nat.lt_of_lt_of_le hg HB3.out.size, h.below HB3.out hg⟩)).mono ?_
    rintro e w4 ⟨rfl, hb4⟩
    have HB4 := Lib.hid (HB3.out.trans (hb4.mono HB3.out.size))
    have HO4 := Lib.hid (HO3.out.below hb4)
    clear hb4 HO3 HB3
    generalize root m F = X at heq ⊢
    go_wp2_with fail
    refine (kepth_any m F v cap n c w4 hm HF.out (fun hp => by
      obtain ⟨g, off, e, hg, h⟩ := HSRC.out hp
      exact ⟨g, off, e, Nat.lt_of_lt_of_le hg HB4.out.size, h.below HB4.out hg⟩) HO4.out).mono ?_
    rintro e w5 ⟨rfl, hb5⟩
    have HB5 := Lib.hid (HB4.out.trans (hb5.mono HB4.out.size))
    clear hb5 HO4 HB4
    go_wp2_with fail
    refine (awake_any w5 (Lies.below HS.out HB5.out (by omega)) (Lies.below HC.out HB5.out h1n)).mono ?_
    rintro e w6 ⟨rfl, hb6⟩
    have HB6 := Lib.hid (HB5.out.trans (hb6.mono HB5.out.size))
    clear hb6
    go_wp2_with fail
    go_ret
    exact ⟨rfl, HB6.out⟩
end Go.Proofs.YtccfdobogbiomaaDoor
