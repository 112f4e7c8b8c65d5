/-
  A reader's Raw, met and not met.
-/
import Derived.Test.YtjbjagdpemnhiaaGreatRFlag
import Derived.Test.YtjbjagdpemnhiaaGreatByt2
namespace Go.Proofs.YtjbjagdpemnhiaaGreat
open Go.RowKit

/-- What is told is met, and is what Q says, whatever it is. -/
def MetQ (K : Nat) (cap : Array Value) (w : World) (g k : Nat) (xs : List UInt8) (c a a' : Nat) (Q : Value → World → Prop) : Prop :=
  ∀ W, Below w.heap.size w W → Rdr W g k xs c a false → Calls Tryz.prog K cap W fun e W' => ∃ v, e = .returned v ∧ Q v W' ∧ Rdr W' g k xs c a' false ∧ Only g W W' none
set_option maxRecDepth 100000 in
theorem tell76_metQ (w : World) (g k : Nat) (xs : List UInt8) (c a a' : Nat) (Q : Value → World → Prop) (K : Nat) (cap : Array Value) (h : Rdr w g k xs c a false) (hK : ∀ w : World, (callFunc K cap).run Tryz.prog w = .ok (.enter K cap) w) (hm : MetQ K cap w g k xs c a a' Q) :
    Calls Tryz.prog 90 #[.pointer (some ⟨g, 0, none⟩), .func (Fn.func K) #[] cap] w fun e w' => ∃ v, e = .returned v ∧ Q v w' ∧ Rdr w' g k xs c a' false ∧ Only g w w' none := by
  have hmf : ∀ (fn : Fn) (first cap : Array Value) (w : World), (Instr.makeFunc fn first cap).run Tryz.prog w = .ok (.func fn first cap) w := fun _ _ _ _ => rfl
  have hb1 : Below w.heap.size w (w.alloc (.cells #[.pointer (some ⟨g, 0, none⟩)] 44)) := (Below.refl _ _).alloc (Nat.le_refl _) _
  have hb2 : Below w.heap.size w ((w.alloc (.cells #[.pointer (some ⟨g, 0, none⟩)] 44)).alloc (.cells #[.int .i64 a] 3)) := hb1.alloc hb1.size _
  have r1 := h.below hb1
  have r2 := h.below hb2
  have ht := tells_self _ g false (r1.1.cell 0 rfl) (r1.1.cell 1 rfl)
  have c3 : (w.alloc (.cells #[.pointer (some ⟨g, 0, none⟩)] 44)).cell? ⟨g, 3, none⟩ = some (.int .i64 a) := r1.1.cell 3 rfl
  have hcl := hm _ hb2 r2
  have HT := Lib.hid ht
  have HC := Lib.hid hcl
  have HB := Lib.hid hb2
  clear ht hcl hm hb1 hb2 r1 r2 h
  go_enter_defers Tryz.func90, Tryz.ntmps90
  go_wp2_with fail
  refine HT.out.mono ?_
  rintro e w1 ⟨rfl, rfl⟩
  go_wp2_with fail
  refine HC.out.mono ?_
  rintro e w2 ⟨v, rfl, hq, hr, ho⟩
  have HR := Lib.hid (And.intro hq (And.intro hr ((only_below HB.out).trans0 ho)))
  clear hq hr ho
  go_wp2_with fail
  refine leaves_cons (f := 101) (args := #[.pointer (some ⟨w.heap.size + 1, 0, none⟩), .pointer (some ⟨w.heap.size, 0, none⟩)]) (by simp) (by simp [go_sem]) ?_
  refine (catch101_idle ⟨w.heap.size + 1, 0, none⟩ ⟨w.heap.size, 0, none⟩ _).mono ?_
  rintro e u' w'' ⟨rfl, rfl, hw⟩
  subst hw
  simp [Leaves, settle, results, Tryz.results90, go_sem]
  exact HR.out
theorem own_lower {w : World} {b b' n : Nat} {e : TypeId} {size : Nat} {v : Value} {xs : List Value} (h : w.ownsRow b e size v n xs) (hb : b' ≤ b) : w.ownsRow b' e size v n xs := by
  obtain ⟨h1, h2 | ⟨g, cap, cur, h2, h3, h4⟩⟩ := h
  · exact ⟨h1, .inl h2⟩
  · exact ⟨h1, .inr ⟨g, cap, cur, h2, Nat.le_trans hb h3, h4⟩⟩
set_option maxRecDepth 100000 in
theorem raw1_good (W : World) (p q g k : Nat) (xs : List UInt8) (c a n : Nat) (hp : W.cell? ⟨p, 0, none⟩ = some (.pointer (some ⟨g, 0, none⟩))) (hq : W.cell? ⟨q, 0, none⟩ = some (.int .i64 n)) (h : Rdr W g k xs c a false) (hn : a + n ≤ xs.length) :
    Calls Tryz.prog 91 #[.pointer (some ⟨p, 0, none⟩), .pointer (some ⟨q, 0, none⟩)] W fun e W' => ∃ v, e = .returned v ∧ W'.ownsRow W.heap.size 5 1 v n (B8 ((xs.drop a).take n)).toList ∧ Rdr W' g k xs c (a + n) false ∧ Only g W W' none := by
  have hlen : ((xs.drop a).take n).length = n := by rw [List.length_take, List.length_drop]; omega
  have hx : n ≤ 2000000 := by have := h.2.2.2.2.1; omega
  by_cases hcn : c = NILC
  · subst hcn
    have hxs := h.2.2.2.2.2.2 rfl
    subst hxs
    obtain rfl : a = 0 := by simp at hn; omega
    obtain rfl : n = 0 := by simp at hn; omega
    have hnx := next_nil W g k h
    have HN := Lib.hid hnx
    have hcl := fun w1 => clone_nil w1
    have HC := Lib.hid hcl
    clear hnx h hcl hlen
    go_enter Tryz.func91, Tryz.ntmps91
    go_wp2_with fail
    refine HN.out.mono ?_
    rintro e w1 ⟨rfl, hr, ho⟩
    have HR := Lib.hid (And.intro hr ho)
    clear hr ho HN
    go_wp2_with fail
    refine (HC.out w1).mono ?_
    rintro e w2 ⟨rfl, rfl⟩
    go_wp2_with fail
    go_ret
    exact ⟨_, rfl, by simpa [B8] using World.ownsRow_nil w1 W.heap.size 5 1, HR.out⟩
  · have hnx := next_good W g k xs c a h n hn hcn
    have HN := Lib.hid hnx
    clear hnx h
    go_enter Tryz.func91, Tryz.ntmps91
    go_wp2_with fail
    refine HN.out.mono ?_
    rintro e w1 ⟨off, c', rfl, hs, hr, ho⟩
    have hcl := clone_any w1 ((xs.drop a).take n) k off c' hs hr.2.2.2.1 (by rw [hlen]; exact hx)
    rw [hlen] at hcl
    have HC := Lib.hid hcl
    have HR := Lib.hid (And.intro hr ho)
    clear hcl hr ho hs HN
    go_wp2_with fail
    refine HC.out.mono ?_
    rintro e w2 ⟨v, rfl, hown, hb⟩
    have hown2 : w2.ownsRow W.heap.size 5 1 v n (B8 ((xs.drop a).take n)).toList := own_lower hown HR.out.2.size
    have HQ := Lib.hid (And.intro hown2 (And.intro (HR.out.1.below hb) (HR.out.2.trans0 (only_below hb))))
    clear hown hown2 hb
    go_wp2_with fail
    go_ret
    exact ⟨v, rfl, HQ.out⟩
set_option maxRecDepth 100000 in
theorem raw1_bad (W : World) (p q g k : Nat) (xs : List UInt8) (c a : Nat) (n : Int) (hp : W.cell? ⟨p, 0, none⟩ = some (.pointer (some ⟨g, 0, none⟩))) (hq : W.cell? ⟨q, 0, none⟩ = some (.int .i64 n)) (h : Rdr W g k xs c a false) (ha : a ≤ xs.length) (hn : n < 0 ∨ (xs.length : Int) - a < n) :
    Calls Tryz.prog 91 #[.pointer (some ⟨p, 0, none⟩), .pointer (some ⟨q, 0, none⟩)] W fun e W' => Unmet e ∧ (∃ a', Rdr W' g k xs c a' false) ∧ Only g W W' none := by
  have hu := (next_bad W g k xs c a h ha n hn).mono (R' := fun e W' => Unmet e ∧ (∃ a', Rdr W' g k xs c a' false) ∧ Only g W W' none) fun e W' hh => ⟨hh.1, ⟨a, h.below hh.2⟩, only_below hh.2⟩
  have HU := Lib.hid hu
  clear h hu hn
  go_enter Tryz.func91, Tryz.ntmps91
  go_wp2_with fail
  refine HU.out.mono ?_
  rintro e w1 ⟨⟨v, rfl⟩, hr⟩
  have HR := Lib.hid hr
  clear hr
  go_wp2_with fail
  exact ⟨rfl, ⟨_, rfl⟩, HR.out⟩
set_option maxRecDepth 100000 in
theorem raw_good (w : World) (g k : Nat) (xs : List UInt8) (c a n : Nat) (h : Rdr w g k xs c a false) (hn : a + n ≤ xs.length) :
    Calls Tryz.prog 51 #[.pointer (some ⟨g, 0, none⟩), .int .i64 n] w fun e w' => ∃ v, e = .returned v ∧ w'.ownsRow w.heap.size 5 1 v n (B8 ((xs.drop a).take n)).toList ∧ Rdr w' g k xs c (a + n) false ∧ Only g w w' none := by
  have hmf : ∀ (fn : Fn) (first cap : Array Value) (w : World), (Instr.makeFunc fn first cap).run Tryz.prog w = .ok (.func fn first cap) w := fun _ _ _ _ => rfl
  obtain ⟨hr, hb⟩ := rdr_pair h (.pointer (some ⟨g, 0, none⟩)) (.int .i64 n) 44 3
  have ht := tell76_metQ _ g k xs c a (a + n) (fun v W' => W'.ownsRow w.heap.size 5 1 v n (B8 ((xs.drop a).take n)).toList) 91 #[.pointer (some ⟨w.heap.size, 0, none⟩), .pointer (some ⟨w.heap.size + 1, 0, none⟩)] hr (callK 91 Tryz.f91 Tryz.func91 (by kernel_rfl) (by kernel_rfl) _)
    (fun W hW hR => (raw1_good W _ _ g k xs c a n (by rw [hW.cell (p := ⟨w.heap.size, 0, none⟩) (by simp; omega)]; simp [go_sem]) (by rw [hW.cell (p := ⟨w.heap.size + 1, 0, none⟩) (by simp)]; simp [go_sem]) hR hn).mono fun e W' hh => by
      obtain ⟨v, he, ho, hrest⟩ := hh
      exact ⟨v, he, own_lower ho (Nat.le_trans hb.size hW.size), hrest⟩)
  have HT := Lib.hid ht
  have HB := Lib.hid hb
  clear ht hb hr h
  go_enter Tryz.func51, Tryz.ntmps51
  go_wp2_with fail
  refine HT.out.mono ?_
  rintro e w1 ⟨v, rfl, hq, hr, ho⟩
  have HR := Lib.hid (And.intro hq (And.intro hr ((only_below HB.out).trans0 ho)))
  clear hr ho hq
  go_wp2_with fail
  go_ret
  exact ⟨v, rfl, HR.out⟩
set_option maxRecDepth 100000 in
theorem raw_bad (w : World) (g k : Nat) (xs : List UInt8) (c a : Nat) (n : Int) (h : Rdr w g k xs c a false) (ha : a ≤ xs.length) (hn : n < 0 ∨ (xs.length : Int) - a < n) :
    Calls Tryz.prog 51 #[.pointer (some ⟨g, 0, none⟩), .int .i64 n] w fun e w' => e = .returned (.slice none 0 0) ∧ Rdr w' g k xs c a true ∧ Only g w w' none := by
  have hmf : ∀ (fn : Fn) (first cap : Array Value) (w : World), (Instr.makeFunc fn first cap).run Tryz.prog w = .ok (.func fn first cap) w := fun _ _ _ _ => rfl
  obtain ⟨hr, hb⟩ := rdr_pair h (.pointer (some ⟨g, 0, none⟩)) (.int .i64 n) 44 3
  have ht := tell76_unmet _ g k xs c a 91 #[.pointer (some ⟨w.heap.size, 0, none⟩), .pointer (some ⟨w.heap.size + 1, 0, none⟩)] hr (callK 91 Tryz.f91 Tryz.func91 (by kernel_rfl) (by kernel_rfl) _)
    (fun W hW hR => raw1_bad W _ _ g k xs c a n (by rw [hW.cell (p := ⟨w.heap.size, 0, none⟩) (by simp; omega)]; simp [go_sem]) (by rw [hW.cell (p := ⟨w.heap.size + 1, 0, none⟩) (by simp)]; simp [go_sem]) hR ha hn)
  have HT := Lib.hid ht
  have HB := Lib.hid hb
  clear ht hb hr h hn
  go_enter Tryz.func51, Tryz.ntmps51
  go_wp2_with fail
  refine HT.out.mono ?_
  rintro e w1 ⟨rfl, hr, ho⟩
  have HR := Lib.hid (And.intro hr ((only_below HB.out).trans0 ho))
  clear hr ho
  go_wp2_with fail
  go_ret
  exact ⟨rfl, HR.out⟩
end Go.Proofs.YtjbjagdpemnhiaaGreat
