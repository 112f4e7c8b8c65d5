/-
  Bundles that are not right are refused, with a panic of the code's number.
-/
import Derived.Test.YtjngghihciimjaaVg
import Derived.Test.YtjngghihciimjaaVa
namespace Go.Proofs.Ytjngghihciimjaa
set_option maxRecDepth 100000
open Go.RowKit Go.Sort

/-- A panic of the library's own error, of some number. -/
def Fault (e : Ending) : Prop := ∃ n, e = .panicked [{ v := .iface 80 (.int .i64 n), recovered := false }]
def rightV (v : Va) : Bool := rightB v.coin v.l
def Musts (vs : List Va) (e : Ending) : Prop := (vs.all rightV = true ∧ ∃ v, e = .returned v) ∨ (vs.all rightV = false ∧ Fault e)
set_option maxHeartbeats 4000000 in
theorem mustRight_any (w : World) (pa : Option Addr) (vs : List Va) (c : Nat) (h : RowV w pa vs) :
    Calls Try.prog 24 #[.slice pa vs.length c] w fun e w' => Musts vs e ∧ Below w.heap.size w w' := by
  have hli : (vs.length : Int) ≤ 9223372036854775807 := by have := h.1; unfold maxLen at this; omega
  have H := Lib.hid h
  clear h
  go_enter Try.func24, Try.ntmps24
  go_wp2_with fail
  go_loopw [6] (fun i W => ∃ k : Nat, k ≤ vs.length ∧ i = .int .i64 k ∧ Below w.heap.size w W ∧ ∀ (i : Nat) (v : Va), i < k → vs[i]? = some v → rightV v = true) (fun i _ => vs.length - (intOf i).toNat)
  case atStart => exact ⟨0, Nat.zero_le _, rfl, Below.refl _ _, fun i v hi => absurd hi (by omega)⟩
  case round =>
    obtain ⟨k, hk, rfl, hb, hall⟩ := hrel
    by_cases hlt : k < vs.length
    · have m1 : (k : Int) < (vs.length : Int) := by omega
      have m0 : (0 : Int) ≤ (k : Int) := by omega
      obtain ⟨g, off, rfl, hg, hh⟩ := H.out.2 (by omega)
      obtain ⟨v, hv⟩ : ∃ v, v = vs[k] := ⟨_, rfl⟩
      have hkv : vs[k]? = some v := by rw [hv, List.getElem?_eq_getElem hlt]
      have hvv := hh.below hb hg (Nat.le_refl _) k v hkv
      have c0 := hvv.1 0 (.int .i64 v.coin) rfl
      have c1 := hvv.1 1 (.slice v.pa v.l.length v.c) rfl
      have HC : Hid (∀ W, Below w.heap.size w W → Calls Try.prog 9 #[.agg #[.int .i64 v.coin, .slice v.pa v.l.length v.c]] W fun e w' => e = .returned (.bool (rightV v)) ∧ Below W.heap.size W w') := Lib.hid fun W hW =>
        right_any W v.coin v.pa v.l v.c ((hh k v hkv).2.2.2.below hW (Nat.le_refl _))
      have HR := Lib.hid (And.intro hb (And.intro hall (And.intro hlt hkv)))
      rw [Nat.add_zero] at c0
      clear hv hkv hvv hg hh hb hlt hk hall
      cases hr : rightV v with
      | true =>
        rw [hr] at HC
        have hW : Below w.heap.size w (wr.alloc (.cells #[.int .i64 v.coin, .slice v.pa v.l.length v.c] 24)) := HR.out.1.alloc HR.out.1.size _
        have HW := Lib.hid hW
        clear hW
        go_wp2_with fail
        refine (HC.out _ HW.out).mono ?_
        rintro e w2 ⟨rfl, hb2⟩
        have HB2 := Lib.hid (HW.out.trans (hb2.mono HW.out.size))
        clear hb2 c0 c1
        go_wp2_with fail
        have e1 : (k : Int) + 1 = ((k + 1 : Nat) : Int) := by omega
        rw [e1]
        refine ⟨⟨k + 1, HR.out.2.2.1, rfl, HB2.out, fun i x hi hx => ?_⟩, ?_⟩
        · by_cases e : i = k
          · subst e
            have h1 := HR.out.2.2.2
            rw [hx] at h1
            rw [Option.some.inj h1]
            exact hr
          · exact HR.out.2.1 i x (by omega) hx
        · have h := HR.out.2.2.1
          show vs.length - (k + 1) < vs.length - k
          omega
      | false =>
        rw [hr] at HC
        have hW : Below w.heap.size w (wr.alloc (.cells #[.int .i64 v.coin, .slice v.pa v.l.length v.c] 24)) := HR.out.1.alloc HR.out.1.size _
        have HW := Lib.hid hW
        clear hW
        have HF := Lib.hid (show vs.all rightV = false by
          rw [List.all_eq_false]
          exact ⟨v, List.mem_of_getElem? HR.out.2.2.2, by rw [hr]; simp⟩)
        clear hr
        go_wp2_with fail
        refine (HC.out _ HW.out).mono ?_
        rintro e w2 ⟨rfl, hb2⟩
        have HB2 := Lib.hid (HW.out.trans (hb2.mono HW.out.size))
        clear hb2 c0 c1
        go_wp2_with fail
        exact ⟨rfl, .inr ⟨HF.out, 2, rfl⟩, HB2.out⟩
    · have m1 : ¬ (k : Int) < (vs.length : Int) := by omega
      have HB := Lib.hid (And.intro hb (show vs.all rightV = true by
        rw [List.all_eq_true]
        intro v hv
        obtain ⟨i, hi⟩ := List.getElem?_of_mem hv
        exact hall i v (by have := (List.getElem?_eq_some_iff.1 hi).1; omega) hi))
      clear hb hlt hk hall
      go_wp2_with fail
      go_end0
      exact ⟨.inl ⟨HB.out.2, _, rfl⟩, HB.out.1⟩
def Amounts (x : BitVec 128) (e : Ending) : Prop := (fitsW x = true ∧ e = .returned (.int .i64 x.toNat)) ∨ (fitsW x = false ∧ Fault e)
set_option maxHeartbeats 1000000 in
theorem amounts_any (w : World) (x : BitVec 128) :
    Calls Try.prog 42 #[wv x] w fun e w' => Amounts x e ∧ Below w.heap.size w w' := by
  cases hx : fitsW x with
  | true => exact (amount_any w x hx).mono fun e w' h => ⟨.inl ⟨hx, h.1⟩, h.2⟩
  | false =>
    have hno : ¬ (hiS x = 0 ∧ loN x < 9223372036854775808) := fun h => by rw [(fits_halves x).2 h] at hx; exact absurd hx (by decide)
    have hb1 : Below w.heap.size w (w.alloc (.cells #[.int .i64 (hiS x), .int .u64 (loN x)] 39)) := (Below.refl _ _).alloc (Nat.le_refl _) _
    have H := Lib.hid (And.intro hx hb1)
    unfold wv
    clear hx hb1
    by_cases h0 : hiS x = 0
    · have hlo : (9223372036854775807 : Int) < (loN x : Int) := by
        have : ¬ loN x < 9223372036854775808 := fun h => hno ⟨h0, h⟩
        omega
      rw [h0] at H ⊢
      clear hno h0
      generalize loN x = lo at hlo H ⊢
      go_enter Try.func42, Try.ntmps42
      go_wp2
      exact ⟨rfl, .inr ⟨H.out.1, 9, rfl⟩, H.out.2⟩
    · clear hno
      generalize hiS x = hi at h0 H ⊢
      generalize loN x = lo at H ⊢
      go_enter Try.func42, Try.ntmps42
      go_wp2
      exact ⟨rfl, .inr ⟨H.out.1, 9, rfl⟩, H.out.2⟩
end Go.Proofs.Ytjngghihciimjaa
