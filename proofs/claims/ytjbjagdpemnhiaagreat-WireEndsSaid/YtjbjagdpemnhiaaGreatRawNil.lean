/-
  Raw of no bytes: of a nil slice.
-/
import Derived.Test.YtjbjagdpemnhiaaGreatPuts3
namespace Go.Proofs.YtjbjagdpemnhiaaGreat
open Go.RowKit
theorem MoreO.again {w : World} {B g : Nat} {v : Value} {l : List UInt8} (h : WrV w B g v l) : MoreO w B g v (some l) (w.setCell ⟨g, 2, none⟩ v) := by
  refine ⟨v, ⟨?_, own_set h.2.1 h.2.2.1, h.2.2.1, h.2.2.2⟩, (only_set g 2 w v).weak _, .inl rfl⟩
  have := h.1.set 2 v
  exact this
set_option maxRecDepth 100000 in
theorem raw_nil (w : World) (B g : Nat) (v : Value) (l : List UInt8) (h : WrV w B g v l) : Calls Tryz.prog 31 #[.pointer (some ⟨g, 0, none⟩), .slice none 0 0] w fun e w' => e = .returned (.tuple #[]) ∧ MoreO w B g v (some l) w' := by
  have ht := takes_self w g false (h.1.cell 0 rfl) (h.1.cell 1 rfl)
  have c2 : w.cell? ⟨g, 2, none⟩ = some v := h.1.cell 2 rfl
  have f2 := h.1.free 2
  have hm := MoreO.again h
  have HM := Lib.hid hm
  clear hm
  obtain ⟨_, ⟨rfl, hn⟩ | ⟨k, cap, cur, rfl, _, _, hcap, _⟩⟩ := h.2.1
  · clear h
    go_enter Tryz.func31, Tryz.ntmps31
    go_wp2_with fail
    refine ht.mono ?_
    rintro e w1 ⟨rfl, rfl⟩
    clear ht
    go_wp2_with fail
    go_end0
    exact ⟨rfl, HM.out⟩
  · clear h
    go_enter Tryz.func31, Tryz.ntmps31
    go_wp2_with fail
    refine ht.mono ?_
    rintro e w1 ⟨rfl, rfl⟩
    clear ht
    go_wp2_with fail
    go_end0
    exact ⟨rfl, HM.out⟩
/-- What Raw is handed: a row of bytes, or nothing. -/
def RawIn (w : World) (v : Value) (xs : List UInt8) : Prop := (v = .slice none 0 0 ∧ xs = []) ∨ ∃ ad c, v = .slice (some ad) xs.length c ∧ SrcA w ad xs
theorem raw_in (w : World) (B g : Nat) (v bv : Value) (st : Option (List UInt8)) (xs : List UInt8) (h : WSt w B g v st) (hs : RawIn w bv xs) (hB : B ≤ w.heap.size) (hx : ∀ l, st = some l → l.length + xs.length ≤ 2000000) :
    Calls Tryz.prog 31 #[.pointer (some ⟨g, 0, none⟩), bv] w fun e w' => e = .returned (.tuple #[]) ∧ MoreO w B g v (stepB st xs) w' := by
  rcases hs with ⟨rfl, rfl⟩ | ⟨ad, c, rfl, hs⟩
  · cases st with
    | none =>
      refine (raw_idle w _ _ h.idle).mono ?_
      rintro e w' ⟨rfl, rfl⟩
      exact ⟨rfl, MoreO.same h⟩
    | some l =>
      have := raw_nil w B g v l h
      rwa [show stepB (some l) [] = some l by simp [stepB]]
  · cases st with
    | none =>
      refine (raw_idle w _ _ h.idle).mono ?_
      rintro e w' ⟨rfl, rfl⟩
      exact ⟨rfl, MoreO.same h⟩
    | some l =>
      refine (raw_anyA w B g v l xs ad c h hs hB (hx l rfl)).mono ?_
      rintro e w' ⟨rfl, v', h1, h2, h3⟩
      exact ⟨rfl, v', h1, h2, h3⟩
set_option maxRecDepth 100000 in
theorem spoil_st (w : World) (B g : Nat) (v : Value) (st : Option (List UInt8)) (h : WSt w B g v st) : Calls Tryz.prog 32 #[.pointer (some ⟨g, 0, none⟩)] w fun e w' => e = .returned (.tuple #[]) ∧ MoreO w B g v none w' := by
  cases st with
  | none =>
    refine (spoil_idle w _ h.idle).mono ?_
    rintro e w' ⟨rfl, rfl⟩
    exact ⟨rfl, MoreO.same h⟩
  | some l =>
    have ht := takes_self w g false (h.1.cell 0 rfl) (h.1.cell 1 rfl)
    have hsp := spoil_any w g (.bool false) (h.1.cell 1 rfl) (h.1.free 1) rfl
    have hm := MoreO.spoilt h
    have HM := Lib.hid hm
    have HS := Lib.hid hsp
    clear hm hsp h
    go_enter Tryz.func32, Tryz.ntmps32
    go_wp2_with fail
    refine ht.mono ?_
    rintro e w1 ⟨rfl, rfl⟩
    clear ht
    go_wp2_with fail
    refine HS.out.mono ?_
    rintro e w2 ⟨rfl, hw2⟩
    have HW2 := Lib.hid hw2
    clear hw2
    go_wp2_with fail
    first
      | go_end0
      | refine bodyPost_ret (results_none rfl _ _ _) rfl ?_
    exact ⟨rfl, by rw [HW2.out]; exact HM.out⟩
end Go.Proofs.YtjbjagdpemnhiaaGreat
