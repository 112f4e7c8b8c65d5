/-
  A writer, spoilt or not: Raw, Text, Flag, Spoil, Hash.
-/
import Derived.Test.YtjbjagdpemnhiaaGreatPuts2
import Derived.Test.YtjbjagdpemnhiaaGreatStr
namespace Go.Proofs.YtjbjagdpemnhiaaGreat
open Go.RowKit

theorem WrV.below {w w' : World} {B g : Nat} {v : Value} {l : List UInt8} (h : WrV w B g v l) (hb : Below w.heap.size w w') : WrV w' B g v l :=
  ⟨h.1.below hb h.1.lt, own_kept h.2.1 (grown_below hb none) (fun _ _ => by simp), h.2.2.1, h.2.2.2⟩
theorem WSt.below {w w' : World} {B g : Nat} {v : Value} {st : Option (List UInt8)} (h : WSt w B g v st) (hb : Below w.heap.size w w') : WSt w' B g v st := by
  cases st with
  | none => exact ⟨h.1.below hb h.1.lt, h.2⟩
  | some l => exact WrV.below h hb
theorem MoreO.after {w w1 w2 : World} {B g : Nat} {v : Value} {st : Option (List UInt8)} (hb : Below w.heap.size w w1) (h : MoreO w1 B g v st w2) : MoreO w B g v st w2 := by
  obtain ⟨v', h1, h2, h3⟩ := h
  refine ⟨v', h1, Only.trans ((only_below hb).weak _) h2 (.inl rfl), ?_⟩
  rcases h3 with h3 | ⟨k, h3, h4⟩
  · exact .inl h3
  · exact .inr ⟨k, h3, Nat.le_trans hb.size h4.1, h4.2⟩
theorem MoreO.trans {w w1 w2 : World} {B g : Nat} {v v1 : Value} {st : Option (List UInt8)} (ho : Only g w w1 v.ownBlock) (hat : v1.ownBlock = v.ownBlock ∨ ∃ k, v1.ownBlock = some k ∧ w.heap.size ≤ k ∧ k < w1.heap.size) (h : MoreO w1 B g v1 st w2) : MoreO w B g v st w2 := by
  obtain ⟨v', h1, h2, h3⟩ := h
  refine ⟨v', h1, Only.trans ho h2 (hat.imp id fun ⟨k, e, h, _⟩ => ⟨k, e, h⟩), ?_⟩
  rcases h3 with h3 | ⟨k, h3, h4⟩
  · exact hat.imp (fun h => h3.trans h) (fun ⟨k, hk, h4, h5⟩ => ⟨k, h3.trans hk, h4, Nat.lt_of_lt_of_le h5 h2.size⟩)
  · exact .inr ⟨k, h3, Nat.le_trans ho.size h4.1, h4.2⟩
def stepB (st : Option (List UInt8)) (xs : List UInt8) : Option (List UInt8) := st.map (· ++ xs)
theorem raw_st (w : World) (B g : Nat) (v : Value) (st : Option (List UInt8)) (xs : List UInt8) (gx off c : Nat) (h : WSt w B g v st) (hs : Src w gx off xs) (hB : B ≤ w.heap.size) (hx : ∀ l, st = some l → l.length + xs.length ≤ 2000000) :
    Calls Tryz.prog 31 #[.pointer (some ⟨g, 0, none⟩), .slice (some ⟨gx, off, none⟩) xs.length c] w fun e w' => e = .returned (.tuple #[]) ∧ MoreO w B g v (stepB st xs) w' := by
  cases st with
  | none =>
    refine (raw_idle w _ _ h.idle).mono ?_
    rintro e w' ⟨rfl, rfl⟩
    exact ⟨rfl, MoreO.same h⟩
  | some l =>
    refine (raw_any w B g v l xs gx off c h hs hB (hx l rfl)).mono ?_
    rintro e w' ⟨rfl, v', h1, h2, h3⟩
    exact ⟨rfl, v', h1, h2, h3⟩
theorem flag_st (w : World) (B g : Nat) (v : Value) (st : Option (List UInt8)) (b : Bool) (h : WSt w B g v st) (hB : B ≤ w.heap.size) (hx : ∀ l, st = some l → l.length ≤ 1000000) :
    Calls Tryz.prog 18 #[.pointer (some ⟨g, 0, none⟩), .bool b] w fun e w' => e = .returned (.tuple #[]) ∧ MoreO w B g v (stepB st [if b then 1 else 0]) w' := by
  cases st with
  | none =>
    refine (flag_idle w _ b h.idle).mono ?_
    rintro e w' ⟨rfl, rfl⟩
    exact ⟨rfl, MoreO.same h⟩
  | some l =>
    refine (flag_any w B g v l b h hB (hx l rfl)).mono ?_
    rintro e w' ⟨rfl, v', h1, h2, h3⟩
    exact ⟨rfl, v', h1, h2, h3⟩
set_option maxRecDepth 100000 in
theorem hash_st (w : World) (B g : Nat) (v : Value) (st : Option (List UInt8)) (xs : List UInt8) (h : WSt w B g v st) (hl : xs.length = 32) (hB : B ≤ w.heap.size) (hx : ∀ l, st = some l → l.length ≤ 1000000) :
    Calls Tryz.prog 30 #[.pointer (some ⟨g, 0, none⟩), .agg (B8 xs)] w fun e w' => e = .returned (.tuple #[]) ∧ MoreO w B g v (stepB st xs) w' := by
  have hb : Below w.heap.size w (w.alloc (.cells (B8 xs) 25)) := (Below.refl _ _).alloc (Nat.le_refl _) _
  have hsrc : Src (w.alloc (.cells (B8 xs) 25)) w.heap.size 0 xs := fun j hj => by
    have := (Lies.new w (B8 xs) 25).cell j (B8_get xs j hj)
    rwa [Nat.zero_add]
  have he := raw_st (w.alloc (.cells (B8 xs) 25)) B g v st xs w.heap.size 0 32 (h.below hb) hsrc (by simp; omega) (fun l e => by have := hx l e; omega)
  rw [hl] at he
  have HE := Lib.hid he
  have HB := Lib.hid hb
  clear he hb hsrc h hx
  go_enter Tryz.func30, Tryz.ntmps30
  go_wp2_with fail
  refine HE.out.mono ?_
  rintro e w1 ⟨rfl, hm⟩
  have HM := Lib.hid hm
  clear hm HE
  go_wp2_with fail
  go_end0
  exact ⟨rfl, HM.out.after HB.out⟩
set_option maxRecDepth 100000 in
theorem text_big (w : World) (B g : Nat) (v : Value) (st : Option (List UInt8)) (s : ByteArray) (h : WSt w B g v st) (hB : B ≤ w.heap.size) (hx : ∀ l, st = some l → l.length ≤ 900000) (hs : 65536 ≤ s.size) (hs2 : s.size < 9223372036854775808) :
    Calls Tryz.prog 17 #[.pointer (some ⟨g, 0, none⟩), .string s] w fun e w' => e = .returned (.tuple #[]) ∧ MoreO w B g v none w' := by
  have hu := u16_st w B g v st s.size s.size h hB (fun l e => by have := hx l e; omega) (by omega)
  have e1 : stepN st s.size 2 = none := by
    have : ¬ s.size / 2 ^ (8 * 2) = 0 := by
      have : 1 ≤ s.size / 65536 := (Nat.le_div_iff_mul_le (by omega)).2 (by omega)
      omega
    cases st with
    | none => rfl
    | some l => simp only [stepN, Option.bind_some, if_neg this]
  rw [e1] at hu
  have HU := Lib.hid hu
  clear hu h hx e1
  go_enter Tryz.func17, Tryz.ntmps17
  go_wp2_with fail
  refine HU.out.mono ?_
  rintro e w1 ⟨rfl, v1, hw1, ho1, ha1⟩
  have ht := takes_idle w1 _ hw1.idle
  have HW := Lib.hid (show MoreO w B g v none w1 from ⟨v1, hw1, ho1, ha1⟩)
  clear hw1 ho1 ha1 HU
  go_wp2_with fail
  refine ht.mono ?_
  rintro e w2 ⟨rfl, rfl⟩
  clear ht
  go_wp2_with fail
  first
    | go_end0
    | refine bodyPost_ret (results_none rfl _ _ _) rfl ?_
  exact ⟨rfl, HW.out⟩
theorem text_st (w : World) (B g : Nat) (v : Value) (st : Option (List UInt8)) (s : ByteArray) (h : WSt w B g v st) (hB : B ≤ w.heap.size) (hx : ∀ l, st = some l → l.length ≤ 900000) (hs2 : s.size < 9223372036854775808) :
    Calls Tryz.prog 17 #[.pointer (some ⟨g, 0, none⟩), .string s] w fun e w' => e = .returned (.tuple #[]) ∧ MoreO w B g v (if s.size < 65536 then stepB st (beN s.size 2 ++ s.data.toList) else none) w' := by
  by_cases hs : s.size < 65536
  · rw [if_pos hs]
    cases st with
    | none =>
      refine (text_idle w _ s h.idle).mono ?_
      rintro e w' ⟨rfl, rfl⟩
      exact ⟨rfl, MoreO.same h⟩
    | some l =>
      refine (text_any w B g v l s h hB (hx l rfl) hs).mono ?_
      rintro e w' ⟨rfl, v', h1, h2, h3⟩
      exact ⟨rfl, v', h1, h2, h3⟩
  · rw [if_neg hs]
    exact text_big w B g v st s h hB hx (by omega) hs2
end Go.Proofs.YtjbjagdpemnhiaaGreat
