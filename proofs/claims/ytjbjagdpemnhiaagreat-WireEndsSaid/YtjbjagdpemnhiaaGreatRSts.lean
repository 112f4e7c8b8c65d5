/-
  A reader, spoilt or not, and what each ask tells of it.
-/
import Derived.Test.YtjbjagdpemnhiaaGreatRHash
import Derived.Test.YtjbjagdpemnhiaaGreatRNums
import Derived.Test.YtjbjagdpemnhiaaGreatRRf
namespace Go.Proofs.YtjbjagdpemnhiaaGreat
open Go.RowKit

/-- A reader at the place a, or spoilt. -/
def RSt (w : World) (g k : Nat) (xs : List UInt8) (c : Nat) : Option Nat → Prop
  | some a => a ≤ xs.length ∧ Rdr w g k xs c a false
  | none => ∃ a, Rdr w g k xs c a true
theorem RSt.below {w w' : World} {g k : Nat} {xs : List UInt8} {c : Nat} {st : Option Nat} (h : RSt w g k xs c st) (hb : Below w.heap.size w w') : RSt w' g k xs c st := by
  cases st with
  | none => obtain ⟨a, h⟩ := h; exact ⟨a, h.below hb⟩
  | some a => exact ⟨h.1, h.2.below hb⟩
theorem RSt.lt {w : World} {g k : Nat} {xs : List UInt8} {c : Nat} {st : Option Nat} (h : RSt w g k xs c st) : g < w.heap.size ∧ k < w.heap.size ∧ k ≠ g := by
  cases st with
  | none => obtain ⟨a, h⟩ := h; exact ⟨h.1.lt, h.2.2.2.1, h.2.2.1⟩
  | some a => exact ⟨h.2.1.lt, h.2.2.2.2.1, h.2.2.2.1⟩
theorem RSt.only {w w' : World} {g k g' : Nat} {xs : List UInt8} {c : Nat} {st : Option Nat} (h : RSt w g k xs c st) (ho : Only g' w w' none) (h1 : g ≠ g') (h2 : k ≠ g') : RSt w' g k xs c st := by
  have key : ∀ a sp, Rdr w g k xs c a sp → Rdr w' g k xs c a sp := fun a sp h => ⟨ho.lies h.1 h1, h.2.1.only ho h.2.2.2.1 h2, h.2.2.1, Nat.lt_of_lt_of_le h.2.2.2.1 ho.size, h.2.2.2.2⟩
  cases st with
  | none => obtain ⟨a, h⟩ := h; exact ⟨a, key _ _ h⟩
  | some a => exact ⟨h.1, key _ _ h.2⟩
theorem Rdr.idle {w : World} {g k : Nat} {xs : List UInt8} {c a : Nat} (h : Rdr w g k xs c a true) : Idle w (some ⟨g, 0, none⟩) := .inr ⟨g, rfl, h.1.lt, .inr ⟨h.1.cell 0 rfl, h.1.cell 1 rfl⟩⟩

def numV (xs : List UInt8) (st : Option Nat) (s : Nat) : Nat := match st with | some a => if a + s ≤ xs.length then beVal ((xs.drop a).take s) else 0 | none => 0
def numS (xs : List UInt8) (st : Option Nat) (s : Nat) : Option Nat := match st with | some a => if a + s ≤ xs.length then some (a + s) else none | none => none
def hashV (xs : List UInt8) (st : Option Nat) : List UInt8 := match st with | some a => if a + 32 ≤ xs.length then (xs.drop a).take 32 else List.replicate 32 0 | none => List.replicate 32 0
def RawOk (xs : List UInt8) (a : Nat) (n : Int) : Prop := 0 ≤ n ∧ n ≤ (xs.length : Int) - a
instance (xs : List UInt8) (a : Nat) (n : Int) : Decidable (RawOk xs a n) := by unfold RawOk; infer_instance
def rawV (xs : List UInt8) (st : Option Nat) (n : Int) : List UInt8 := match st with | some a => if RawOk xs a n then (xs.drop a).take n.toNat else [] | none => []
def rawS (xs : List UInt8) (st : Option Nat) (n : Int) : Option Nat := match st with | some a => if RawOk xs a n then some (a + n.toNat) else none | none => none
def TextOk (xs : List UInt8) (a : Nat) (m : Int) : Prop := a + 2 ≤ xs.length ∧ (beVal ((xs.drop a).take 2) : Int) ≤ m ∧ a + 2 + beVal ((xs.drop a).take 2) ≤ xs.length
instance (xs : List UInt8) (a : Nat) (m : Int) : Decidable (TextOk xs a m) := by unfold TextOk; infer_instance
def textV (xs : List UInt8) (st : Option Nat) (m : Int) : List UInt8 := match st with | some a => if TextOk xs a m then (xs.drop (a + 2)).take (beVal ((xs.drop a).take 2)) else [] | none => []
def textS (xs : List UInt8) (st : Option Nat) (m : Int) : Option Nat := match st with | some a => if TextOk xs a m then some (a + 2 + beVal ((xs.drop a).take 2)) else none | none => none
def FlagOk (xs : List UInt8) (a : Nat) : Prop := a + 1 ≤ xs.length ∧ beVal ((xs.drop a).take 1) ≤ 1
instance (xs : List UInt8) (a : Nat) : Decidable (FlagOk xs a) := by unfold FlagOk; infer_instance
def flagV (xs : List UInt8) (st : Option Nat) : Bool := match st with | some a => if FlagOk xs a then decide (beVal ((xs.drop a).take 1) = 1) else false | none => false
def flagS (xs : List UInt8) (st : Option Nat) : Option Nat := match st with | some a => if FlagOk xs a then some (a + 1) else none | none => none
def CountOk (xs : List UInt8) (a : Nat) (m : Int) : Prop := a + 2 ≤ xs.length ∧ (beVal ((xs.drop a).take 2) : Int) ≤ m
instance (xs : List UInt8) (a : Nat) (m : Int) : Decidable (CountOk xs a m) := by unfold CountOk; infer_instance
def countV (xs : List UInt8) (st : Option Nat) (m : Int) : Nat := match st with | some a => if CountOk xs a m then beVal ((xs.drop a).take 2) else 0 | none => 0
def countS (xs : List UInt8) (st : Option Nat) (m : Int) : Option Nat := match st with | some a => if CountOk xs a m then some (a + 2) else none | none => none
def leftV (xs : List UInt8) (st : Option Nat) : Nat := match st with | some a => xs.length - a | none => 0
def endV (xs : List UInt8) (st : Option Nat) : Bool := match st with | some a => decide (a = xs.length) | none => false
def errV (st : Option Nat) : Int := if st.isNone then 4 else 0
theorem ask25_st (w : World) (g k : Nat) (xs : List UInt8) (c : Nat) (st : Option Nat) (h : RSt w g k xs c st) :
    Calls Tryz.prog 45 #[.pointer (some ⟨g, 0, none⟩)] w fun e w' => e = .returned (.int .i64 (numV xs st 1)) ∧ RSt w' g k xs c (numS xs st 1) ∧ Only g w w' none := by
  cases st with
  | none =>
    obtain ⟨a, h⟩ := h
    refine (ask25_idle w _ h.idle).mono ?_
    rintro e w' ⟨rfl, hb⟩
    exact ⟨rfl, ⟨a, h.below hb⟩, only_below hb⟩
  | some a =>
    obtain ⟨ha, h⟩ := h
    by_cases hn : a + 1 ≤ xs.length
    · refine (ask25_good w g k xs c a h hn).mono ?_
      rintro e w' ⟨rfl, hr, ho⟩
      refine ⟨by simp [numV, hn] <;> rfl, ?_, ho⟩
      simp only [numS, if_pos hn]
      exact ⟨hn, hr⟩
    · refine (ask25_bad w g k xs c a h ha (by omega)).mono ?_
      rintro e w' ⟨rfl, hr, ho⟩
      refine ⟨by simp [numV, hn] <;> rfl, ?_, ho⟩
      simp only [numS, if_neg hn]
      exact ⟨a, hr⟩
theorem ask53_st (w : World) (g k : Nat) (xs : List UInt8) (c : Nat) (st : Option Nat) (h : RSt w g k xs c st) :
    Calls Tryz.prog 46 #[.pointer (some ⟨g, 0, none⟩)] w fun e w' => e = .returned (.int .i64 (numV xs st 2)) ∧ RSt w' g k xs c (numS xs st 2) ∧ Only g w w' none := by
  cases st with
  | none =>
    obtain ⟨a, h⟩ := h
    refine (ask53_idle w _ h.idle).mono ?_
    rintro e w' ⟨rfl, hb⟩
    exact ⟨rfl, ⟨a, h.below hb⟩, only_below hb⟩
  | some a =>
    obtain ⟨ha, h⟩ := h
    by_cases hn : a + 2 ≤ xs.length
    · refine (ask53_good w g k xs c a h hn).mono ?_
      rintro e w' ⟨rfl, hr, ho⟩
      refine ⟨by simp [numV, hn] <;> rfl, ?_, ho⟩
      simp only [numS, if_pos hn]
      exact ⟨hn, hr⟩
    · refine (ask53_bad w g k xs c a h ha (by omega)).mono ?_
      rintro e w' ⟨rfl, hr, ho⟩
      refine ⟨by simp [numV, hn] <;> rfl, ?_, ho⟩
      simp only [numS, if_neg hn]
      exact ⟨a, hr⟩
theorem ask54_st (w : World) (g k : Nat) (xs : List UInt8) (c : Nat) (st : Option Nat) (h : RSt w g k xs c st) :
    Calls Tryz.prog 47 #[.pointer (some ⟨g, 0, none⟩)] w fun e w' => e = .returned (.int .i64 (numV xs st 4)) ∧ RSt w' g k xs c (numS xs st 4) ∧ Only g w w' none := by
  cases st with
  | none =>
    obtain ⟨a, h⟩ := h
    refine (ask54_idle w _ h.idle).mono ?_
    rintro e w' ⟨rfl, hb⟩
    exact ⟨rfl, ⟨a, h.below hb⟩, only_below hb⟩
  | some a =>
    obtain ⟨ha, h⟩ := h
    by_cases hn : a + 4 ≤ xs.length
    · refine (ask54_good w g k xs c a h hn).mono ?_
      rintro e w' ⟨rfl, hr, ho⟩
      refine ⟨by simp [numV, hn] <;> rfl, ?_, ho⟩
      simp only [numS, if_pos hn]
      exact ⟨hn, hr⟩
    · refine (ask54_bad w g k xs c a h ha (by omega)).mono ?_
      rintro e w' ⟨rfl, hr, ho⟩
      refine ⟨by simp [numV, hn] <;> rfl, ?_, ho⟩
      simp only [numS, if_neg hn]
      exact ⟨a, hr⟩
theorem ask55_st (w : World) (g k : Nat) (xs : List UInt8) (c : Nat) (st : Option Nat) (h : RSt w g k xs c st) :
    Calls Tryz.prog 48 #[.pointer (some ⟨g, 0, none⟩)] w fun e w' => e = .returned (.int .u64 (numV xs st 8)) ∧ RSt w' g k xs c (numS xs st 8) ∧ Only g w w' none := by
  cases st with
  | none =>
    obtain ⟨a, h⟩ := h
    refine (ask55_idle w _ h.idle).mono ?_
    rintro e w' ⟨rfl, hb⟩
    exact ⟨rfl, ⟨a, h.below hb⟩, only_below hb⟩
  | some a =>
    obtain ⟨ha, h⟩ := h
    by_cases hn : a + 8 ≤ xs.length
    · refine (ask55_good w g k xs c a h hn).mono ?_
      rintro e w' ⟨rfl, hr, ho⟩
      refine ⟨by simp [numV, hn] <;> rfl, ?_, ho⟩
      simp only [numS, if_pos hn]
      exact ⟨hn, hr⟩
    · refine (ask55_bad w g k xs c a h ha (by omega)).mono ?_
      rintro e w' ⟨rfl, hr, ho⟩
      refine ⟨by simp [numV, hn] <;> rfl, ?_, ho⟩
      simp only [numS, if_neg hn]
      exact ⟨a, hr⟩
theorem ask56_st (w : World) (g k : Nat) (xs : List UInt8) (c : Nat) (st : Option Nat) (h : RSt w g k xs c st) :
    Calls Tryz.prog 49 #[.pointer (some ⟨g, 0, none⟩)] w fun e w' => e = .returned (.int .i64 (IntKind.i64.wrap (numV xs st 8))) ∧ RSt w' g k xs c (numS xs st 8) ∧ Only g w w' none := by
  cases st with
  | none =>
    obtain ⟨a, h⟩ := h
    refine (ask56_idle w _ h.idle).mono ?_
    rintro e w' ⟨rfl, hb⟩
    exact ⟨rfl, ⟨a, h.below hb⟩, only_below hb⟩
  | some a =>
    obtain ⟨ha, h⟩ := h
    by_cases hn : a + 8 ≤ xs.length
    · refine (ask56_good w g k xs c a h hn).mono ?_
      rintro e w' ⟨rfl, hr, ho⟩
      refine ⟨by simp [numV, hn] <;> rfl, ?_, ho⟩
      simp only [numS, if_pos hn]
      exact ⟨hn, hr⟩
    · refine (ask56_bad w g k xs c a h ha (by omega)).mono ?_
      rintro e w' ⟨rfl, hr, ho⟩
      refine ⟨by simp [numV, hn] <;> rfl, ?_, ho⟩
      simp only [numS, if_neg hn]
      exact ⟨a, hr⟩
theorem flag_rst (w : World) (g k : Nat) (xs : List UInt8) (c : Nat) (st : Option Nat) (h : RSt w g k xs c st) :
    Calls Tryz.prog 21 #[.pointer (some ⟨g, 0, none⟩)] w fun e w' => e = .returned (.bool (flagV xs st)) ∧ RSt w' g k xs c (flagS xs st) ∧ Only g w w' none := by
  cases st with
  | none =>
    obtain ⟨a, h⟩ := h
    refine (ask33_idle w _ h.idle).mono ?_
    rintro e w' ⟨rfl, hb⟩
    exact ⟨rfl, ⟨a, h.below hb⟩, only_below hb⟩
  | some a =>
    obtain ⟨ha, h⟩ := h
    by_cases hn : FlagOk xs a
    · refine (flag_good w g k xs c a h hn.1 (by have := hn.2; omega)).mono ?_
      rintro e w' ⟨rfl, hr, ho⟩
      refine ⟨by simp [flagV, hn], ?_, ho⟩
      simp only [flagS, if_pos hn]
      exact ⟨hn.1, hr⟩
    · refine (flag_bad w g k xs c a h ha (by unfold FlagOk at hn; omega)).mono ?_
      rintro e w' ⟨rfl, hr, ho⟩
      refine ⟨by simp [flagV, hn], ?_, ho⟩
      simp only [flagS, if_neg hn]
      exact ⟨a, hr⟩
theorem count_rst (w : World) (g k : Nat) (xs : List UInt8) (c : Nat) (st : Option Nat) (m : Int) (h : RSt w g k xs c st) :
    Calls Tryz.prog 19 #[.pointer (some ⟨g, 0, none⟩), .int .i64 m] w fun e w' => e = .returned (.int .i64 (countV xs st m)) ∧ RSt w' g k xs c (countS xs st m) ∧ Only g w w' none := by
  cases st with
  | none =>
    obtain ⟨a, h⟩ := h
    refine (ask31_idle w _ m h.idle).mono ?_
    rintro e w' ⟨rfl, hb⟩
    exact ⟨rfl, ⟨a, h.below hb⟩, only_below hb⟩
  | some a =>
    obtain ⟨ha, h⟩ := h
    by_cases hn : CountOk xs a m
    · refine (count_good w g k xs c a m h hn.1 hn.2).mono ?_
      rintro e w' ⟨rfl, hr, ho⟩
      refine ⟨by simp [countV, hn], ?_, ho⟩
      simp only [countS, if_pos hn]
      exact ⟨hn.1, hr⟩
    · refine (count_bad w g k xs c a m h ha (by unfold CountOk at hn; omega)).mono ?_
      rintro e w' ⟨rfl, hr, ho⟩
      refine ⟨by simp [countV, hn], ?_, ho⟩
      simp only [countS, if_neg hn]
      exact ⟨a, hr⟩
theorem hash_rst (w : World) (g k : Nat) (xs : List UInt8) (c : Nat) (st : Option Nat) (h : RSt w g k xs c st) :
    Calls Tryz.prog 50 #[.pointer (some ⟨g, 0, none⟩)] w fun e w' => e = .returned (.agg (B8 (hashV xs st))) ∧ RSt w' g k xs c (numS xs st 32) ∧ Only g w w' none := by
  cases st with
  | none =>
    obtain ⟨a, h⟩ := h
    refine (ask57_idle w _ h.idle).mono ?_
    rintro e w' ⟨rfl, hb⟩
    exact ⟨rfl, ⟨a, h.below hb⟩, only_below hb⟩
  | some a =>
    obtain ⟨ha, h⟩ := h
    by_cases hn : a + 32 ≤ xs.length
    · refine (ask57_good w g k xs c a h _ hn rfl (by rw [List.length_take, List.length_drop]; omega)).mono ?_
      rintro e w' ⟨rfl, hr, ho⟩
      refine ⟨by simp only [hashV, if_pos hn], ?_, ho⟩
      simp only [numS, if_pos hn]
      exact ⟨hn, hr⟩
    · refine (ask57_bad w g k xs c a h ha (by omega)).mono ?_
      rintro e w' ⟨rfl, hr, ho⟩
      refine ⟨by simp only [hashV, if_neg hn]; rfl, ?_, ho⟩
      simp only [numS, if_neg hn]
      exact ⟨a, hr⟩
theorem text_rst (w : World) (g k : Nat) (xs : List UInt8) (c : Nat) (st : Option Nat) (m : Int) (h : RSt w g k xs c st) :
    Calls Tryz.prog 20 #[.pointer (some ⟨g, 0, none⟩), .int .i64 m] w fun e w' => e = .returned (.string ⟨(textV xs st m).toArray⟩) ∧ RSt w' g k xs c (textS xs st m) ∧ Only g w w' none := by
  cases st with
  | none =>
    obtain ⟨a, h⟩ := h
    refine (ask32_idle w _ m h.idle).mono ?_
    rintro e w' ⟨rfl, hb⟩
    exact ⟨rfl, ⟨a, h.below hb⟩, only_below hb⟩
  | some a =>
    obtain ⟨ha, h⟩ := h
    by_cases hn : TextOk xs a m
    · have hv : textV xs (some a) m = (xs.drop (a + 2)).take (beVal ((xs.drop a).take 2)) := by simp only [textV, if_pos hn]
      have hs : textS xs (some a) m = some (a + 2 + beVal ((xs.drop a).take 2)) := by simp only [textS, if_pos hn]
      rw [hv, hs]
      by_cases h0 : beVal ((xs.drop a).take 2) = 0
      · refine (rtext_zero w g k xs c a m h hn.1 h0 (by have := hn.2.1; omega)).mono ?_
        rintro e w' ⟨rfl, hr, ho⟩
        rw [h0]
        exact ⟨rfl, ⟨hn.1, hr⟩, ho⟩
      · refine (rtext_some w g k xs c a m (beVal ((xs.drop a).take 2)) _ h hn.2.2 (by omega) rfl hn.2.1 rfl).mono ?_
        rintro e w' ⟨rfl, hr, ho⟩
        exact ⟨rfl, ⟨hn.2.2, hr⟩, ho⟩
    · have hv : textV xs (some a) m = [] := by simp only [textV, if_neg hn]
      have hs : textS xs (some a) m = none := by simp only [textS, if_neg hn]
      rw [hv, hs]
      refine (rtext_bad w g k xs c a m h ha (by unfold TextOk at hn; omega)).mono ?_
      rintro e w' ⟨rfl, hr, ho⟩
      exact ⟨rfl, ⟨a, hr⟩, ho⟩
theorem raw_rst (w : World) (g k : Nat) (xs : List UInt8) (c : Nat) (st : Option Nat) (n : Int) (h : RSt w g k xs c st) :
    Calls Tryz.prog 51 #[.pointer (some ⟨g, 0, none⟩), .int .i64 n] w fun e w' => ∃ v, e = .returned v ∧ w'.ownsRow w.heap.size 5 1 v (rawV xs st n).length (B8 (rawV xs st n)).toList ∧ RSt w' g k xs c (rawS xs st n) ∧ Only g w w' none := by
  cases st with
  | none =>
    obtain ⟨a, h⟩ := h
    refine (ask26_idle w _ n h.idle).mono ?_
    rintro e w' ⟨rfl, hb⟩
    exact ⟨_, rfl, World.ownsRow_nil _ _ _ _, ⟨a, h.below hb⟩, only_below hb⟩
  | some a =>
    obtain ⟨ha, h⟩ := h
    by_cases hn : RawOk xs a n
    · obtain ⟨m, rfl⟩ : ∃ m : Nat, n = (m : Int) := ⟨n.toNat, by have := hn.1; omega⟩
      have hm : a + m ≤ xs.length := by have := hn.2; omega
      have hv : rawV xs (some a) m = (xs.drop a).take m := by simp only [rawV, if_pos hn, Int.toNat_natCast]
      have hs : rawS xs (some a) m = some (a + m) := by simp only [rawS, if_pos hn, Int.toNat_natCast]
      have hl : ((xs.drop a).take m).length = m := by rw [List.length_take, List.length_drop]; omega
      rw [hv, hs, hl]
      refine (raw_good w g k xs c a m h hm).mono ?_
      rintro e w' ⟨v, rfl, hown, hr, ho⟩
      exact ⟨v, rfl, hown, ⟨hm, hr⟩, ho⟩
    · have hv : rawV xs (some a) n = [] := by simp only [rawV, if_neg hn]
      have hs : rawS xs (some a) n = none := by simp only [rawS, if_neg hn]
      rw [hv, hs]
      refine (raw_bad w g k xs c a n h ha (by unfold RawOk at hn; omega)).mono ?_
      rintro e w' ⟨rfl, hr, ho⟩
      exact ⟨_, rfl, World.ownsRow_nil _ _ _ _, ⟨a, hr⟩, ho⟩
theorem left_rst (w : World) (g k : Nat) (xs : List UInt8) (c : Nat) (st : Option Nat) (h : RSt w g k xs c st) :
    Calls Tryz.prog 52 #[.pointer (some ⟨g, 0, none⟩)] w fun e w' => e = .returned (.int .i64 (leftV xs st)) ∧ Below w.heap.size w w' := by
  cases st with
  | none =>
    obtain ⟨a, h⟩ := h
    refine (left_idle w _ h.idle).mono ?_
    rintro e w' ⟨rfl, rfl⟩
    exact ⟨rfl, Below.refl _ _⟩
  | some a => exact left_good w g k xs c a h.2 h.1
theorem end_rst (w : World) (g k : Nat) (xs : List UInt8) (c : Nat) (st : Option Nat) (h : RSt w g k xs c st) :
    Calls Tryz.prog 22 #[.pointer (some ⟨g, 0, none⟩)] w fun e w' => e = .returned (.bool (endV xs st)) ∧ Below w.heap.size w w' := by
  cases st with
  | none =>
    obtain ⟨a, h⟩ := h
    refine (end_idle w _ h.idle).mono ?_
    rintro e w' ⟨rfl, rfl⟩
    exact ⟨rfl, Below.refl _ _⟩
  | some a => exact end_good w g k xs c a h.2 h.1
theorem err_rst (w : World) (g k : Nat) (xs : List UInt8) (c : Nat) (st : Option Nat) (h : RSt w g k xs c st) :
    Calls Tryz.prog 23 #[.pointer (some ⟨g, 0, none⟩)] w fun e w' => e = .returned (.int .i64 (errV st)) ∧ w = w' := by
  cases st with
  | none =>
    obtain ⟨a, h⟩ := h
    exact err_any w g k xs c a true h
  | some a => exact err_any w g k xs c a false h.2
end Go.Proofs.YtjbjagdpemnhiaaGreat
