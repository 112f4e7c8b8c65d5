/-
  The document's own reader: take, whatever is asked; numbers.
  The document's own reader: Raw, Text, Flag, Count, Left, Err, End.
  The document's own reader: Flag, Hash.
-/
import Derived.Test.YtilbbemdinpjcaaGreatJWTwo
import Derived.Test.YtilbbemdinpjcaaGreatJWRnum
import Derived.Deep.Slices
import Derived.Test.YtilbbemdinpjcaaGreatJWRHash
import Derived.Test.YtilbbemdinpjcaaGreatJWRTzero
import Derived.Laws.AppendOwnNone
import Derived.Deep.CutRange
import Derived.Deep.MidRow
namespace Go.Proofs.YtilbbemdinpjcaaGreat.W
open Go.RowKit
def Bs (w : World) (v : Value) (ys : List UInt8) : Prop :=
 (v = .slice none 0 0 ∧ ys = []) ∨ ∃ ad c, v = .slice (some ad) ys.length c ∧ ys.length ≤ c ∧ c ≤ maxLen ∧ (ys ≠ [] → ad.spot = none) ∧ SrcA w ad ys
theorem Bs.below {w w' : World} {v : Value} {ys : List UInt8} (h : Bs w v ys) (hb : Below w.heap.size w w') : Bs w' v ys := by
 rcases h with h | ⟨ad, c, h1, h2, h3, h4, h5⟩
 ·
  exact .inl h
 ·
  exact .inr ⟨ad, c, h1, h2, h3, h4, h5.below hb h5.lt⟩
theorem Bs.raw {w : World} {v : Value} {ys : List UInt8} (h : Bs w v ys) : RawIn w v ys := by
 rcases h with h | ⟨ad, c, h1, _, _, _, h5⟩
 ·
  exact .inl h
 ·
  exact .inr ⟨ad, c, h1, h5⟩
theorem Bs.form {w : World} {v : Value} {ys : List UInt8} (h : Bs w v ys) : ∃ A c, v = .slice A ys.length c := by
 rcases h with ⟨h, rfl⟩ | ⟨ad, c, h1, _⟩
 ·
  exact ⟨none, 0, h⟩
 ·
  exact ⟨_, _, h1⟩
theorem Bs.one {w : World} {v : Value} {ys : List UInt8} (h : Bs w v ys) : v.oneCell' = true := by
 obtain ⟨A, c, rfl⟩ := h.form
 rfl
theorem SrcA.only {g : Nat} {w w' : World} {ad : Addr} {ys : List UInt8} (h : SrcA w ad ys) (ho : Only g w w' none) (hne : ys ≠ [] → ad.block ≠ g) : SrcA w' ad ys := by
 intro j u hu
 have hj := (List.getElem?_eq_some_iff.1 hu).1
 rw [Array.length_toList, B8_size] at hj
 have hn : ys ≠ [] := fun e => by rw [e] at hj; exact absurd hj (by simp)
 have h0 := h j u hu
 have hb := block_lt h0
 rw [adds_block] at hb
 refine Eq.trans ?_ h0
 have := ho.block ad.block hb (hne hn) (by simp)
 have e : (ad.add j).block = ad.block := adds_block _ _
 unfold World.cell?
 rw [e, this]
def Off (g B : Nat) (v : Value) (ys : List UInt8) : Prop := ∀ ad n c, v = .slice (some ad) n c → ys ≠ [] → ad.block < B ∧ B ≤ g
theorem Off.ne {g B : Nat} {v : Value} {ys : List UInt8} (h : Off g B v ys) {ad : Addr} {n c : Nat} (e : v = .slice (some ad) n c) (hy : ys ≠ []) : ad.block ≠ g := by
 have := h ad n c e hy
 omega
theorem Bs.only {g B : Nat} {w w' : World} {v : Value} {ys : List UInt8} (h : Bs w v ys) (ho : Only g w w' none) (hne : Off g B v ys) : Bs w' v ys := by
 rcases h with h | ⟨ad, c, h1, h2, h3, h4, h5⟩
 ·
  exact .inl h
 ·
  exact .inr ⟨ad, c, h1, h2, h3, h4, h5.only ho (fun h => hne.ne h1 h)⟩
theorem Bs.grown {w w' : World} {o : Option Nat} {v : Value} {ys : List UInt8} (h : Bs w v ys) (hg : w.grownBy w' o) (hne : ∀ ad n c, v = .slice (some ad) n c → ys ≠ [] → o ≠ some ad.block) : Bs w' v ys := by
 rcases h with h | ⟨ad, c, h1, h2, h3, h4, h5⟩
 ·
  exact .inl h
 ·
  refine .inr ⟨ad, c, h1, h2, h3, h4, fun j u hu => ?_⟩
  have hj := (List.getElem?_eq_some_iff.1 hu).1
  rw [Array.length_toList, B8_size] at hj
  have h0 := h5 j u hu
  have hb := block_lt h0
  rw [adds_block] at hb
  refine Eq.trans (World.cell?_of_block ?_) h0
  rw [adds_block]
  exact hg.block _ hb (fun e => hne ad _ c h1 (fun e2 => by rw [e2] at hj; exact absurd hj (by simp)) e.symm)
def RfR (w : World) (g B : Nat) (xs : List UInt8) : Option Nat → Prop
 | some a => a ≤ xs.length ∧ ∃ v, Lies w g #[v, .bool false] 60 ∧ Bs w v (xs.drop a) ∧ Off g B v (xs.drop a)
 | none => ∃ A n c, Lies w g #[.slice A n c, .bool true] 60
theorem RfR.below {w w' : World} {g B : Nat} {xs : List UInt8} {st : Option Nat} (h : RfR w g B xs st) (hb : Below w.heap.size w w') : RfR w' g B xs st := by
 cases st with
 | none => obtain ⟨A, n, c, h1⟩ := h; exact ⟨A, n, c, h1.below hb h1.lt⟩
 | some a => obtain ⟨ha, v, h1, h2, h3⟩ := h; exact ⟨ha, v, h1.below hb h1.lt, h2.below hb, h3⟩
theorem RfR.lt {w : World} {g B : Nat} {xs : List UInt8} {st : Option Nat} (h : RfR w g B xs st) : g < w.heap.size := by
 cases st with
 | none => obtain ⟨A, n, c, h1⟩ := h; exact h1.lt
 | some a => obtain ⟨ha, v, h1, h2, h3⟩ := h; exact h1.lt
theorem RfR.bad {w : World} {g B : Nat} {xs : List UInt8} {st : Option Nat} (h : RfR w g B xs st) : RfR (w.setCell ⟨g, 1, none⟩ (.bool true)) g B xs none := by
  cases st with
  | none => obtain ⟨A, n, c, h1⟩ := h; exact ⟨A, n, c, h1.set 1 _⟩
  | some a =>
    obtain ⟨ha, v, h1, h2, h3⟩ := h
    obtain ⟨A, c, rfl⟩ := h2.form
    exact ⟨A, _, c, h1.set 1 _⟩
theorem RfR.cell1 {w : World} {g B : Nat} {xs : List UInt8} {st : Option Nat} (h : RfR w g B xs st) : w.cell? ⟨g, 1, none⟩ = some (.bool st.isNone) := by
 cases st with
 | none => obtain ⟨A, n, c, h1⟩ := h; exact h1.cell 1 rfl
 | some a => obtain ⟨ha, v, h1, h2, h3⟩ := h; exact h1.cell 1 rfl
theorem RfR.free {w : World} {g B : Nat} {xs : List UInt8} {st : Option Nat} (h : RfR w g B xs st) (j : Nat) : w.frozen? ⟨g, j, none⟩ = false := by
 cases st with
 | none => obtain ⟨A, n, c, h1⟩ := h; exact h1.free j
 | some a => obtain ⟨ha, v, h1, h2, h3⟩ := h; exact h1.free j
theorem SrcA.drop {w : World} {ad : Addr} {ys : List UInt8} (h : SrcA w ad ys) (n : Nat) : SrcA w (ad.add n) (ys.drop n) := by
 intro j u hu
 have hj := (List.getElem?_eq_some_iff.1 hu).1
 rw [Array.length_toList, B8_size, List.length_drop] at hj
 rw [Go.Deep.add_add]
 refine h (n + j) u ?_
 rw [Array.getElem?_toList, B8_get _ _ (by rw [List.length_drop]; omega)] at hu
 rw [Array.getElem?_toList, B8_get _ _ (by omega), ← hu]
 simp [List.getD_eq_getElem?_getD]
theorem SrcA.take {w : World} {ad : Addr} {ys : List UInt8} (h : SrcA w ad ys) (n : Nat) : SrcA w ad (ys.take n) := by
 intro j u hu
 have hj := (List.getElem?_eq_some_iff.1 hu).1
 rw [Array.length_toList, B8_size, List.length_take] at hj
 refine h j u ?_
 rw [Array.getElem?_toList, B8_get _ _ (by rw [List.length_take]; omega)] at hu
 rw [Array.getElem?_toList, B8_get _ _ (by omega), ← hu]
 simp only [List.getD_eq_getElem?_getD]
 rw [List.getElem?_take_of_lt (by omega)]
end Go.Proofs.YtilbbemdinpjcaaGreat.W
namespace Go.Proofs.YtilbbemdinpjcaaGreat.W
open Go.RowKit
def RSt (w : World) (g k : Nat) (xs : List UInt8) (c : Nat) : Option Nat → Prop
 | some a => a ≤ xs.length ∧ Rdr w g k xs c a false
 | none => ∃ a, Rdr w g k xs c a true
theorem RSt.below {w w' : World} {g k : Nat} {xs : List UInt8} {c : Nat} {st : Option Nat} (h : RSt w g k xs c st) (hb : Below w.heap.size w w') : RSt w' g k xs c st := by
 cases st with
 | none => obtain ⟨a, h⟩ := h; exact ⟨a, h.below hb⟩
 | some a => exact ⟨h.1, h.2.below hb⟩
theorem RSt.lt {w : World} {g k : Nat} {xs : List UInt8} {c : Nat} {st : Option Nat} (h : RSt w g k xs c st) : g < w.heap.size ∧ k < w.heap.size ∧ k ≠ g := by
 cases st with
 | none => obtain ⟨a, h⟩ := h; exact ⟨h.1.lt, h.2.2.2.1, h.2.2.1⟩
 | some a => exact ⟨h.2.1.lt, h.2.2.2.2.1, h.2.2.2.1⟩
theorem RSt.only {w w' : World} {g k g' : Nat} {xs : List UInt8} {c : Nat} {st : Option Nat} (h : RSt w g k xs c st) (ho : Only g' w w' none) (h1 : g ≠ g') (h2 : k ≠ g') : RSt w' g k xs c st := by
 have key : ∀ a sp, Rdr w g k xs c a sp → Rdr w' g k xs c a sp := fun a sp h => ⟨ho.lies h.1 h1, h.2.1.only ho h.2.2.2.1 h2, h.2.2.1, Nat.lt_of_lt_of_le h.2.2.2.1 ho.size, h.2.2.2.2⟩
 cases st with
 | none => obtain ⟨a, h⟩ := h; exact ⟨a, key _ _ h⟩
 | some a => exact ⟨h.1, key _ _ h.2⟩
theorem Rdr.idle {w : World} {g k : Nat} {xs : List UInt8} {c a : Nat} (h : Rdr w g k xs c a true) : Idle w (some ⟨g, 0, none⟩) := .inr ⟨g, rfl, h.1.lt, .inr ⟨h.1.cell 0 rfl, h.1.cell 1 rfl⟩⟩
def numV (xs : List UInt8) (st : Option Nat) (s : Nat) : Nat := match st with | some a => if a + s ≤ xs.length then beVal ((xs.drop a).take s) else 0 | none => 0
def numS (xs : List UInt8) (st : Option Nat) (s : Nat) : Option Nat := match st with | some a => if a + s ≤ xs.length then some (a + s) else none | none => none
def hashV (xs : List UInt8) (st : Option Nat) : List UInt8 := match st with | some a => if a + 32 ≤ xs.length then (xs.drop a).take 32 else List.replicate 32 0 | none => List.replicate 32 0
def RawOk (xs : List UInt8) (a : Nat) (n : Int) : Prop := 0 ≤ n ∧ n ≤ (xs.length : Int) - a
instance (xs : List UInt8) (a : Nat) (n : Int) : Decidable (RawOk xs a n) := by unfold RawOk; infer_instance
def TextOk (xs : List UInt8) (a : Nat) (m : Int) : Prop := a + 2 ≤ xs.length ∧ (beVal ((xs.drop a).take 2) : Int) ≤ m ∧ a + 2 + beVal ((xs.drop a).take 2) ≤ xs.length
instance (xs : List UInt8) (a : Nat) (m : Int) : Decidable (TextOk xs a m) := by unfold TextOk; infer_instance
def textV (xs : List UInt8) (st : Option Nat) (m : Int) : List UInt8 := match st with | some a => if TextOk xs a m then (xs.drop (a + 2)).take (beVal ((xs.drop a).take 2)) else [] | none => []
def textS (xs : List UInt8) (st : Option Nat) (m : Int) : Option Nat := match st with | some a => if TextOk xs a m then some (a + 2 + beVal ((xs.drop a).take 2)) else none | none => none
def FlagOk (xs : List UInt8) (a : Nat) : Prop := a + 1 ≤ xs.length ∧ beVal ((xs.drop a).take 1) ≤ 1
instance (xs : List UInt8) (a : Nat) : Decidable (FlagOk xs a) := by unfold FlagOk; infer_instance
def flagV (xs : List UInt8) (st : Option Nat) : Bool := match st with | some a => if FlagOk xs a then decide (beVal ((xs.drop a).take 1) = 1) else false | none => false
def flagS (xs : List UInt8) (st : Option Nat) : Option Nat := match st with | some a => if FlagOk xs a then some (a + 1) else none | none => none
def CountOk (xs : List UInt8) (a : Nat) (m : Int) : Prop := a + 2 ≤ xs.length ∧ (beVal ((xs.drop a).take 2) : Int) ≤ m
instance (xs : List UInt8) (a : Nat) (m : Int) : Decidable (CountOk xs a m) := by unfold CountOk; infer_instance
def countV (xs : List UInt8) (st : Option Nat) (m : Int) : Nat := match st with | some a => if CountOk xs a m then beVal ((xs.drop a).take 2) else 0 | none => 0
def countS (xs : List UInt8) (st : Option Nat) (m : Int) : Option Nat := match st with | some a => if CountOk xs a m then some (a + 2) else none | none => none
def leftV (xs : List UInt8) (st : Option Nat) : Nat := match st with | some a => xs.length - a | none => 0
def errV (st : Option Nat) : Int := if st.isNone then 4 else 0
theorem ask25_st (w : World) (g k : Nat) (xs : List UInt8) (c : Nat) (st : Option Nat) (h : RSt w g k xs c st) :
    Calls Tryz.prog 200 #[.pointer (some ⟨g, 0, none⟩)] w fun e w' => e = .returned (.int .i64 (numV xs st 1)) ∧ RSt w' g k xs c (numS xs st 1) ∧ Only g w w' none := by
  cases st with
  | none =>
    obtain ⟨a, h⟩ := h
    refine (ask25_idle w _ h.idle).mono ?_
    rintro e w' ⟨rfl, hb⟩
    exact ⟨rfl, ⟨a, h.below hb⟩, only_below hb⟩
  | some a =>
    obtain ⟨ha, h⟩ := h
    by_cases hn : a + 1 ≤ xs.length
    · refine (ask25_good w g k xs c a h hn).mono ?_
      rintro e w' ⟨rfl, hr, ho⟩
      refine ⟨by simp [numV, hn] <;> rfl, ?_, ho⟩
      simp only [numS, if_pos hn]
      exact ⟨hn, hr⟩
    · refine (ask25_bad w g k xs c a h ha (by omega)).mono ?_
      rintro e w' ⟨rfl, hr, ho⟩
      refine ⟨by simp [numV, hn] <;> rfl, ?_, ho⟩
      simp only [numS, if_neg hn]
      exact ⟨a, hr⟩
theorem ask53_st (w : World) (g k : Nat) (xs : List UInt8) (c : Nat) (st : Option Nat) (h : RSt w g k xs c st) :
    Calls Tryz.prog 251 #[.pointer (some ⟨g, 0, none⟩)] w fun e w' => e = .returned (.int .i64 (numV xs st 2)) ∧ RSt w' g k xs c (numS xs st 2) ∧ Only g w w' none := by
  cases st with
  | none =>
    obtain ⟨a, h⟩ := h
    refine (ask53_idle w _ h.idle).mono ?_
    rintro e w' ⟨rfl, hb⟩
    exact ⟨rfl, ⟨a, h.below hb⟩, only_below hb⟩
  | some a =>
    obtain ⟨ha, h⟩ := h
    by_cases hn : a + 2 ≤ xs.length
    · refine (ask53_good w g k xs c a h hn).mono ?_
      rintro e w' ⟨rfl, hr, ho⟩
      refine ⟨by simp [numV, hn] <;> rfl, ?_, ho⟩
      simp only [numS, if_pos hn]
      exact ⟨hn, hr⟩
    · refine (ask53_bad w g k xs c a h ha (by omega)).mono ?_
      rintro e w' ⟨rfl, hr, ho⟩
      refine ⟨by simp [numV, hn] <;> rfl, ?_, ho⟩
      simp only [numS, if_neg hn]
      exact ⟨a, hr⟩
theorem ask54_st (w : World) (g k : Nat) (xs : List UInt8) (c : Nat) (st : Option Nat) (h : RSt w g k xs c st) :
    Calls Tryz.prog 224 #[.pointer (some ⟨g, 0, none⟩)] w fun e w' => e = .returned (.int .i64 (numV xs st 4)) ∧ RSt w' g k xs c (numS xs st 4) ∧ Only g w w' none := by
  cases st with
  | none =>
    obtain ⟨a, h⟩ := h
    refine (ask54_idle w _ h.idle).mono ?_
    rintro e w' ⟨rfl, hb⟩
    exact ⟨rfl, ⟨a, h.below hb⟩, only_below hb⟩
  | some a =>
    obtain ⟨ha, h⟩ := h
    by_cases hn : a + 4 ≤ xs.length
    · refine (ask54_good w g k xs c a h hn).mono ?_
      rintro e w' ⟨rfl, hr, ho⟩
      refine ⟨by simp [numV, hn] <;> rfl, ?_, ho⟩
      simp only [numS, if_pos hn]
      exact ⟨hn, hr⟩
    · refine (ask54_bad w g k xs c a h ha (by omega)).mono ?_
      rintro e w' ⟨rfl, hr, ho⟩
      refine ⟨by simp [numV, hn] <;> rfl, ?_, ho⟩
      simp only [numS, if_neg hn]
      exact ⟨a, hr⟩
theorem ask55_st (w : World) (g k : Nat) (xs : List UInt8) (c : Nat) (st : Option Nat) (h : RSt w g k xs c st) :
    Calls Tryz.prog 256 #[.pointer (some ⟨g, 0, none⟩)] w fun e w' => e = .returned (.int .u64 (numV xs st 8)) ∧ RSt w' g k xs c (numS xs st 8) ∧ Only g w w' none := by
  cases st with
  | none =>
    obtain ⟨a, h⟩ := h
    refine (ask55_idle w _ h.idle).mono ?_
    rintro e w' ⟨rfl, hb⟩
    exact ⟨rfl, ⟨a, h.below hb⟩, only_below hb⟩
  | some a =>
    obtain ⟨ha, h⟩ := h
    by_cases hn : a + 8 ≤ xs.length
    · refine (ask55_good w g k xs c a h hn).mono ?_
      rintro e w' ⟨rfl, hr, ho⟩
      refine ⟨by simp [numV, hn] <;> rfl, ?_, ho⟩
      simp only [numS, if_pos hn]
      exact ⟨hn, hr⟩
    · refine (ask55_bad w g k xs c a h ha (by omega)).mono ?_
      rintro e w' ⟨rfl, hr, ho⟩
      refine ⟨by simp [numV, hn] <;> rfl, ?_, ho⟩
      simp only [numS, if_neg hn]
      exact ⟨a, hr⟩
theorem ask56_st (w : World) (g k : Nat) (xs : List UInt8) (c : Nat) (st : Option Nat) (h : RSt w g k xs c st) :
    Calls Tryz.prog 221 #[.pointer (some ⟨g, 0, none⟩)] w fun e w' => e = .returned (.int .i64 (IntKind.i64.wrap (numV xs st 8))) ∧ RSt w' g k xs c (numS xs st 8) ∧ Only g w w' none := by
  cases st with
  | none =>
    obtain ⟨a, h⟩ := h
    refine (ask56_idle w _ h.idle).mono ?_
    rintro e w' ⟨rfl, hb⟩
    exact ⟨rfl, ⟨a, h.below hb⟩, only_below hb⟩
  | some a =>
    obtain ⟨ha, h⟩ := h
    by_cases hn : a + 8 ≤ xs.length
    · refine (ask56_good w g k xs c a h hn).mono ?_
      rintro e w' ⟨rfl, hr, ho⟩
      refine ⟨by simp [numV, hn] <;> rfl, ?_, ho⟩
      simp only [numS, if_pos hn]
      exact ⟨hn, hr⟩
    · refine (ask56_bad w g k xs c a h ha (by omega)).mono ?_
      rintro e w' ⟨rfl, hr, ho⟩
      refine ⟨by simp [numV, hn] <;> rfl, ?_, ho⟩
      simp only [numS, if_neg hn]
      exact ⟨a, hr⟩
theorem flag_rst (w : World) (g k : Nat) (xs : List UInt8) (c : Nat) (st : Option Nat) (h : RSt w g k xs c st) :
    Calls Tryz.prog 273 #[.pointer (some ⟨g, 0, none⟩)] w fun e w' => e = .returned (.bool (flagV xs st)) ∧ RSt w' g k xs c (flagS xs st) ∧ Only g w w' none := by
  cases st with
  | none =>
    obtain ⟨a, h⟩ := h
    refine (ask33_idle w _ h.idle).mono ?_
    rintro e w' ⟨rfl, hb⟩
    exact ⟨rfl, ⟨a, h.below hb⟩, only_below hb⟩
  | some a =>
    obtain ⟨ha, h⟩ := h
    by_cases hn : FlagOk xs a
    · refine (flag_good w g k xs c a h hn.1 (by have := hn.2; omega)).mono ?_
      rintro e w' ⟨rfl, hr, ho⟩
      refine ⟨by simp [flagV, hn], ?_, ho⟩
      simp only [flagS, if_pos hn]
      exact ⟨hn.1, hr⟩
    · refine (flag_bad w g k xs c a h ha (by unfold FlagOk at hn; omega)).mono ?_
      rintro e w' ⟨rfl, hr, ho⟩
      refine ⟨by simp [flagV, hn], ?_, ho⟩
      simp only [flagS, if_neg hn]
      exact ⟨a, hr⟩
theorem count_rst (w : World) (g k : Nat) (xs : List UInt8) (c : Nat) (st : Option Nat) (m : Int) (h : RSt w g k xs c st) :
    Calls Tryz.prog 217 #[.pointer (some ⟨g, 0, none⟩), .int .i64 m] w fun e w' => e = .returned (.int .i64 (countV xs st m)) ∧ RSt w' g k xs c (countS xs st m) ∧ Only g w w' none := by
  cases st with
  | none =>
    obtain ⟨a, h⟩ := h
    refine (ask31_idle w _ m h.idle).mono ?_
    rintro e w' ⟨rfl, hb⟩
    exact ⟨rfl, ⟨a, h.below hb⟩, only_below hb⟩
  | some a =>
    obtain ⟨ha, h⟩ := h
    by_cases hn : CountOk xs a m
    · refine (count_good w g k xs c a m h hn.1 hn.2).mono ?_
      rintro e w' ⟨rfl, hr, ho⟩
      refine ⟨by simp [countV, hn], ?_, ho⟩
      simp only [countS, if_pos hn]
      exact ⟨hn.1, hr⟩
    · refine (count_bad w g k xs c a m h ha (by unfold CountOk at hn; omega)).mono ?_
      rintro e w' ⟨rfl, hr, ho⟩
      refine ⟨by simp [countV, hn], ?_, ho⟩
      simp only [countS, if_neg hn]
      exact ⟨a, hr⟩
theorem hash_rst (w : World) (g k : Nat) (xs : List UInt8) (c : Nat) (st : Option Nat) (h : RSt w g k xs c st) :
    Calls Tryz.prog 228 #[.pointer (some ⟨g, 0, none⟩)] w fun e w' => e = .returned (.agg (B8 (hashV xs st))) ∧ RSt w' g k xs c (numS xs st 32) ∧ Only g w w' none := by
  cases st with
  | none =>
    obtain ⟨a, h⟩ := h
    refine (ask57_idle w _ h.idle).mono ?_
    rintro e w' ⟨rfl, hb⟩
    exact ⟨rfl, ⟨a, h.below hb⟩, only_below hb⟩
  | some a =>
    obtain ⟨ha, h⟩ := h
    by_cases hn : a + 32 ≤ xs.length
    · refine (ask57_good w g k xs c a h _ hn rfl (by rw [List.length_take, List.length_drop]; omega)).mono ?_
      rintro e w' ⟨rfl, hr, ho⟩
      refine ⟨by simp only [hashV, if_pos hn], ?_, ho⟩
      simp only [numS, if_pos hn]
      exact ⟨hn, hr⟩
    · refine (ask57_bad w g k xs c a h ha (by omega)).mono ?_
      rintro e w' ⟨rfl, hr, ho⟩
      refine ⟨by simp only [hashV, if_neg hn]; rfl, ?_, ho⟩
      simp only [numS, if_neg hn]
      exact ⟨a, hr⟩
theorem text_rst (w : World) (g k : Nat) (xs : List UInt8) (c : Nat) (st : Option Nat) (m : Int) (h : RSt w g k xs c st) :
    Calls Tryz.prog 254 #[.pointer (some ⟨g, 0, none⟩), .int .i64 m] w fun e w' => e = .returned (.string ⟨(textV xs st m).toArray⟩) ∧ RSt w' g k xs c (textS xs st m) ∧ Only g w w' none := by
  cases st with
  | none =>
    obtain ⟨a, h⟩ := h
    refine (ask32_idle w _ m h.idle).mono ?_
    rintro e w' ⟨rfl, hb⟩
    exact ⟨rfl, ⟨a, h.below hb⟩, only_below hb⟩
  | some a =>
    obtain ⟨ha, h⟩ := h
    by_cases hn : TextOk xs a m
    · have hv : textV xs (some a) m = (xs.drop (a + 2)).take (beVal ((xs.drop a).take 2)) := by simp only [textV, if_pos hn]
      have hs : textS xs (some a) m = some (a + 2 + beVal ((xs.drop a).take 2)) := by simp only [textS, if_pos hn]
      rw [hv, hs]
      by_cases h0 : beVal ((xs.drop a).take 2) = 0
      · refine (rtext_zero w g k xs c a m h hn.1 h0 (by have := hn.2.1; omega)).mono ?_
        rintro e w' ⟨rfl, hr, ho⟩
        rw [h0]
        exact ⟨rfl, ⟨hn.1, hr⟩, ho⟩
      · refine (rtext_some w g k xs c a m (beVal ((xs.drop a).take 2)) _ h hn.2.2 (by omega) rfl hn.2.1 rfl).mono ?_
        rintro e w' ⟨rfl, hr, ho⟩
        exact ⟨rfl, ⟨hn.2.2, hr⟩, ho⟩
    · have hv : textV xs (some a) m = [] := by simp only [textV, if_neg hn]
      have hs : textS xs (some a) m = none := by simp only [textS, if_neg hn]
      rw [hv, hs]
      refine (rtext_bad w g k xs c a m h ha (by unfold TextOk at hn; omega)).mono ?_
      rintro e w' ⟨rfl, hr, ho⟩
      exact ⟨rfl, ⟨a, hr⟩, ho⟩
theorem left_rst (w : World) (g k : Nat) (xs : List UInt8) (c : Nat) (st : Option Nat) (h : RSt w g k xs c st) :
    Calls Tryz.prog 28 #[.pointer (some ⟨g, 0, none⟩)] w fun e w' => e = .returned (.int .i64 (leftV xs st)) ∧ Below w.heap.size w w' := by
  cases st with
  | none =>
    obtain ⟨a, h⟩ := h
    refine (left_idle w _ h.idle).mono ?_
    rintro e w' ⟨rfl, rfl⟩
    exact ⟨rfl, Below.refl _ _⟩
  | some a => exact left_good w g k xs c a h.2 h.1
theorem err_rst (w : World) (g k : Nat) (xs : List UInt8) (c : Nat) (st : Option Nat) (h : RSt w g k xs c st) :
    Calls Tryz.prog 30 #[.pointer (some ⟨g, 0, none⟩)] w fun e w' => e = .returned (.int .i64 (errV st)) ∧ w = w' := by
  cases st with
  | none =>
    obtain ⟨a, h⟩ := h
    exact err_any w g k xs c a true h
  | some a => exact err_any w g k xs c a false h.2
end Go.Proofs.YtilbbemdinpjcaaGreat.W
namespace Go.Proofs.YtilbbemdinpjcaaGreat.W
open Go.RowKit
theorem PutD.one {p : PutD} {W : World} (h : p.Ok W) : p.cells.all (·.oneCell') = true := by
 obtain ⟨A, c, hb⟩ := PutD.rawv h
 rw [Array.all_eq_true_iff_forall_mem]
 intro v hv
 simp only [PutD.cells, Array.mem_append] at hv
 rcases hv with (hv | hv) | hv
 ·
  simp at hv; rcases hv with rfl | rfl | rfl <;> rfl
 ·
  exact (Array.all_eq_true_iff_forall_mem.1 (B8_one p.hs)) v hv
 ·
  simp at hv; rcases hv with rfl | rfl
  ·
   rw [hb]; rfl
  ·
   rfl
def PutD.with (p : PutD) (u : Value) : PutD := ⟨p.n0, p.n1, p.n2, p.hs, u, p.xs, p.s⟩
structure Inner (w6 : World) (u : Value) (xs : List UInt8) (m : Nat) (W : World) : Prop where
 grown : w6.grownBy W u.ownBlock
 row : ∀ g c, u = .slice (some ⟨g, 0, none⟩) xs.length c → ∃ cur, Lies W g cur 5 ∧ ∀ j, m ≤ j → j < xs.length → cur[j]? = some (.int .u8 (xs.getD j 0).toNat)
theorem Inner.next {w6 W : World} {g c : Nat} {xs : List UInt8} {m : Nat} (h : Inner w6 (.slice (some ⟨g, 0, none⟩) xs.length c) xs m W) (q : Nat) (v : Value) : Inner w6 (.slice (some ⟨g, 0, none⟩) xs.length c) xs (m + 1) ((W.drewN q).setCell ⟨g, m, none⟩ v) := by
 refine ⟨grown_set (grown_drewN h.grown q) m v, fun g' c' e => ?_⟩
 cases e
 obtain ⟨cur, hl, hc⟩ := h.row g c rfl
 refine ⟨_, (show Lies (W.drewN q) g cur 5 from hl).set m v, fun j hj hx => ?_⟩
 rw [Array.getElem?_setIfInBounds_ne (by omega)]
 exact hc j (by omega) hx
end Go.Proofs.YtilbbemdinpjcaaGreat.W
namespace Go.Proofs.YtilbbemdinpjcaaGreat.W
open Go.RowKit
theorem Bs.cell {w : World} {v : Value} {ys : List UInt8} (h : Bs w v ys) (hp : 0 < ys.length) : ∃ b o c, v = .slice (some ⟨b, o, none⟩) ys.length c ∧ Src w b o ys := by
 rcases h with ⟨_, rfl⟩ | ⟨ad, c, rfl, _, _, hsp, hs⟩
 ·
  simp at hp
 ·
  obtain ⟨b, o, spot⟩ := ad
  have : spot = none := hsp (fun e => by rw [e] at hp; simp at hp)
  subst this
  refine ⟨b, o, c, rfl, fun j hj => ?_⟩
  have := hs j _ (by rw [Array.getElem?_toList]; exact B8_get ys j hj)
  rwa [Addr.add_mid] at this
theorem RfR.le {w : World} {g B : Nat} {xs : List UInt8} {st : Option Nat} (h : RfR w g B xs st) : ∀ a, st = some a → a ≤ xs.length := by
 rintro a rfl
 exact h.1
theorem numV_lt (xs : List UInt8) (st : Option Nat) (s : Nat) : numV xs st s < 256 ^ s := by
  have hp : 0 < 256 ^ s := Nat.pow_pos (by decide)
  cases st with
  | none => exact hp
  | some a =>
    simp only [numV]
    split
    · exact beVal_take xs a s
    · exact hp
end Go.Proofs.YtilbbemdinpjcaaGreat.W
namespace Go.Proofs.YtilbbemdinpjcaaGreat.W
open Go.RowKit
theorem bs_text {w : World} {u : Value} {l : List UInt8} (h : Bs w u l) : (convert 54 9 u).run Tryz.prog w = .ok (.string ⟨l.toArray⟩) w := by
 rcases h with ⟨rfl, rfl⟩ | ⟨ad, c, rfl, _, _, _, hs⟩
 ·
  rw [run_convert_bytes_string w 54 9 5 none 0 0 Tryz.underlying54 Tryz.underlying5 Tryz.underlying9]
  simp [Conv.bytesToString]
  rfl
 ·
  exact run_convert_bytes_back w 54 9 5 ad c l Tryz.underlying54 Tryz.underlying5 Tryz.underlying9 (fun j hj => by
   have := hs j _ (by rw [Array.getElem?_toList]; exact B8_get l j hj)
   rw [this]
   simp [hj])
theorem RfR.back {w : World} {g B : Nat} {xs : List UInt8} {st : Option Nat} (h : RfR w g B xs st) (A : Option Addr) (n c : Nat) : RfR ((w.setCell ⟨g, 1, none⟩ (.bool true)).setCell ⟨g, 0, none⟩ (.slice A n c)) g B xs none := by
 obtain ⟨_, _, _, h1⟩ := h.bad
 exact ⟨A, n, c, h1.set 0 _⟩
end Go.Proofs.YtilbbemdinpjcaaGreat.W
namespace Go.Proofs.YtilbbemdinpjcaaGreat.W
open Go.RowKit
def part (ys : List UInt8) (t : Nat) : List UInt8 := ys.take t ++ (List.replicate 32 0).drop t
theorem part_next (ys : List UInt8) (t : Nat) (h : t < ys.length) (h2 : ys.length ≤ 32) : (part ys t).set t (ys.getD t 0) = part ys (t + 1) := by
 unfold part
 have h1 : (ys.take t).length = t := by rw [List.length_take]; omega
 rw [List.set_append, if_neg (by omega), h1, Nat.sub_self, List.take_succ_eq_append_getElem h]
 have h3 : (List.replicate 32 (0 : UInt8)).drop t = 0 :: (List.replicate 32 (0 : UInt8)).drop (t + 1) := by
  rw [List.drop_eq_getElem_cons (by rw [List.length_replicate]; omega), List.getElem_replicate]
 rw [h3, List.set_cons_zero, List.append_assoc]
 simp [List.getD_eq_getElem?_getD, h]
theorem RfR.grown {w w' : World} {g B : Nat} {xs : List UInt8} {st : Option Nat} {k : Nat} (h : RfR w g B xs st) (hg : w.grownBy w' (some k)) (hk : g < k) : RfR w' g B xs st := by
  have hlt := h.lt
  have hkeep : ∀ cs t, Lies w g cs t → Lies w' g cs t := fun cs t hl => hl.grown hg (by omega)
  cases st with
  | none => obtain ⟨A, n, c, h1⟩ := h; exact ⟨A, n, c, hkeep _ _ h1⟩
  | some a =>
    obtain ⟨ha, v, h1, h2, h3⟩ := h
    exact ⟨ha, v, hkeep _ _ h1, h2.grown hg (fun ad n c e hne e2 => by have := h3 ad n c e hne; have := Option.some.inj e2; omega), h3⟩
structure HashI (w : World) (g B : Nat) (xs : List UInt8) (st : Option Nat) (v : Value) (ys : List UInt8) (t : Nat) (W : World) : Prop where
 h : Lies W (w.heap.size + 1) (B8 (part ys t)) 30
 z : Lies W w.heap.size z32 30
 r : RfR W g B xs st
 o : Only g w W none
 b : Bs W v ys
 off : ∀ ad n c, v = .slice (some ad) n c → ys ≠ [] → ad.block < w.heap.size
theorem HashI.next {w : World} {g B : Nat} {xs : List UInt8} {st : Option Nat} {v : Value} {ys : List UInt8} {t : Nat} {W : World} (h : HashI w g B xs st v ys t W) (hg : g < w.heap.size) (ht : t < ys.length) (h2 : ys.length ≤ 32) :
  HashI w g B xs st v ys (t + 1) (W.setCell ⟨w.heap.size + 1, t, none⟩ (.int .u8 (ys.getD t 0).toNat)) := by
 have hgr : W.grownBy (W.setCell ⟨w.heap.size + 1, t, none⟩ (.int .u8 (ys.getD t 0).toNat)) (some (w.heap.size + 1)) := grown_set (grown_refl W _) t _
 refine ⟨?_, h.z.grown hgr (by omega), h.r.grown hgr (by omega), ?_, h.b.grown hgr (fun ad n c e hne e2 => by have := h.off ad n c e hne; have := Option.some.inj e2; omega), h.off⟩
 ·
  have := h.h.set t (.int .u8 (ys.getD t 0).toNat)
  rwa [B8_set, part_next ys t ht h2] at this
 ·
  exact ⟨h.o.os, h.o.tape, h.o.output, by rw [size_set]; exact h.o.size, fun k hk h1 h3 => (heap_setCell_other W _ k _ (by show k ≠ w.heap.size + 1; omega)).trans (h.o.block k hk h1 h3)⟩
end Go.Proofs.YtilbbemdinpjcaaGreat.W
