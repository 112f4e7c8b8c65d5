/-
  WireWrites: its walk, for any row of Puts.
-/
import Derived.Test.YtilbbemdinpjcaaGreatJWPutIn
import Derived.Test.YtilbbemdinpjcaaGreatJWRnum
import Derived.Deep.Slices
import Derived.Test.YtilbbemdinpjcaaGreatJWRHash
import Derived.Test.YtilbbemdinpjcaaGreatJWRTzero
import Derived.Test.YtilbbemdinpjcaaGreatJWTwo
import Derived.Laws.AppendOwnNone
import Derived.Deep.CutRange
import Derived.Deep.MidRow
namespace Go.Proofs.YtilbbemdinpjcaaGreat.W
open Go.RowKit

/-- A slice that reads as these bytes: nil, empty or not. -/
def Bs (w : World) (v : Value) (ys : List UInt8) : Prop :=
  (v = .slice none 0 0 ∧ ys = []) ∨ ∃ ad c, v = .slice (some ad) ys.length c ∧ ys.length ≤ c ∧ c ≤ maxLen ∧ (ys ≠ [] → ad.spot = none) ∧ SrcA w ad ys
theorem Bs.below {w w' : World} {v : Value} {ys : List UInt8} (h : Bs w v ys) (hb : Below w.heap.size w w') : Bs w' v ys := by
  rcases h with h | ⟨ad, c, h1, h2, h3, h4, h5⟩
  · exact .inl h
  · exact .inr ⟨ad, c, h1, h2, h3, h4, h5.below hb h5.lt⟩
theorem Bs.raw {w : World} {v : Value} {ys : List UInt8} (h : Bs w v ys) : RawIn w v ys := by
  rcases h with h | ⟨ad, c, h1, _, _, _, h5⟩
  · exact .inl h
  · exact .inr ⟨ad, c, h1, h5⟩
theorem Bs.form {w : World} {v : Value} {ys : List UInt8} (h : Bs w v ys) : ∃ A c, v = .slice A ys.length c := by
  rcases h with ⟨h, rfl⟩ | ⟨ad, c, h1, _⟩
  · exact ⟨none, 0, h⟩
  · exact ⟨_, _, h1⟩
theorem Bs.one {w : World} {v : Value} {ys : List UInt8} (h : Bs w v ys) : v.oneCell' = true := by
  obtain ⟨A, c, rfl⟩ := h.form
  rfl
theorem SrcA.only {g : Nat} {w w' : World} {ad : Addr} {ys : List UInt8} (h : SrcA w ad ys) (ho : Only g w w' none) (hne : ys ≠ [] → ad.block ≠ g) : SrcA w' ad ys := by
  intro j u hu
  have hj := (List.getElem?_eq_some_iff.1 hu).1
  rw [Array.length_toList, B8_size] at hj
  have hn : ys ≠ [] := fun e => by rw [e] at hj; exact absurd hj (by simp)
  have h0 := h j u hu
  have hb := block_lt h0
  rw [adds_block] at hb
  refine Eq.trans ?_ h0
  have := ho.block ad.block hb (hne hn) (by simp)
  have e : (ad.add j).block = ad.block := adds_block _ _
  unfold World.cell?
  rw [e, this]
/-- Where the bytes stand is older than block B. -/
def Off (g B : Nat) (v : Value) (ys : List UInt8) : Prop := ∀ ad n c, v = .slice (some ad) n c → ys ≠ [] → ad.block < B ∧ B ≤ g
theorem Off.ne {g B : Nat} {v : Value} {ys : List UInt8} (h : Off g B v ys) {ad : Addr} {n c : Nat} (e : v = .slice (some ad) n c) (hy : ys ≠ []) : ad.block ≠ g := by
  have := h ad n c e hy
  omega
theorem Bs.only {g B : Nat} {w w' : World} {v : Value} {ys : List UInt8} (h : Bs w v ys) (ho : Only g w w' none) (hne : Off g B v ys) : Bs w' v ys := by
  rcases h with h | ⟨ad, c, h1, h2, h3, h4, h5⟩
  · exact .inl h
  · exact .inr ⟨ad, c, h1, h2, h3, h4, h5.only ho (fun h => hne.ne h1 h)⟩
theorem Bs.grown {w w' : World} {o : Option Nat} {v : Value} {ys : List UInt8} (h : Bs w v ys) (hg : w.grownBy w' o) (hne : ∀ ad n c, v = .slice (some ad) n c → ys ≠ [] → o ≠ some ad.block) : Bs w' v ys := by
  rcases h with h | ⟨ad, c, h1, h2, h3, h4, h5⟩
  · exact .inl h
  · refine .inr ⟨ad, c, h1, h2, h3, h4, fun j u hu => ?_⟩
    have hj := (List.getElem?_eq_some_iff.1 hu).1
    rw [Array.length_toList, B8_size] at hj
    have h0 := h5 j u hu
    have hb := block_lt h0
    rw [adds_block] at hb
    refine Eq.trans (World.cell?_of_block ?_) h0
    rw [adds_block]
    exact hg.block _ hb (fun e => hne ad _ c h1 (fun e2 => by rw [e2] at hj; exact absurd hj (by simp)) e.symm)
/-- The document's own reader in block g, of the bytes xs: at the place a, or spoilt. -/
def RfR (w : World) (g B : Nat) (xs : List UInt8) : Option Nat → Prop
  | some a => a ≤ xs.length ∧ ∃ v, Lies w g #[v, .bool false] 60 ∧ Bs w v (xs.drop a) ∧ Off g B v (xs.drop a)
  | none => ∃ A n c, Lies w g #[.slice A n c, .bool true] 60
theorem RfR.below {w w' : World} {g B : Nat} {xs : List UInt8} {st : Option Nat} (h : RfR w g B xs st) (hb : Below w.heap.size w w') : RfR w' g B xs st := by
  cases st with
  | none => obtain ⟨A, n, c, h1⟩ := h; exact ⟨A, n, c, h1.below hb h1.lt⟩
  | some a => obtain ⟨ha, v, h1, h2, h3⟩ := h; exact ⟨ha, v, h1.below hb h1.lt, h2.below hb, h3⟩
theorem RfR.lt {w : World} {g B : Nat} {xs : List UInt8} {st : Option Nat} (h : RfR w g B xs st) : g < w.heap.size := by
  cases st with
  | none => obtain ⟨A, n, c, h1⟩ := h; exact h1.lt
  | some a => obtain ⟨ha, v, h1, h2, h3⟩ := h; exact h1.lt
theorem RfR.bad {w : World} {g B : Nat} {xs : List UInt8} {st : Option Nat} (h : RfR w g B xs st) : RfR (w.setCell ⟨g, 1, none⟩ (.bool true)) g B xs none := by
  cases st with
  | none => obtain ⟨A, n, c, h1⟩ := h; exact ⟨A, n, c, h1.set 1 _⟩
  | some a =>
    obtain ⟨ha, v, h1, h2, h3⟩ := h
    obtain ⟨A, c, rfl⟩ := h2.form
    exact ⟨A, _, c, h1.set 1 _⟩
theorem RfR.cell1 {w : World} {g B : Nat} {xs : List UInt8} {st : Option Nat} (h : RfR w g B xs st) : w.cell? ⟨g, 1, none⟩ = some (.bool st.isNone) := by
  cases st with
  | none => obtain ⟨A, n, c, h1⟩ := h; exact h1.cell 1 rfl
  | some a => obtain ⟨ha, v, h1, h2, h3⟩ := h; exact h1.cell 1 rfl
theorem RfR.free {w : World} {g B : Nat} {xs : List UInt8} {st : Option Nat} (h : RfR w g B xs st) (j : Nat) : w.frozen? ⟨g, j, none⟩ = false := by
  cases st with
  | none => obtain ⟨A, n, c, h1⟩ := h; exact h1.free j
  | some a => obtain ⟨ha, v, h1, h2, h3⟩ := h; exact h1.free j
/-- Bytes of a row that goes on, from a place on. -/
theorem SrcA.drop {w : World} {ad : Addr} {ys : List UInt8} (h : SrcA w ad ys) (n : Nat) : SrcA w (ad.add n) (ys.drop n) := by
  intro j u hu
  have hj := (List.getElem?_eq_some_iff.1 hu).1
  rw [Array.length_toList, B8_size, List.length_drop] at hj
  rw [Go.Deep.add_add]
  refine h (n + j) u ?_
  rw [Array.getElem?_toList, B8_get _ _ (by rw [List.length_drop]; omega)] at hu
  rw [Array.getElem?_toList, B8_get _ _ (by omega), ← hu]
  simp [List.getD_eq_getElem?_getD]
theorem SrcA.take {w : World} {ad : Addr} {ys : List UInt8} (h : SrcA w ad ys) (n : Nat) : SrcA w ad (ys.take n) := by
  intro j u hu
  have hj := (List.getElem?_eq_some_iff.1 hu).1
  rw [Array.length_toList, B8_size, List.length_take] at hj
  refine h j u ?_
  rw [Array.getElem?_toList, B8_get _ _ (by rw [List.length_take]; omega)] at hu
  rw [Array.getElem?_toList, B8_get _ _ (by omega), ← hu]
  simp only [List.getD_eq_getElem?_getD]
  rw [List.getElem?_take_of_lt (by omega)]
/-- What take tells, and leaves. -/
def Took (w : World) (g B : Nat) (xs : List UInt8) (a n : Nat) (e : Ending) (w' : World) : Prop :=
  (∃ v, e = .returned v ∧ Bs w' v ((xs.drop a).take n) ∧ Off g B v ((xs.drop a).take n)) ∧ RfR w' g B xs (some (a + n)) ∧ Only g w w' none
set_option maxRecDepth 100000 in
set_option maxHeartbeats 1000000 in
theorem take_good (w : World) (g : Nat) {B : Nat} (xs : List UInt8) (a n : Nat) (h : RfR w g B xs (some a)) (hn : a + n ≤ xs.length) (hx : xs.length ≤ 2000000) :
    Calls Tryz.prog 235 #[.pointer (some ⟨g, 0, none⟩), .int .i64 n] w (Took w g B xs a n) := by
  obtain ⟨ha, v, hl, hb, hoff⟩ := h
  have c1 : w.cell? ⟨g, 1, none⟩ = some (.bool false) := hl.cell 1 rfl
  have c0 : w.cell? ⟨g, 0, none⟩ = some v := hl.cell 0 rfl
  have f0 := hl.free 0
  have n0 : ¬ (n : Int) < 0 := by omega
  have hlen : (xs.drop a).length = xs.length - a := List.length_drop
  have hd2 : xs.drop (a + n) = (xs.drop a).drop n := by rw [List.drop_drop]
  have HL := Lib.hid hl
  have HOFF := Lib.hid hoff
  rcases hb with ⟨rfl, he⟩ | ⟨ad, c, rfl, hc, hcm, hsp, hsrc⟩
  · have hz : n = 0 := by rw [he] at hlen; simp at hlen; omega
    subst hz
    have hfin : Took w g B xs a 0 (.returned (.slice none 0 0)) (w.setCell ⟨g, 0, none⟩ (.slice none 0 0)) := by
      refine ⟨⟨_, rfl, .inl ⟨rfl, by simp⟩, fun _ _ _ e => by cases e⟩, ⟨by omega, _, HL.out.set 0 _, .inl ⟨rfl, by rw [Nat.add_zero]; exact he⟩, ?_⟩, only_set g 0 w _⟩
      rw [Nat.add_zero]
      exact HOFF.out
    have HF := Lib.hid hfin
    clear hfin hd2 hlen he hl hoff
    go_enter Tryz.func235, Tryz.ntmps235
    go_wp2_with fail
    go_ret
    exact HF.out
  · have d1 : ¬ ((xs.length - a : Nat) : Int) < (n : Int) := by omega
    rw [hlen] at c0 hc
    have HC := Lib.hid hc
    have hnc : n ≤ c := by omega
    have e1 : (0 : Int) ≤ (n : Int) := by omega
    have e3 : ¬ (c : Int) < (n : Int) := by omega
    have e5 : ¬ c < n := by omega
    have e6 : ¬ (xs.length - a) < n := by omega
    have HSRC := Lib.hid hsrc
    have HD2 := Lib.hid hd2
    clear hsrc hl hoff hd2 hc
    have hfin : ∀ ad', (xs.drop (a + n) ≠ [] → ad' = ad.add n) → Took w g B xs a n (.returned (.slice (some ad) n c)) (w.setCell ⟨g, 0, none⟩ (.slice (some ad') (xs.length - a - n) (c - n))) := by
      intro ad' had
      have ho : Only g w (w.setCell ⟨g, 0, none⟩ (.slice (some ad') (xs.length - a - n) (c - n))) none := only_set g 0 w _
      have hl1 : ((xs.drop a).take n).length = n := by rw [List.length_take, hlen]; omega
      have hl2 : (xs.drop (a + n)).length = xs.length - a - n := by rw [List.length_drop]; omega
      have hne : xs.drop (a + n) ≠ [] → xs.drop a ≠ [] := fun h1 h2 => by rw [h2] at hlen; apply h1; apply List.eq_nil_of_length_eq_zero; rw [hl2, ← hlen]; simp
      have hsub : ((xs.drop a).take n) ≠ [] → xs.drop a ≠ [] := fun h1 h2 => h1 (by rw [h2]; simp)
      refine ⟨⟨_, rfl, .inr ⟨ad, c, by rw [hl1], by omega, hcm, fun h => hsp (hsub h), (HSRC.out.take n).only ho (fun h => HOFF.out.ne rfl (hsub h))⟩, fun ad2 n2 c2 e h => by cases e; exact HOFF.out ad _ c rfl (hsub h)⟩, ⟨hn, _, HL.out.set 0 _, .inr ⟨ad', c - n, by rw [hl2], by rw [hl2]; have := HC.out; omega, by omega, fun h => ?_, ?_⟩, ?_⟩, ho⟩
      · obtain rfl := had h
        unfold Addr.add
        split
        · exact hsp (hne h)
        · rfl
      · by_cases h : xs.drop (a + n) = []
        · rw [h]; exact fun j u hu => absurd (List.getElem?_eq_some_iff.1 hu).1 (by simp [B8])
        · obtain rfl := had h
          rw [HD2.out]
          exact (HSRC.out.drop n).only ho (fun _ => by rw [adds_block]; exact HOFF.out.ne rfl (hne h))
      · intro ad2 n2 c2 e h
        cases e
        obtain rfl := had h
        rw [adds_block]
        exact HOFF.out ad _ c rfl (hne h)
    have HF := Lib.hid hfin
    clear hfin hlen hsp hcm
    by_cases hcn : c = n
    · have hr : xs.drop (a + n) ≠ [] → ad = ad.add n := fun h => absurd (List.eq_nil_of_length_eq_zero (by rw [List.length_drop]; have := HC.out; omega)) h
      have HR := Lib.hid (HF.out ad hr)
      subst hcn
      clear hr HF
      go_enter Tryz.func235, Tryz.ntmps235
      go_wp2_with fail
      go_ret
      have := HR.out
      rw [Nat.sub_self] at this
      exact this
    · go_enter Tryz.func235, Tryz.ntmps235
      go_wp2_with fail
      go_ret
      exact HF.out _ (fun _ => rfl)
end Go.Proofs.YtilbbemdinpjcaaGreat.W
namespace Go.Proofs.YtilbbemdinpjcaaGreat.W
open Go.RowKit

/-- A reader at the place a, or spoilt. -/
def RSt (w : World) (g k : Nat) (xs : List UInt8) (c : Nat) : Option Nat → Prop
  | some a => a ≤ xs.length ∧ Rdr w g k xs c a false
  | none => ∃ a, Rdr w g k xs c a true
theorem RSt.below {w w' : World} {g k : Nat} {xs : List UInt8} {c : Nat} {st : Option Nat} (h : RSt w g k xs c st) (hb : Below w.heap.size w w') : RSt w' g k xs c st := by
  cases st with
  | none => obtain ⟨a, h⟩ := h; exact ⟨a, h.below hb⟩
  | some a => exact ⟨h.1, h.2.below hb⟩
theorem RSt.lt {w : World} {g k : Nat} {xs : List UInt8} {c : Nat} {st : Option Nat} (h : RSt w g k xs c st) : g < w.heap.size ∧ k < w.heap.size ∧ k ≠ g := by
  cases st with
  | none => obtain ⟨a, h⟩ := h; exact ⟨h.1.lt, h.2.2.2.1, h.2.2.1⟩
  | some a => exact ⟨h.2.1.lt, h.2.2.2.2.1, h.2.2.2.1⟩
theorem RSt.only {w w' : World} {g k g' : Nat} {xs : List UInt8} {c : Nat} {st : Option Nat} (h : RSt w g k xs c st) (ho : Only g' w w' none) (h1 : g ≠ g') (h2 : k ≠ g') : RSt w' g k xs c st := by
  have key : ∀ a sp, Rdr w g k xs c a sp → Rdr w' g k xs c a sp := fun a sp h => ⟨ho.lies h.1 h1, h.2.1.only ho h.2.2.2.1 h2, h.2.2.1, Nat.lt_of_lt_of_le h.2.2.2.1 ho.size, h.2.2.2.2⟩
  cases st with
  | none => obtain ⟨a, h⟩ := h; exact ⟨a, key _ _ h⟩
  | some a => exact ⟨h.1, key _ _ h.2⟩
theorem Rdr.idle {w : World} {g k : Nat} {xs : List UInt8} {c a : Nat} (h : Rdr w g k xs c a true) : Idle w (some ⟨g, 0, none⟩) := .inr ⟨g, rfl, h.1.lt, .inr ⟨h.1.cell 0 rfl, h.1.cell 1 rfl⟩⟩

def numV (xs : List UInt8) (st : Option Nat) (s : Nat) : Nat := match st with | some a => if a + s ≤ xs.length then beVal ((xs.drop a).take s) else 0 | none => 0
def numS (xs : List UInt8) (st : Option Nat) (s : Nat) : Option Nat := match st with | some a => if a + s ≤ xs.length then some (a + s) else none | none => none
def hashV (xs : List UInt8) (st : Option Nat) : List UInt8 := match st with | some a => if a + 32 ≤ xs.length then (xs.drop a).take 32 else List.replicate 32 0 | none => List.replicate 32 0
def RawOk (xs : List UInt8) (a : Nat) (n : Int) : Prop := 0 ≤ n ∧ n ≤ (xs.length : Int) - a
instance (xs : List UInt8) (a : Nat) (n : Int) : Decidable (RawOk xs a n) := by unfold RawOk; infer_instance
def rawV (xs : List UInt8) (st : Option Nat) (n : Int) : List UInt8 := match st with | some a => if RawOk xs a n then (xs.drop a).take n.toNat else [] | none => []
def rawS (xs : List UInt8) (st : Option Nat) (n : Int) : Option Nat := match st with | some a => if RawOk xs a n then some (a + n.toNat) else none | none => none
def TextOk (xs : List UInt8) (a : Nat) (m : Int) : Prop := a + 2 ≤ xs.length ∧ (beVal ((xs.drop a).take 2) : Int) ≤ m ∧ a + 2 + beVal ((xs.drop a).take 2) ≤ xs.length
instance (xs : List UInt8) (a : Nat) (m : Int) : Decidable (TextOk xs a m) := by unfold TextOk; infer_instance
def textV (xs : List UInt8) (st : Option Nat) (m : Int) : List UInt8 := match st with | some a => if TextOk xs a m then (xs.drop (a + 2)).take (beVal ((xs.drop a).take 2)) else [] | none => []
def textS (xs : List UInt8) (st : Option Nat) (m : Int) : Option Nat := match st with | some a => if TextOk xs a m then some (a + 2 + beVal ((xs.drop a).take 2)) else none | none => none
def FlagOk (xs : List UInt8) (a : Nat) : Prop := a + 1 ≤ xs.length ∧ beVal ((xs.drop a).take 1) ≤ 1
instance (xs : List UInt8) (a : Nat) : Decidable (FlagOk xs a) := by unfold FlagOk; infer_instance
def flagV (xs : List UInt8) (st : Option Nat) : Bool := match st with | some a => if FlagOk xs a then decide (beVal ((xs.drop a).take 1) = 1) else false | none => false
def flagS (xs : List UInt8) (st : Option Nat) : Option Nat := match st with | some a => if FlagOk xs a then some (a + 1) else none | none => none
def CountOk (xs : List UInt8) (a : Nat) (m : Int) : Prop := a + 2 ≤ xs.length ∧ (beVal ((xs.drop a).take 2) : Int) ≤ m
instance (xs : List UInt8) (a : Nat) (m : Int) : Decidable (CountOk xs a m) := by unfold CountOk; infer_instance
def countV (xs : List UInt8) (st : Option Nat) (m : Int) : Nat := match st with | some a => if CountOk xs a m then beVal ((xs.drop a).take 2) else 0 | none => 0
def countS (xs : List UInt8) (st : Option Nat) (m : Int) : Option Nat := match st with | some a => if CountOk xs a m then some (a + 2) else none | none => none
def leftV (xs : List UInt8) (st : Option Nat) : Nat := match st with | some a => xs.length - a | none => 0
def endV (xs : List UInt8) (st : Option Nat) : Bool := match st with | some a => decide (a = xs.length) | none => false
def errV (st : Option Nat) : Int := if st.isNone then 4 else 0
theorem ask25_st (w : World) (g k : Nat) (xs : List UInt8) (c : Nat) (st : Option Nat) (h : RSt w g k xs c st) :
    Calls Tryz.prog 200 #[.pointer (some ⟨g, 0, none⟩)] w fun e w' => e = .returned (.int .i64 (numV xs st 1)) ∧ RSt w' g k xs c (numS xs st 1) ∧ Only g w w' none := by
  cases st with
  | none =>
    obtain ⟨a, h⟩ := h
    refine (ask25_idle w _ h.idle).mono ?_
    rintro e w' ⟨rfl, hb⟩
    exact ⟨rfl, ⟨a, h.below hb⟩, only_below hb⟩
  | some a =>
    obtain ⟨ha, h⟩ := h
    by_cases hn : a + 1 ≤ xs.length
    · refine (ask25_good w g k xs c a h hn).mono ?_
      rintro e w' ⟨rfl, hr, ho⟩
      refine ⟨by simp [numV, hn] <;> rfl, ?_, ho⟩
      simp only [numS, if_pos hn]
      exact ⟨hn, hr⟩
    · refine (ask25_bad w g k xs c a h ha (by omega)).mono ?_
      rintro e w' ⟨rfl, hr, ho⟩
      refine ⟨by simp [numV, hn] <;> rfl, ?_, ho⟩
      simp only [numS, if_neg hn]
      exact ⟨a, hr⟩
theorem ask53_st (w : World) (g k : Nat) (xs : List UInt8) (c : Nat) (st : Option Nat) (h : RSt w g k xs c st) :
    Calls Tryz.prog 251 #[.pointer (some ⟨g, 0, none⟩)] w fun e w' => e = .returned (.int .i64 (numV xs st 2)) ∧ RSt w' g k xs c (numS xs st 2) ∧ Only g w w' none := by
  cases st with
  | none =>
    obtain ⟨a, h⟩ := h
    refine (ask53_idle w _ h.idle).mono ?_
    rintro e w' ⟨rfl, hb⟩
    exact ⟨rfl, ⟨a, h.below hb⟩, only_below hb⟩
  | some a =>
    obtain ⟨ha, h⟩ := h
    by_cases hn : a + 2 ≤ xs.length
    · refine (ask53_good w g k xs c a h hn).mono ?_
      rintro e w' ⟨rfl, hr, ho⟩
      refine ⟨by simp [numV, hn] <;> rfl, ?_, ho⟩
      simp only [numS, if_pos hn]
      exact ⟨hn, hr⟩
    · refine (ask53_bad w g k xs c a h ha (by omega)).mono ?_
      rintro e w' ⟨rfl, hr, ho⟩
      refine ⟨by simp [numV, hn] <;> rfl, ?_, ho⟩
      simp only [numS, if_neg hn]
      exact ⟨a, hr⟩
theorem ask54_st (w : World) (g k : Nat) (xs : List UInt8) (c : Nat) (st : Option Nat) (h : RSt w g k xs c st) :
    Calls Tryz.prog 224 #[.pointer (some ⟨g, 0, none⟩)] w fun e w' => e = .returned (.int .i64 (numV xs st 4)) ∧ RSt w' g k xs c (numS xs st 4) ∧ Only g w w' none := by
  cases st with
  | none =>
    obtain ⟨a, h⟩ := h
    refine (ask54_idle w _ h.idle).mono ?_
    rintro e w' ⟨rfl, hb⟩
    exact ⟨rfl, ⟨a, h.below hb⟩, only_below hb⟩
  | some a =>
    obtain ⟨ha, h⟩ := h
    by_cases hn : a + 4 ≤ xs.length
    · refine (ask54_good w g k xs c a h hn).mono ?_
      rintro e w' ⟨rfl, hr, ho⟩
      refine ⟨by simp [numV, hn] <;> rfl, ?_, ho⟩
      simp only [numS, if_pos hn]
      exact ⟨hn, hr⟩
    · refine (ask54_bad w g k xs c a h ha (by omega)).mono ?_
      rintro e w' ⟨rfl, hr, ho⟩
      refine ⟨by simp [numV, hn] <;> rfl, ?_, ho⟩
      simp only [numS, if_neg hn]
      exact ⟨a, hr⟩
theorem ask55_st (w : World) (g k : Nat) (xs : List UInt8) (c : Nat) (st : Option Nat) (h : RSt w g k xs c st) :
    Calls Tryz.prog 256 #[.pointer (some ⟨g, 0, none⟩)] w fun e w' => e = .returned (.int .u64 (numV xs st 8)) ∧ RSt w' g k xs c (numS xs st 8) ∧ Only g w w' none := by
  cases st with
  | none =>
    obtain ⟨a, h⟩ := h
    refine (ask55_idle w _ h.idle).mono ?_
    rintro e w' ⟨rfl, hb⟩
    exact ⟨rfl, ⟨a, h.below hb⟩, only_below hb⟩
  | some a =>
    obtain ⟨ha, h⟩ := h
    by_cases hn : a + 8 ≤ xs.length
    · refine (ask55_good w g k xs c a h hn).mono ?_
      rintro e w' ⟨rfl, hr, ho⟩
      refine ⟨by simp [numV, hn] <;> rfl, ?_, ho⟩
      simp only [numS, if_pos hn]
      exact ⟨hn, hr⟩
    · refine (ask55_bad w g k xs c a h ha (by omega)).mono ?_
      rintro e w' ⟨rfl, hr, ho⟩
      refine ⟨by simp [numV, hn] <;> rfl, ?_, ho⟩
      simp only [numS, if_neg hn]
      exact ⟨a, hr⟩
theorem ask56_st (w : World) (g k : Nat) (xs : List UInt8) (c : Nat) (st : Option Nat) (h : RSt w g k xs c st) :
    Calls Tryz.prog 221 #[.pointer (some ⟨g, 0, none⟩)] w fun e w' => e = .returned (.int .i64 (IntKind.i64.wrap (numV xs st 8))) ∧ RSt w' g k xs c (numS xs st 8) ∧ Only g w w' none := by
  cases st with
  | none =>
    obtain ⟨a, h⟩ := h
    refine (ask56_idle w _ h.idle).mono ?_
    rintro e w' ⟨rfl, hb⟩
    exact ⟨rfl, ⟨a, h.below hb⟩, only_below hb⟩
  | some a =>
    obtain ⟨ha, h⟩ := h
    by_cases hn : a + 8 ≤ xs.length
    · refine (ask56_good w g k xs c a h hn).mono ?_
      rintro e w' ⟨rfl, hr, ho⟩
      refine ⟨by simp [numV, hn] <;> rfl, ?_, ho⟩
      simp only [numS, if_pos hn]
      exact ⟨hn, hr⟩
    · refine (ask56_bad w g k xs c a h ha (by omega)).mono ?_
      rintro e w' ⟨rfl, hr, ho⟩
      refine ⟨by simp [numV, hn] <;> rfl, ?_, ho⟩
      simp only [numS, if_neg hn]
      exact ⟨a, hr⟩
theorem flag_rst (w : World) (g k : Nat) (xs : List UInt8) (c : Nat) (st : Option Nat) (h : RSt w g k xs c st) :
    Calls Tryz.prog 273 #[.pointer (some ⟨g, 0, none⟩)] w fun e w' => e = .returned (.bool (flagV xs st)) ∧ RSt w' g k xs c (flagS xs st) ∧ Only g w w' none := by
  cases st with
  | none =>
    obtain ⟨a, h⟩ := h
    refine (ask33_idle w _ h.idle).mono ?_
    rintro e w' ⟨rfl, hb⟩
    exact ⟨rfl, ⟨a, h.below hb⟩, only_below hb⟩
  | some a =>
    obtain ⟨ha, h⟩ := h
    by_cases hn : FlagOk xs a
    · refine (flag_good w g k xs c a h hn.1 (by have := hn.2; omega)).mono ?_
      rintro e w' ⟨rfl, hr, ho⟩
      refine ⟨by simp [flagV, hn], ?_, ho⟩
      simp only [flagS, if_pos hn]
      exact ⟨hn.1, hr⟩
    · refine (flag_bad w g k xs c a h ha (by unfold FlagOk at hn; omega)).mono ?_
      rintro e w' ⟨rfl, hr, ho⟩
      refine ⟨by simp [flagV, hn], ?_, ho⟩
      simp only [flagS, if_neg hn]
      exact ⟨a, hr⟩
theorem count_rst (w : World) (g k : Nat) (xs : List UInt8) (c : Nat) (st : Option Nat) (m : Int) (h : RSt w g k xs c st) :
    Calls Tryz.prog 217 #[.pointer (some ⟨g, 0, none⟩), .int .i64 m] w fun e w' => e = .returned (.int .i64 (countV xs st m)) ∧ RSt w' g k xs c (countS xs st m) ∧ Only g w w' none := by
  cases st with
  | none =>
    obtain ⟨a, h⟩ := h
    refine (ask31_idle w _ m h.idle).mono ?_
    rintro e w' ⟨rfl, hb⟩
    exact ⟨rfl, ⟨a, h.below hb⟩, only_below hb⟩
  | some a =>
    obtain ⟨ha, h⟩ := h
    by_cases hn : CountOk xs a m
    · refine (count_good w g k xs c a m h hn.1 hn.2).mono ?_
      rintro e w' ⟨rfl, hr, ho⟩
      refine ⟨by simp [countV, hn], ?_, ho⟩
      simp only [countS, if_pos hn]
      exact ⟨hn.1, hr⟩
    · refine (count_bad w g k xs c a m h ha (by unfold CountOk at hn; omega)).mono ?_
      rintro e w' ⟨rfl, hr, ho⟩
      refine ⟨by simp [countV, hn], ?_, ho⟩
      simp only [countS, if_neg hn]
      exact ⟨a, hr⟩
theorem hash_rst (w : World) (g k : Nat) (xs : List UInt8) (c : Nat) (st : Option Nat) (h : RSt w g k xs c st) :
    Calls Tryz.prog 228 #[.pointer (some ⟨g, 0, none⟩)] w fun e w' => e = .returned (.agg (B8 (hashV xs st))) ∧ RSt w' g k xs c (numS xs st 32) ∧ Only g w w' none := by
  cases st with
  | none =>
    obtain ⟨a, h⟩ := h
    refine (ask57_idle w _ h.idle).mono ?_
    rintro e w' ⟨rfl, hb⟩
    exact ⟨rfl, ⟨a, h.below hb⟩, only_below hb⟩
  | some a =>
    obtain ⟨ha, h⟩ := h
    by_cases hn : a + 32 ≤ xs.length
    · refine (ask57_good w g k xs c a h _ hn rfl (by rw [List.length_take, List.length_drop]; omega)).mono ?_
      rintro e w' ⟨rfl, hr, ho⟩
      refine ⟨by simp only [hashV, if_pos hn], ?_, ho⟩
      simp only [numS, if_pos hn]
      exact ⟨hn, hr⟩
    · refine (ask57_bad w g k xs c a h ha (by omega)).mono ?_
      rintro e w' ⟨rfl, hr, ho⟩
      refine ⟨by simp only [hashV, if_neg hn]; rfl, ?_, ho⟩
      simp only [numS, if_neg hn]
      exact ⟨a, hr⟩
theorem text_rst (w : World) (g k : Nat) (xs : List UInt8) (c : Nat) (st : Option Nat) (m : Int) (h : RSt w g k xs c st) :
    Calls Tryz.prog 254 #[.pointer (some ⟨g, 0, none⟩), .int .i64 m] w fun e w' => e = .returned (.string ⟨(textV xs st m).toArray⟩) ∧ RSt w' g k xs c (textS xs st m) ∧ Only g w w' none := by
  cases st with
  | none =>
    obtain ⟨a, h⟩ := h
    refine (ask32_idle w _ m h.idle).mono ?_
    rintro e w' ⟨rfl, hb⟩
    exact ⟨rfl, ⟨a, h.below hb⟩, only_below hb⟩
  | some a =>
    obtain ⟨ha, h⟩ := h
    by_cases hn : TextOk xs a m
    · have hv : textV xs (some a) m = (xs.drop (a + 2)).take (beVal ((xs.drop a).take 2)) := by simp only [textV, if_pos hn]
      have hs : textS xs (some a) m = some (a + 2 + beVal ((xs.drop a).take 2)) := by simp only [textS, if_pos hn]
      rw [hv, hs]
      by_cases h0 : beVal ((xs.drop a).take 2) = 0
      · refine (rtext_zero w g k xs c a m h hn.1 h0 (by have := hn.2.1; omega)).mono ?_
        rintro e w' ⟨rfl, hr, ho⟩
        rw [h0]
        exact ⟨rfl, ⟨hn.1, hr⟩, ho⟩
      · refine (rtext_some w g k xs c a m (beVal ((xs.drop a).take 2)) _ h hn.2.2 (by omega) rfl hn.2.1 rfl).mono ?_
        rintro e w' ⟨rfl, hr, ho⟩
        exact ⟨rfl, ⟨hn.2.2, hr⟩, ho⟩
    · have hv : textV xs (some a) m = [] := by simp only [textV, if_neg hn]
      have hs : textS xs (some a) m = none := by simp only [textS, if_neg hn]
      rw [hv, hs]
      refine (rtext_bad w g k xs c a m h ha (by unfold TextOk at hn; omega)).mono ?_
      rintro e w' ⟨rfl, hr, ho⟩
      exact ⟨rfl, ⟨a, hr⟩, ho⟩
theorem left_rst (w : World) (g k : Nat) (xs : List UInt8) (c : Nat) (st : Option Nat) (h : RSt w g k xs c st) :
    Calls Tryz.prog 28 #[.pointer (some ⟨g, 0, none⟩)] w fun e w' => e = .returned (.int .i64 (leftV xs st)) ∧ Below w.heap.size w w' := by
  cases st with
  | none =>
    obtain ⟨a, h⟩ := h
    refine (left_idle w _ h.idle).mono ?_
    rintro e w' ⟨rfl, rfl⟩
    exact ⟨rfl, Below.refl _ _⟩
  | some a => exact left_good w g k xs c a h.2 h.1
theorem err_rst (w : World) (g k : Nat) (xs : List UInt8) (c : Nat) (st : Option Nat) (h : RSt w g k xs c st) :
    Calls Tryz.prog 30 #[.pointer (some ⟨g, 0, none⟩)] w fun e w' => e = .returned (.int .i64 (errV st)) ∧ w = w' := by
  cases st with
  | none =>
    obtain ⟨a, h⟩ := h
    exact err_any w g k xs c a true h
  | some a => exact err_any w g k xs c a false h.2
end Go.Proofs.YtilbbemdinpjcaaGreat.W
namespace Go.Proofs.YtilbbemdinpjcaaGreat.W
open Go.RowKit

/-- append of bytes that came in, or of nothing. -/
theorem wpList_append_in {ops : Array Oper} {rest : List Oper} {o : Oper} {a : Act} {w : World} {Q : Exit → Act → World → Prop} (hgd : o.guard = none) (s x : Operand)
    (ho : o.op = .call { callee := .builtin .append, args := #[s, x], argTypes := #[54, 54] }) (B : Nat) (v bv : Value) (l xs : List UInt8) (hs : a.eval s = v) (hown : w.ownsRow B 5 1 v l.length (B8 l).toList) (hx : a.eval x = bv) (hraw : RawIn w bv xs) (hlen : l.length + xs.length ≤ 2000000) (hB : B ≤ w.heap.size)
    (h : ∀ v' w', w'.ownsRow B 5 1 v' (l ++ xs).length (B8 (l ++ xs)).toList → w.grownBy w' v.ownBlock → (v'.ownBlock = v.ownBlock ∨ v'.ownBlock = some w.heap.size) → wpList Tryz.prog ops Q rest (a.put o.dst v') w') : wpList Tryz.prog ops Q (o :: rest) a w := by
  obtain ⟨i0, hi0, hz0, hz1, hz2⟩ := info_parts info5
  rcases hraw with ⟨rfl, rfl⟩ | ⟨ad, c, rfl, hsrc⟩
  · refine wpList_append_own_none hgd s x 54 ho B 5 i0 1 Tryz.underlying54 hi0 v l.length _ hs hown hx ?_
    exact h v w (by simpa using hown) (grown_refl w _) (.inl rfl)
  · refine wpList_append_own_at _ hgd s x 54 ho B 5 i0 (.int .u8 0) 1 1 Tryz.underlying54 hi0 hz0 hz1 hz2 rfl (by decide) v l.length _ hs hown ad xs.length c (B8 xs).toList hx (by rw [Array.length_toList, B8_size, Nat.mul_one]) hsrc (byts_one _) (by unfold maxLen; omega) (by omega) hB ?_
    intro v' w' h1 h2 _ h3
    refine h v' w' ?_ h2 h3
    have e : (B8 (l ++ xs)).toList = (B8 l).toList ++ (B8 xs).toList := by simp [B8]
    rw [e, List.length_append]
    exact h1
theorem PutD.one {p : PutD} {W : World} (h : p.Ok W) : p.cells.all (·.oneCell') = true := by
  obtain ⟨A, c, hb⟩ := PutD.rawv h
  rw [Array.all_eq_true_iff_forall_mem]
  intro v hv
  simp only [PutD.cells, Array.mem_append] at hv
  rcases hv with (hv | hv) | hv
  · simp at hv; rcases hv with rfl | rfl | rfl <;> rfl
  · exact (Array.all_eq_true_iff_forall_mem.1 (B8_one p.hs)) v hv
  · simp at hv; rcases hv with rfl | rfl
    · rw [hb]; rfl
    · rfl
/-- The Put with another row of the same bytes. -/
def PutD.with (p : PutD) (u : Value) : PutD := ⟨p.n0, p.n1, p.n2, p.hs, u, p.xs, p.s⟩
theorem PutD.with_cells {p : PutD} {W : World} (h : p.Ok W) (u : Value) : p.cells.setIfInBounds 35 u = (p.with u).cells := by
  have h35 : (#[.int .i64 p.n0, .int .i64 p.n1, .int .u64 p.n2] ++ B8 p.hs : Array Value).size = 35 := by simp [B8_size, h.hlen]
  show (#[.int .i64 p.n0, .int .i64 p.n1, .int .u64 p.n2] ++ B8 p.hs ++ #[p.bv, .string p.s] : Array Value).setIfInBounds 35 u = #[.int .i64 p.n0, .int .i64 p.n1, .int .u64 p.n2] ++ B8 p.hs ++ #[u, .string p.s]
  generalize (#[.int .i64 p.n0, .int .i64 p.n1, .int .u64 p.n2] ++ B8 p.hs : Array Value) = A at h35
  rw [Array.setIfInBounds_append_right (by omega), h35]
  rfl
theorem raw_of_own {w : World} {B : Nat} {u : Value} {xs : List UInt8} (h : w.ownsRow B 5 1 u xs.length (B8 xs).toList) : RawIn w u xs := by
  rcases h.2 with ⟨rfl, hn⟩ | ⟨k, cap, cur, rfl, _⟩
  · exact .inl ⟨rfl, List.eq_nil_of_length_eq_zero hn⟩
  · exact .inr ⟨_, cap, rfl, src_news (own_src h)⟩
theorem PutD.with_ok {p : PutD} {W W' : World} {B : Nat} {u : Value} (h : p.Ok W) (hown : W'.ownsRow B 5 1 u p.xs.length (B8 p.xs).toList) : (p.with u).Ok W' :=
  ⟨h.hlen, h.wlt, h.lo, h.hi, h.slen, raw_of_own hown, h.xlen⟩
theorem sumB_le (ps : List PutD) (k : Nat) : sumB ps k ≤ sumB ps (k + 1) := Nat.le_add_right _ _
theorem sumB_mono (ps : List PutD) {a b : Nat} (h : a ≤ b) : sumB ps a ≤ sumB ps b := by
  induction b with
  | zero => obtain rfl : a = 0 := by omega
            exact Nat.le_refl _
  | succ b ih =>
    by_cases hb : a = b + 1
    · subst hb; exact Nat.le_refl _
    · exact Nat.le_trans (ih (by omega)) (sumB_le ps b)
/-- The world within the inner loop: just the copy's own row turns. -/
structure Inner (w6 : World) (u : Value) (xs : List UInt8) (m : Nat) (W : World) : Prop where
  grown : w6.grownBy W u.ownBlock
  row : ∀ g c, u = .slice (some ⟨g, 0, none⟩) xs.length c → ∃ cur, Lies W g cur 5 ∧ ∀ j, m ≤ j → j < xs.length → cur[j]? = some (.int .u8 (xs.getD j 0).toNat)
theorem Inner.start {w6 : World} {B : Nat} {u : Value} {xs : List UInt8} (h : w6.ownsRow B 5 1 u xs.length (B8 xs).toList) : Inner w6 u xs 0 w6 := by
  refine ⟨grown_refl _ _, fun g c e => ?_⟩
  rcases h.2 with ⟨h1, _⟩ | ⟨k, cap, cur, h1, _, h3, h4, _, h5, h6⟩
  · rw [e] at h1; cases h1
  · rw [e] at h1
    cases h1
    refine ⟨cur, h3, fun j _ hj => ?_⟩
    have : cur.toList[j]? = (B8 xs).toList[j]? := by
      rw [← h6, List.getElem?_take]
      rw [if_pos (by omega)]
    rw [Array.getElem?_toList, Array.getElem?_toList, B8_get xs j hj] at this
    exact this
theorem Inner.next {w6 W : World} {g c : Nat} {xs : List UInt8} {m : Nat} (h : Inner w6 (.slice (some ⟨g, 0, none⟩) xs.length c) xs m W) (q : Nat) (v : Value) : Inner w6 (.slice (some ⟨g, 0, none⟩) xs.length c) xs (m + 1) ((W.drewN q).setCell ⟨g, m, none⟩ v) := by
  refine ⟨grown_set (grown_drewN h.grown q) m v, fun g' c' e => ?_⟩
  cases e
  obtain ⟨cur, hl, hc⟩ := h.row g c rfl
  refine ⟨_, (show Lies (W.drewN q) g cur 5 from hl).set m v, fun j hj hx => ?_⟩
  rw [Array.getElem?_setIfInBounds_ne (by omega)]
  exact hc j (by omega) hx
end Go.Proofs.YtilbbemdinpjcaaGreat.W
