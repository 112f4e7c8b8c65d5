/-
  Sums of three bundles: turned round, two by two, one taken away.
-/
import Derived.Test.YtjngghihciimjaaVmb
import Derived.Test.YtjngghihciimjaaVf
namespace Go.Proofs.Ytjngghihciimjaa
set_option maxRecDepth 100000
open Go.RowKit Go.Sort Go.Maps

/-- A right bundle whose numbers have 63 bits. -/
structure Good (v : Va) : Prop where
  right : rightV v = true
  coin : v.coin < 9223372036854775808
  amts : ∀ a, a ∈ v.l → a.amt < 9223372036854775808
theorem VaOk.good {w : World} {v : Va} (h : VaOk w v) (hr : rightV v = true) : Good v := ⟨hr, h.2.1, fun a ha => (h.2.2.2.1 a ha).2.2.2⟩
theorem TogOk.fit {x : BitVec 128} {f : Nm → BitVec 128} {coin : Int} {l : List As} (h : TogOk x f coin l) (n : Nm) : (f n).toNat < 9223372036854775808 := by
  obtain ⟨h1, rfl, tl, h2, h3, h4, rfl⟩ := h
  by_cases hn : f n = 0
  · rw [hn]; decide
  · obtain ⟨t, ht, e⟩ := List.mem_map.1 (h2.all n hn)
    have e2 : t.w = f n := congrArg Prod.snd e
    rw [← e2]
    exact fits_nat (h4 t ht)
def Cw (v : Va) : BitVec 128 := wide v.coin
def Fw (v : Va) (n : Nm) : BitVec 128 := sumAt (ctsOf v) n
theorem Good.self {v : Va} (h : Good v) : TogOk (Cw v) (Fw v) v.coin v.l := TogOk.self h.right ⟨h.coin, h.amts⟩
theorem Good.fit {v : Va} (h : Good v) (n : Nm) : (Fw v n).toNat < 9223372036854775808 := h.self.fit n
theorem Good.fitC {v : Va} (h : Good v) : (Cw v).toNat < 9223372036854775808 := fits_nat h.self.1
theorem coin2 (a b : Va) : coinS [a, b] = Cw a + Cw b := by simp [coinS, sumL, Cw]
theorem coin3 (a b c : Va) : coinS [a, b, c] = Cw a + Cw b + Cw c := by simp [coinS, sumL, Cw]
theorem sum2 (a b : Va) : sumAt (ctsL [a, b]) = fun n => Fw a n + Fw b n := by
  funext n
  have e : ctsL [a, b] = ctsOf a ++ ctsOf b := by simp [ctsL]
  rw [e, sumAt_append]
  rfl
theorem sum3 (a b c : Va) : sumAt (ctsL [a, b, c]) = fun n => Fw a n + Fw b n + Fw c n := by
  funext n
  have e : ctsL [a, b, c] = ctsOf a ++ ctsOf b ++ ctsOf c := by simp [ctsL]
  rw [e, sumAt_append, sumAt_append]
  rfl
theorem sumAt_turn (l : List As) (pa : Option Addr) (c : Nat) (x : Int) (n : Nm) : sumAt (ctsOf ⟨x, pa, turnL l, c⟩) n = - sumAt (ctsOf ⟨x, pa, l, c⟩) n := by
  induction l with
  | nil => simp [ctsOf, turnL, sumAt]
  | cons a l ih =>
    have e1 : ctsOf ⟨x, pa, turnL (a :: l), c⟩ = (a.nm, wide (-a.amt)) :: ctsOf ⟨x, pa, turnL l, c⟩ := rfl
    have e2 : ctsOf ⟨x, pa, a :: l, c⟩ = (a.nm, wide a.amt) :: ctsOf ⟨x, pa, l, c⟩ := rfl
    rw [e1, e2]
    simp only [sumAt, ih, wide_neg]
    by_cases h : a.nm = n
    · simp [h, BitVec.neg_add]
      exact (BitVec.sub_eq_add_neg _ _).symm
    · simp [h]
theorem turnF (v : Va) (n : Nm) : Fw (turnV v) n = - Fw v n := sumAt_turn v.l none 0 (-v.coin) n
theorem turnC (v : Va) : Cw (turnV v) = - Cw v := wide_neg v.coin
theorem add2 {x y : BitVec 128} (hx : x.toNat < 9223372036854775808) (hy : y.toNat < 9223372036854775808) : (x + y).toNat = x.toNat + y.toNat := by
  rw [BitVec.toNat_add]
  omega
theorem add3 {x y z : BitVec 128} (hx : x.toNat < 9223372036854775808) (hy : y.toNat < 9223372036854775808) (hz : z.toNat < 9223372036854775808) : (x + y + z).toNat = x.toNat + y.toNat + z.toNat := by
  rw [BitVec.toNat_add, BitVec.toNat_add]
  omega
theorem right_names {v : Va} (h : Good v) {n : Nm} (hn : Fw v n ≠ 0) : n.2.length ≤ 32 := by
  obtain ⟨p, hp, rfl⟩ := sumAt_mem hn
  obtain ⟨a, ha, rfl⟩ := List.mem_map.1 hp
  exact (((right_iff _ _).1 h.right).2.2.1 a ha).1
theorem names3 {a b c : Va} (ha : Good a) (hb : Good b) (hc : Good c) {n : Nm} (hn : Fw a n + Fw b n + Fw c n ≠ 0) : n.2.length ≤ 32 := by
  by_cases h1 : Fw a n = 0
  · by_cases h2 : Fw b n = 0
    · by_cases h3 : Fw c n = 0
      · rw [h1, h2, h3] at hn; exact absurd rfl hn
      · exact right_names hc h3
    · exact right_names hb h2
  · exact right_names ha h1
theorem addZ2 {a b : Va} {coin : Int} {l : List As} : AddZ [a, b] coin l ↔ (rightV a = true ∧ rightV b = true) ∧ TogOk (Cw a + Cw b) (fun n => Fw a n + Fw b n) coin l := by
  unfold AddZ
  rw [coin2, sum2]
  simp
theorem addZ3 {a b c : Va} {coin : Int} {l : List As} : AddZ [a, b, c] coin l ↔ (rightV a = true ∧ rightV b = true ∧ rightV c = true) ∧ TogOk (Cw a + Cw b + Cw c) (fun n => Fw a n + Fw b n + Fw c n) coin l := by
  unfold AddZ
  rw [coin3, sum3]
  simp
theorem subZ {a b : Va} {coin : Int} {l : List As} : SubZ a b coin l ↔ (rightV a = true ∧ rightV b = true) ∧ TogOk (Cw a - Cw b) (fun n => Fw a n - Fw b n) coin l := by
  unfold SubZ
  rw [coin2, sum2, turnC]
  have e : (fun n => Fw a n + Fw (turnV b) n) = fun n => Fw a n - Fw b n := by
    funext n
    rw [turnF, ← BitVec.sub_eq_add_neg]
  rw [e, ← BitVec.sub_eq_add_neg]
theorem add_turn {a b c : Va} {coin : Int} {l : List As} (h : AddZ [a, b, c] coin l) : AddZ [c, b, a] coin l := by
  rw [addZ3] at h ⊢
  obtain ⟨⟨h1, h2, h3⟩, h4⟩ := h
  refine ⟨⟨h3, h2, h1⟩, ?_⟩
  have e1 : Cw c + Cw b + Cw a = Cw a + Cw b + Cw c := by rw [BitVec.add_comm (Cw c), BitVec.add_comm _ (Cw a), ← BitVec.add_assoc]
  have e2 : (fun n => Fw c n + Fw b n + Fw a n) = fun n => Fw a n + Fw b n + Fw c n := by
    funext n
    rw [BitVec.add_comm (Fw c n), BitVec.add_comm _ (Fw a n), ← BitVec.add_assoc]
  rw [e1, e2]
  exact h4
/-- What three make, S being told of it. -/
structure Three (a b c : Va) (S : Va) : Prop where
  ga : Good a
  gb : Good b
  gc : Good c
  is : AddZ [a, b, c] S.coin S.l
theorem Three.sums {a b c S : Va} (h : Three a b c S) : Cw S = Cw a + Cw b + Cw c ∧ ∀ n, Fw S n = Fw a n + Fw b n + Fw c n := (addZ3.1 h.is).2.sums S.pa S.c
theorem Three.right {a b c S : Va} (h : Three a b c S) : rightV S = true := (addZ3.1 h.is).2.right fun _ hn => names3 h.ga h.gb h.gc hn
theorem Three.two {a b c S : Va} (h : Three a b c S) : ∃ coin l, AddZ [a, b] coin l := by
  obtain ⟨coin, l, h1⟩ := (addZ3.1 h.is).2.less (y := Cw a + Cw b) (g := fun n => Fw a n + Fw b n) (by rw [add3 h.ga.fitC h.gb.fitC h.gc.fitC, add2 h.ga.fitC h.gb.fitC]; omega) (fun n => by rw [add3 (h.ga.fit n) (h.gb.fit n) (h.gc.fit n), add2 (h.ga.fit n) (h.gb.fit n)]; omega)
  exact ⟨coin, l, addZ2.2 ⟨⟨h.ga.right, h.gb.right⟩, h1⟩⟩
theorem two_sums {a b T : Va} (h : AddZ [a, b] T.coin T.l) : Cw T = Cw a + Cw b ∧ ∀ n, Fw T n = Fw a n + Fw b n := (addZ2.1 h).2.sums T.pa T.c
theorem Three.again {a b c S T : Va} (h : Three a b c S) (ht : AddZ [a, b] T.coin T.l) : AddZ [T, c] S.coin S.l := by
  obtain ⟨e1, e2⟩ := two_sums ht
  rw [addZ2, e1]
  refine ⟨⟨(addZ2.1 ht).2.right fun n hn => ?_, h.gc.right⟩, ?_⟩
  · by_cases h1 : Fw a n = 0
    · by_cases h2 : Fw b n = 0
      · rw [h1, h2] at hn; exact absurd rfl hn
      · exact right_names h.gb h2
    · exact right_names h.ga h1
  · have e : (fun n => Fw T n + Fw c n) = fun n => Fw a n + Fw b n + Fw c n := funext fun n => by rw [e2 n]
    rw [e]
    exact (addZ3.1 h.is).2
theorem Three.left {a b c S : Va} (h : Three a b c S) {coin : Int} {l : List As} (ht : AddZ [a, b] coin l) : SubZ S c coin l := by
  obtain ⟨e1, e2⟩ := h.sums
  rw [subZ, e1]
  refine ⟨⟨h.right, h.gc.right⟩, ?_⟩
  have e3 : (fun n => Fw S n - Fw c n) = fun n => Fw a n + Fw b n := funext fun n => by rw [e2 n, BitVec.add_sub_cancel]
  rw [e3, BitVec.add_sub_cancel]
  exact (addZ2.1 ht).2
theorem Three.coversA {a b c S : Va} (h : Three a b c S) : ∃ coin l, SubZ S a coin l := by
  obtain ⟨e1, e2⟩ := h.sums
  obtain ⟨coin, l, h1⟩ := (addZ3.1 h.is).2.less (y := Cw b + Cw c) (g := fun n => Fw b n + Fw c n) (by rw [add3 h.ga.fitC h.gb.fitC h.gc.fitC, add2 h.gb.fitC h.gc.fitC]; omega) (fun n => by rw [add3 (h.ga.fit n) (h.gb.fit n) (h.gc.fit n), add2 (h.gb.fit n) (h.gc.fit n)]; omega)
  refine ⟨coin, l, subZ.2 ⟨⟨h.right, h.ga.right⟩, ?_⟩⟩
  have e3 : (fun n => Fw S n - Fw a n) = fun n => Fw b n + Fw c n := funext fun n => by rw [e2 n, BitVec.add_assoc, BitVec.add_comm (Fw a n), BitVec.add_sub_cancel]
  rw [e3, e1, BitVec.add_assoc, BitVec.add_comm (Cw a), BitVec.add_sub_cancel]
  exact h1
theorem Three.coversB {a b c S : Va} (h : Three a b c S) : ∃ coin l, SubZ S b coin l := by
  obtain ⟨e1, e2⟩ := h.sums
  obtain ⟨coin, l, h1⟩ := (addZ3.1 h.is).2.less (y := Cw a + Cw c) (g := fun n => Fw a n + Fw c n) (by rw [add3 h.ga.fitC h.gb.fitC h.gc.fitC, add2 h.ga.fitC h.gc.fitC]; omega) (fun n => by rw [add3 (h.ga.fit n) (h.gb.fit n) (h.gc.fit n), add2 (h.ga.fit n) (h.gc.fit n)]; omega)
  refine ⟨coin, l, subZ.2 ⟨⟨h.right, h.gb.right⟩, ?_⟩⟩
  have e3 : (fun n => Fw S n - Fw b n) = fun n => Fw a n + Fw c n := funext fun n => by rw [e2 n, BitVec.add_assoc, BitVec.add_comm (Fw b n), ← BitVec.add_assoc, BitVec.add_sub_cancel]
  rw [e3, e1, BitVec.add_assoc, BitVec.add_comm (Cw b), ← BitVec.add_assoc, BitVec.add_sub_cancel]
  exact h1
theorem Good.of {v : Va} (h : Good v) (n : Nm) : amtOf v.l n = ((Fw v n).toNat : Int) := by
  obtain ⟨h0, h1, h2, h3⟩ := (right_iff _ _).1 h.right
  have hrise : (ctsOf v).Pairwise fun p q => cN p.1 q.1 < 0 := by
    unfold ctsOf
    rw [List.pairwise_map]
    exact h3
  unfold amtOf
  cases hf : v.l.find? fun a => decide (a.nm = n) with
  | some a =>
    have ha := List.mem_of_find?_eq_some hf
    have hn : a.nm = n := of_decide_eq_true (List.find?_some (p := fun a : As => decide (a.nm = n)) hf)
    have h4 := sum_rise hrise (a.nm, wide a.amt) (List.mem_map.2 ⟨a, ha, rfl⟩)
    show a.amt = ((Fw v n).toNat : Int)
    unfold Fw
    rw [← hn, h4]
    exact (wide_small (by have := (h2 a ha).2; omega) (h.amts a ha)).symm
  | none =>
    have h4 : Fw v n = 0 := by
      by_cases h5 : Fw v n = 0
      · exact h5
      · obtain ⟨p, hp, e⟩ := sumAt_mem h5
        obtain ⟨a, ha, rfl⟩ := List.mem_map.1 hp
        have := List.find?_eq_none.1 hf a ha
        exact absurd (decide_eq_true e) this
    rw [h4]
    rfl
theorem Three.good {a b c S : Va} (h : Three a b c S) : Good S := by
  obtain ⟨h1, h2, tl, h3, h4, h5, h6⟩ := (addZ3.1 h.is).2
  refine ⟨h.right, by rw [h2]; have := fits_nat h1; omega, fun x hx => ?_⟩
  rw [h6] at hx
  obtain ⟨t, ht, rfl⟩ := List.mem_map.1 hx
  have := fits_nat (h5 t ht)
  show (t.w.toNat : Int) < 9223372036854775808
  omega
theorem Three.of {a b c S : Va} (h : Three a b c S) (n : Nm) : amtOf S.l n = amtOf a.l n + amtOf b.l n + amtOf c.l n ∧ 0 ≤ amtOf a.l n ∧ 0 ≤ amtOf b.l n ∧ 0 ≤ amtOf c.l n ∧ amtOf S.l n < 9223372036854775808 := by
  rw [h.good.of, h.ga.of, h.gb.of, h.gc.of, h.sums.2 n, add3 (h.ga.fit n) (h.gb.fit n) (h.gc.fit n)]
  have h1 := (addZ3.1 h.is).2.fit n
  rw [add3 (h.ga.fit n) (h.gb.fit n) (h.gc.fit n)] at h1
  omega
theorem Good.coinN {v : Va} (h : Good v) : v.coin = ((Cw v).toNat : Int) := h.self.2.1
theorem Three.coins {a b c S : Va} (h : Three a b c S) : S.coin = a.coin + b.coin + c.coin ∧ 0 ≤ a.coin ∧ 0 ≤ b.coin ∧ 0 ≤ c.coin ∧ S.coin < 9223372036854775808 := by
  have h1 := h.good.coin
  rw [h.good.coinN, h.sums.1, add3 h.ga.fitC h.gb.fitC h.gc.fitC] at h1 ⊢
  rw [h.ga.coinN, h.gb.coinN, h.gc.coinN]
  omega
end Go.Proofs.Ytjngghihciimjaa
