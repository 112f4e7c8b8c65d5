/-
  The document's own reader: what it holds; take.
-/
import Derived.Test.YtjbjagdpemnhiaaGreatByt2
import Derived.Test.YtjbjagdpemnhiaaGreatRnum
import Derived.Deep.Slices
namespace Go.Proofs.YtjbjagdpemnhiaaGreat
open Go.RowKit

/-- A slice that reads as these bytes: nil, empty or not. -/
def Bs (w : World) (v : Value) (ys : List UInt8) : Prop :=
  (v = .slice none 0 0 ∧ ys = []) ∨ ∃ ad c, v = .slice (some ad) ys.length c ∧ ys.length ≤ c ∧ c ≤ maxLen ∧ (ys ≠ [] → ad.spot = none) ∧ SrcA w ad ys
theorem Bs.below {w w' : World} {v : Value} {ys : List UInt8} (h : Bs w v ys) (hb : Below w.heap.size w w') : Bs w' v ys := by
  rcases h with h | ⟨ad, c, h1, h2, h3, h4, h5⟩
  · exact .inl h
  · exact .inr ⟨ad, c, h1, h2, h3, h4, h5.below hb h5.lt⟩
theorem Bs.raw {w : World} {v : Value} {ys : List UInt8} (h : Bs w v ys) : RawIn w v ys := by
  rcases h with h | ⟨ad, c, h1, _, _, _, h5⟩
  · exact .inl h
  · exact .inr ⟨ad, c, h1, h5⟩
theorem Bs.form {w : World} {v : Value} {ys : List UInt8} (h : Bs w v ys) : ∃ A c, v = .slice A ys.length c := by
  rcases h with ⟨h, rfl⟩ | ⟨ad, c, h1, _⟩
  · exact ⟨none, 0, h⟩
  · exact ⟨_, _, h1⟩
theorem Bs.one {w : World} {v : Value} {ys : List UInt8} (h : Bs w v ys) : v.oneCell' = true := by
  obtain ⟨A, c, rfl⟩ := h.form
  rfl
theorem SrcA.only {g : Nat} {w w' : World} {ad : Addr} {ys : List UInt8} (h : SrcA w ad ys) (ho : Only g w w' none) (hne : ys ≠ [] → ad.block ≠ g) : SrcA w' ad ys := by
  intro j u hu
  have hj := (List.getElem?_eq_some_iff.1 hu).1
  rw [Array.length_toList, B8_size] at hj
  have hn : ys ≠ [] := fun e => by rw [e] at hj; exact absurd hj (by simp)
  have h0 := h j u hu
  have hb := block_lt h0
  rw [adds_block] at hb
  refine Eq.trans ?_ h0
  have := ho.block ad.block hb (hne hn) (by simp)
  have e : (ad.add j).block = ad.block := adds_block _ _
  unfold World.cell?
  rw [e, this]
/-- Where the bytes stand is older than block B. -/
def Off (g B : Nat) (v : Value) (ys : List UInt8) : Prop := ∀ ad n c, v = .slice (some ad) n c → ys ≠ [] → ad.block < B ∧ B ≤ g
theorem Off.ne {g B : Nat} {v : Value} {ys : List UInt8} (h : Off g B v ys) {ad : Addr} {n c : Nat} (e : v = .slice (some ad) n c) (hy : ys ≠ []) : ad.block ≠ g := by
  have := h ad n c e hy
  omega
theorem Bs.only {g B : Nat} {w w' : World} {v : Value} {ys : List UInt8} (h : Bs w v ys) (ho : Only g w w' none) (hne : Off g B v ys) : Bs w' v ys := by
  rcases h with h | ⟨ad, c, h1, h2, h3, h4, h5⟩
  · exact .inl h
  · exact .inr ⟨ad, c, h1, h2, h3, h4, h5.only ho (fun h => hne.ne h1 h)⟩
theorem Bs.grown {w w' : World} {o : Option Nat} {v : Value} {ys : List UInt8} (h : Bs w v ys) (hg : w.grownBy w' o) (hne : ∀ ad n c, v = .slice (some ad) n c → ys ≠ [] → o ≠ some ad.block) : Bs w' v ys := by
  rcases h with h | ⟨ad, c, h1, h2, h3, h4, h5⟩
  · exact .inl h
  · refine .inr ⟨ad, c, h1, h2, h3, h4, fun j u hu => ?_⟩
    have hj := (List.getElem?_eq_some_iff.1 hu).1
    rw [Array.length_toList, B8_size] at hj
    have h0 := h5 j u hu
    have hb := block_lt h0
    rw [adds_block] at hb
    refine Eq.trans (World.cell?_of_block ?_) h0
    rw [adds_block]
    exact hg.block _ hb (fun e => hne ad _ c h1 (fun e2 => by rw [e2] at hj; exact absurd hj (by simp)) e.symm)
/-- The document's own reader in block g, of the bytes xs: at the place a, or spoilt. -/
def RfR (w : World) (g B : Nat) (xs : List UInt8) : Option Nat → Prop
  | some a => a ≤ xs.length ∧ ∃ v, Lies w g #[v, .bool false] 47 ∧ Bs w v (xs.drop a) ∧ Off g B v (xs.drop a)
  | none => ∃ A n c, Lies w g #[.slice A n c, .bool true] 47
theorem RfR.below {w w' : World} {g B : Nat} {xs : List UInt8} {st : Option Nat} (h : RfR w g B xs st) (hb : Below w.heap.size w w') : RfR w' g B xs st := by
  cases st with
  | none => obtain ⟨A, n, c, h1⟩ := h; exact ⟨A, n, c, h1.below hb h1.lt⟩
  | some a => obtain ⟨ha, v, h1, h2, h3⟩ := h; exact ⟨ha, v, h1.below hb h1.lt, h2.below hb, h3⟩
theorem RfR.lt {w : World} {g B : Nat} {xs : List UInt8} {st : Option Nat} (h : RfR w g B xs st) : g < w.heap.size := by
  cases st with
  | none => obtain ⟨A, n, c, h1⟩ := h; exact h1.lt
  | some a => obtain ⟨ha, v, h1, h2, h3⟩ := h; exact h1.lt
theorem RfR.bad {w : World} {g B : Nat} {xs : List UInt8} {st : Option Nat} (h : RfR w g B xs st) : RfR (w.setCell ⟨g, 1, none⟩ (.bool true)) g B xs none := by
  cases st with
  | none => obtain ⟨A, n, c, h1⟩ := h; exact ⟨A, n, c, h1.set 1 _⟩
  | some a =>
    obtain ⟨ha, v, h1, h2, h3⟩ := h
    obtain ⟨A, c, rfl⟩ := h2.form
    exact ⟨A, _, c, h1.set 1 _⟩
theorem RfR.cell1 {w : World} {g B : Nat} {xs : List UInt8} {st : Option Nat} (h : RfR w g B xs st) : w.cell? ⟨g, 1, none⟩ = some (.bool st.isNone) := by
  cases st with
  | none => obtain ⟨A, n, c, h1⟩ := h; exact h1.cell 1 rfl
  | some a => obtain ⟨ha, v, h1, h2, h3⟩ := h; exact h1.cell 1 rfl
theorem RfR.free {w : World} {g B : Nat} {xs : List UInt8} {st : Option Nat} (h : RfR w g B xs st) (j : Nat) : w.frozen? ⟨g, j, none⟩ = false := by
  cases st with
  | none => obtain ⟨A, n, c, h1⟩ := h; exact h1.free j
  | some a => obtain ⟨ha, v, h1, h2, h3⟩ := h; exact h1.free j
/-- Bytes of a row that goes on, from a place on. -/
theorem SrcA.drop {w : World} {ad : Addr} {ys : List UInt8} (h : SrcA w ad ys) (n : Nat) : SrcA w (ad.add n) (ys.drop n) := by
  intro j u hu
  have hj := (List.getElem?_eq_some_iff.1 hu).1
  rw [Array.length_toList, B8_size, List.length_drop] at hj
  rw [Go.Deep.add_add]
  refine h (n + j) u ?_
  rw [Array.getElem?_toList, B8_get _ _ (by rw [List.length_drop]; omega)] at hu
  rw [Array.getElem?_toList, B8_get _ _ (by omega), ← hu]
  simp [List.getD_eq_getElem?_getD]
theorem SrcA.take {w : World} {ad : Addr} {ys : List UInt8} (h : SrcA w ad ys) (n : Nat) : SrcA w ad (ys.take n) := by
  intro j u hu
  have hj := (List.getElem?_eq_some_iff.1 hu).1
  rw [Array.length_toList, B8_size, List.length_take] at hj
  refine h j u ?_
  rw [Array.getElem?_toList, B8_get _ _ (by rw [List.length_take]; omega)] at hu
  rw [Array.getElem?_toList, B8_get _ _ (by omega), ← hu]
  simp only [List.getD_eq_getElem?_getD]
  rw [List.getElem?_take_of_lt (by omega)]
/-- What take tells, and leaves. -/
def Took (w : World) (g B : Nat) (xs : List UInt8) (a n : Nat) (e : Ending) (w' : World) : Prop :=
  (∃ v, e = .returned v ∧ Bs w' v ((xs.drop a).take n) ∧ Off g B v ((xs.drop a).take n)) ∧ RfR w' g B xs (some (a + n)) ∧ Only g w w' none
set_option maxRecDepth 100000 in
set_option maxHeartbeats 1000000 in
theorem take_good (w : World) (g : Nat) {B : Nat} (xs : List UInt8) (a n : Nat) (h : RfR w g B xs (some a)) (hn : a + n ≤ xs.length) (hx : xs.length ≤ 2000000) :
    Calls Tryz.prog 93 #[.pointer (some ⟨g, 0, none⟩), .int .i64 n] w (Took w g B xs a n) := by
  obtain ⟨ha, v, hl, hb, hoff⟩ := h
  have c1 : w.cell? ⟨g, 1, none⟩ = some (.bool false) := hl.cell 1 rfl
  have c0 : w.cell? ⟨g, 0, none⟩ = some v := hl.cell 0 rfl
  have f0 := hl.free 0
  have n0 : ¬ (n : Int) < 0 := by omega
  have hlen : (xs.drop a).length = xs.length - a := List.length_drop
  have hd2 : xs.drop (a + n) = (xs.drop a).drop n := by rw [List.drop_drop]
  have HL := Lib.hid hl
  have HOFF := Lib.hid hoff
  rcases hb with ⟨rfl, he⟩ | ⟨ad, c, rfl, hc, hcm, hsp, hsrc⟩
  · have hz : n = 0 := by rw [he] at hlen; simp at hlen; omega
    subst hz
    have hfin : Took w g B xs a 0 (.returned (.slice none 0 0)) (w.setCell ⟨g, 0, none⟩ (.slice none 0 0)) := by
      refine ⟨⟨_, rfl, .inl ⟨rfl, by simp⟩, fun _ _ _ e => by cases e⟩, ⟨by omega, _, HL.out.set 0 _, .inl ⟨rfl, by rw [Nat.add_zero]; exact he⟩, ?_⟩, only_set g 0 w _⟩
      rw [Nat.add_zero]
      exact HOFF.out
    have HF := Lib.hid hfin
    clear hfin hd2 hlen he hl hoff
    go_enter Tryz.func93, Tryz.ntmps93
    go_wp2_with fail
    go_ret
    exact HF.out
  · have d1 : ¬ ((xs.length - a : Nat) : Int) < (n : Int) := by omega
    rw [hlen] at c0 hc
    have HC := Lib.hid hc
    have hnc : n ≤ c := by omega
    have e1 : (0 : Int) ≤ (n : Int) := by omega
    have e3 : ¬ (c : Int) < (n : Int) := by omega
    have e5 : ¬ c < n := by omega
    have e6 : ¬ (xs.length - a) < n := by omega
    have HSRC := Lib.hid hsrc
    have HD2 := Lib.hid hd2
    clear hsrc hl hoff hd2 hc
    have hfin : ∀ ad', (xs.drop (a + n) ≠ [] → ad' = ad.add n) → Took w g B xs a n (.returned (.slice (some ad) n c)) (w.setCell ⟨g, 0, none⟩ (.slice (some ad') (xs.length - a - n) (c - n))) := by
      intro ad' had
      have ho : Only g w (w.setCell ⟨g, 0, none⟩ (.slice (some ad') (xs.length - a - n) (c - n))) none := only_set g 0 w _
      have hl1 : ((xs.drop a).take n).length = n := by rw [List.length_take, hlen]; omega
      have hl2 : (xs.drop (a + n)).length = xs.length - a - n := by rw [List.length_drop]; omega
      have hne : xs.drop (a + n) ≠ [] → xs.drop a ≠ [] := fun h1 h2 => by rw [h2] at hlen; apply h1; apply List.eq_nil_of_length_eq_zero; rw [hl2, ← hlen]; simp
      have hsub : ((xs.drop a).take n) ≠ [] → xs.drop a ≠ [] := fun h1 h2 => h1 (by rw [h2]; simp)
      refine ⟨⟨_, rfl, .inr ⟨ad, c, by rw [hl1], by omega, hcm, fun h => hsp (hsub h), (HSRC.out.take n).only ho (fun h => HOFF.out.ne rfl (hsub h))⟩, fun ad2 n2 c2 e h => by cases e; exact HOFF.out ad _ c rfl (hsub h)⟩, ⟨hn, _, HL.out.set 0 _, .inr ⟨ad', c - n, by rw [hl2], by rw [hl2]; have := HC.out; omega, by omega, fun h => ?_, ?_⟩, ?_⟩, ho⟩
      · obtain rfl := had h
        unfold Addr.add
        split
        · exact hsp (hne h)
        · rfl
      · by_cases h : xs.drop (a + n) = []
        · rw [h]; exact fun j u hu => absurd (List.getElem?_eq_some_iff.1 hu).1 (by simp [B8])
        · obtain rfl := had h
          rw [HD2.out]
          exact (HSRC.out.drop n).only ho (fun _ => by rw [adds_block]; exact HOFF.out.ne rfl (hne h))
      · intro ad2 n2 c2 e h
        cases e
        obtain rfl := had h
        rw [adds_block]
        exact HOFF.out ad _ c rfl (hne h)
    have HF := Lib.hid hfin
    clear hfin hlen hsp hcm
    by_cases hcn : c = n
    · have hr : xs.drop (a + n) ≠ [] → ad = ad.add n := fun h => absurd (List.eq_nil_of_length_eq_zero (by rw [List.length_drop]; have := HC.out; omega)) h
      have HR := Lib.hid (HF.out ad hr)
      subst hcn
      clear hr HF
      go_enter Tryz.func93, Tryz.ntmps93
      go_wp2_with fail
      go_ret
      have := HR.out
      rw [Nat.sub_self] at this
      exact this
    · go_enter Tryz.func93, Tryz.ntmps93
      go_wp2_with fail
      go_ret
      exact HF.out _ (fun _ => rfl)
end Go.Proofs.YtjbjagdpemnhiaaGreat
