/-
  A new reader of bytes that came in: nil, empty or not.
-/
import Derived.Test.YtilbbemdinpjcaaGreatJWRRf4
import Derived.Test.YtilbbemdinpjcaaGreatJWRef4
import Derived.Test.YtilbbemdinpjcaaGreatJWTwo
namespace Go.Proofs.YtilbbemdinpjcaaGreat.W
open Go.RowKit
theorem beVal_beN (n s : Nat) (h : n / 2 ^ (8 * s) = 0) : beVal (beN n s) = n := by
  have key : ∀ t, t ≤ s → beVal ((beN n s).take t) = n / 2 ^ (8 * (s - t)) := by
    intro t
    induction t with
    | zero => intro _; rw [List.take_zero, Nat.sub_zero, h]; rfl
    | succ t ih =>
      intro ht
      rw [beN_take n s t (by omega), beVal_snoc, ih (by omega), UInt8.toNat_ofNat']
      have e : 8 * (s - t) = 8 * (s - 1 - t) + 8 := by omega
      have e2 : s - (t + 1) = s - 1 - t := by omega
      rw [e, e2, Nat.pow_add, ← Nat.div_div_eq_div_mul]
      generalize n / 2 ^ (8 * (s - 1 - t)) = m
      omega
  have := key s (Nat.le_refl _)
  rw [List.take_of_length_le (by rw [beN_length]; exact Nat.le_refl _), Nat.sub_self] at this
  simpa using this
theorem beVal_inj : ∀ (n : Nat) (l m : List UInt8), l.length = n → m.length = n → beVal l = beVal m → l = m
  | 0, l, m, hl, hm, _ => by rw [List.eq_nil_of_length_eq_zero hl, List.eq_nil_of_length_eq_zero hm]
  | n + 1, l, m, hl, hm, h => by
    have h1 : l ≠ [] := fun e => by rw [e] at hl; cases hl
    have h2 : m ≠ [] := fun e => by rw [e] at hm; cases hm
    have e1 := List.dropLast_concat_getLast h1
    have e2 := List.dropLast_concat_getLast h2
    rw [← e1, ← e2, beVal_snoc, beVal_snoc] at h
    have b1 := (l.getLast h1).toNat_lt
    have b2 := (m.getLast h2).toNat_lt
    have i1 := beVal_inj n l.dropLast m.dropLast (by rw [List.length_dropLast]; omega) (by rw [List.length_dropLast]; omega) (by omega)
    have i2 : l.getLast h1 = m.getLast h2 := UInt8.toNat_inj.1 (by omega)
    rw [← e1, ← e2, i1, i2]
theorem fit_of {n s : Nat} (h : n < 256 ^ s) : n / 2 ^ (8 * s) = 0 := by
 refine Nat.div_eq_of_lt ?_
 rw [Nat.pow_mul]
 exact h
theorem beN_beVal (e : List UInt8) (s : Nat) (h : e.length = s) : beN (beVal e) s = e := by
 subst h
 exact beVal_inj e.length _ _ (beN_length _ _) rfl (beVal_beN _ _ (fit_of (beVal_lt e)))
theorem cut_length {xs : List UInt8} {a s : Nat} (h : a + s ≤ xs.length) : ((xs.drop a).take s).length = s := by
 rw [List.length_take, List.length_drop]; omega
theorem numV_pow (xs : List UInt8) (st : Option Nat) (s : Nat) : numV xs st s < 256 ^ s := by
 have h0 : 0 < 256 ^ s := Nat.pow_pos (by omega)
 unfold numV
 split
 ·
  split
  ·
   exact beVal_take xs _ s
  ·
   exact h0
 ·
  exact h0
theorem numV_fits (xs : List UInt8) (st : Option Nat) (s : Nat) (hs : s ≤ 8) : numV xs st s < 18446744073709551616 :=
 Nat.lt_of_lt_of_le (numV_pow xs st s) (Nat.le_trans (Nat.pow_le_pow_right (by omega) hs) (by decide))
theorem countV_fits (xs : List UInt8) (st : Option Nat) (m : Int) : countV xs st m < 18446744073709551616 := by
 unfold countV
 split
 ·
  split
  ·
   have := beVal_take xs (by assumption) 2
   omega
  ·
   omega
 ·
  omega
theorem step_cut {xs : List UInt8} {a s : Nat} (h : a + s ≤ xs.length) : stepN (some (xs.take a)) (beVal ((xs.drop a).take s)) s = some (xs.take (a + s)) := by
 simp only [stepN, Option.bind_some, if_pos (fit_of (beVal_take xs a s)), beN_beVal _ s (cut_length h), List.take_add]
theorem num_sync {xs : List UInt8} {a s b : Nat} (h : numS xs (some a) s = some b) : a ≤ b ∧ stepN (some (xs.take a)) (numV xs (some a) s) s = some (xs.take b) := by
 by_cases hn : a + s ≤ xs.length
 ·
  simp only [numS, if_pos hn, Option.some.injEq] at h
  subst h
  simp only [numV, if_pos hn, step_cut hn]
  exact ⟨by omega, trivial⟩
 ·
  simp only [numS, if_neg hn] at h
  cases h
theorem hash_sync {xs : List UInt8} {a b : Nat} (h : numS xs (some a) 32 = some b) : a ≤ b ∧ stepB (some (xs.take a)) (hashV xs (some a)) = some (xs.take b) := by
 by_cases hn : a + 32 ≤ xs.length
 ·
  simp only [numS, if_pos hn, Option.some.injEq] at h
  subst h
  simp only [hashV, if_pos hn, stepB, Option.map_some, List.take_add]
  exact ⟨by omega, trivial⟩
 ·
  simp only [numS, if_neg hn] at h
  cases h
theorem text_sync {xs : List UInt8} {a b : Nat} {m : Int} (h : textS xs (some a) m = some b) : a ≤ b ∧ stepText (some (xs.take a)) ⟨(textV xs (some a) m).toArray⟩ = some (xs.take b) := by
 by_cases hn : TextOk xs a m
 ·
  simp only [textS, if_pos hn, Option.some.injEq] at h
  subst h
  have hl2 : ((xs.drop a).take 2).length = 2 := cut_length hn.1
  have hlt := beVal_take xs a 2
  have hb2 := beN_beVal _ 2 hl2
  have h3 := hn.2.2
  simp only [textV, if_pos hn]
  generalize beVal ((xs.drop a).take 2) = t at hlt hb2 h3
  have hlt2 : t < 65536 := by omega
  have hl : ((xs.drop (a + 2)).take t).length = t := cut_length h3
  have hsz : (ByteArray.mk ((xs.drop (a + 2)).take t).toArray).size = t := by
   show ((xs.drop (a + 2)).take t).toArray.size = t
   rw [List.size_toArray, hl]
  unfold stepText
  rw [hsz, if_pos hlt2, hb2]
  simp only [stepB, Option.map_some]
  rw [← List.append_assoc, ← List.take_add, ← List.take_add]
  exact ⟨by omega, rfl⟩
 ·
  simp only [textS, if_neg hn] at h
  cases h
theorem flag_sync {xs : List UInt8} {a b : Nat} (h : flagS xs (some a) = some b) : a ≤ b ∧ stepB (some (xs.take a)) [if flagV xs (some a) then 1 else 0] = some (xs.take b) := by
 by_cases hn : FlagOk xs a
 ·
  simp only [flagS, if_pos hn, Option.some.injEq] at h
  subst h
  have hb := beN_beVal _ 1 (cut_length hn.1)
  have h1 := hn.2
  simp only [flagV, if_pos hn]
  generalize beVal ((xs.drop a).take 1) = t at hb h1
  have ht : [if decide (t = 1) = true then (1 : UInt8) else 0] = (xs.drop a).take 1 := by
   rw [← hb]
   obtain rfl | rfl : t = 0 ∨ t = 1 := by omega
   ·
    rfl
   ·
    rfl
  rw [ht]
  simp only [stepB, Option.map_some, List.take_add]
  exact ⟨by omega, trivial⟩
 ·
  simp only [flagS, if_neg hn] at h
  cases h
theorem count_sync {xs : List UInt8} {a b : Nat} {m : Int} (h : countS xs (some a) m = some b) : a ≤ b ∧ stepN (some (xs.take a)) (countV xs (some a) m) 2 = some (xs.take b) := by
 by_cases hn : CountOk xs a m
 ·
  simp only [countS, if_pos hn, Option.some.injEq] at h
  subst h
  simp only [countV, if_pos hn, step_cut hn.1]
  exact ⟨by omega, trivial⟩
 ·
  simp only [countS, if_neg hn] at h
  cases h
end Go.Proofs.YtilbbemdinpjcaaGreat.W
namespace Go.Proofs.YtilbbemdinpjcaaGreat.W
open Go.RowKit
theorem clone_in (w : World) (v : Value) (xs : List UInt8) (h : RawIn w v xs) (hx : xs.length ≤ 2000000) :
  Calls Tryz.prog 85 #[v] w fun e w' => ∃ u, e = .returned u ∧ w'.ownsRow w.heap.size 5 1 u xs.length (B8 xs).toList ∧ Below w.heap.size w w' := by
 rcases h with ⟨rfl, rfl⟩ | ⟨ad, c, rfl, hs⟩
 ·
  refine (clone_nil w).mono ?_
  rintro e w' ⟨rfl, rfl⟩
  exact ⟨_, rfl, World.ownsRow_nil _ _ _ _, Below.refl _ _⟩
 ·
  exact clone_anyA w xs ad c hs hx
set_option maxRecDepth 100000 in
theorem newreader_in (w : World) (v : Value) (xs : List UInt8) (h : RawIn w v xs) (hx : xs.length ≤ 2000000) (hp : 0 < w.heap.size) :
  Calls Tryz.prog 25 #[v] w fun e w' => ∃ g k c, e = .returned (.pointer (some ⟨g, 0, none⟩)) ∧ w.heap.size ≤ g ∧ (w.heap.size ≤ k ∨ xs = []) ∧ Rdr w' g k xs c 0 false ∧ Below w.heap.size w w' := by
 have hcl := clone_in w v xs h hx
 have HC := Lib.hid hcl
 have HP := Lib.hid hp
 clear hcl h hp
 go_enter Tryz.func25, Tryz.ntmps25
 go_wp2_with fail
 refine HC.out.mono ?_
 rintro e w1 ⟨u, rfl, hown, hb⟩
 have hk : ∃ k c, u = RS k xs.length c ∧ (w.heap.size ≤ k ∨ xs = []) ∧ k < w1.heap.size ∧ xs.length ≤ c ∧ (c = NILC → xs = []) ∧ Src w1 k 0 xs := by
  rcases hown.2 with ⟨rfl, hn⟩ | ⟨k, c, cur, rfl, hk1, hk2, hk3, hk4, _⟩
  ·
   obtain rfl : xs = [] := List.eq_nil_of_length_eq_zero hn
   exact ⟨0, NILC, by rw [RS_nil], .inr rfl, Nat.lt_of_lt_of_le HP.out hb.size, Nat.zero_le _, fun _ => rfl, fun j hj => absurd hj (by simp)⟩
  ·
   have hcn : c ≠ NILC := by
    unfold maxLen at hk4
    unfold NILC
    omega
   exact ⟨k, c, by rw [RS_some k _ hcn], .inl hk1, (Array.getElem?_eq_some_iff.1 hk2).1, hk3, fun e => absurd e hcn, own_src hown⟩
 obtain ⟨k, c, rfl, hk1, hk2, hk3, hk4, hsrc⟩ := hk
 have HH := Lib.hid (And.intro hsrc (And.intro hb (And.intro hk1 (And.intro hk2 (And.intro hk3 hk4)))))
 have hform : ∃ A c2, RS k xs.length c = .slice A xs.length c2 := by
  by_cases hc : c = NILC
  ·
   exact ⟨none, 0, by rw [hc, RS_nil, hk4 hc]; rfl⟩
  ·
   exact ⟨_, _, RS_some k _ hc⟩
 obtain ⟨A, c2, hrs⟩ := hform
 rw [hrs]
 have HRS := Lib.hid hrs
 clear hrs
 clear hown hb hsrc HC hk1 hk2 hk3 hk4
 go_wp2_with fail
 have hl := Lies.new w1 #[.pointer none, .bool false, .slice A xs.length c2, .int .i64 0] 129
 have hb1 : Below w1.heap.size w1 (w1.alloc (.cells #[.pointer none, .bool false, .slice A xs.length c2, .int .i64 0] 129)) := (Below.refl _ _).alloc (Nat.le_refl _) _
 generalize w1.alloc (.cells #[.pointer none, .bool false, .slice A xs.length c2, .int .i64 0] 129) = w2 at hl hb1 ⊢
 refine (begin_any w2 w1.heap.size (.pointer none) (hl.cell 0 rfl) (hl.free 0) rfl).mono ?_
 rintro e w3 ⟨rfl, hw3⟩
 have hr : Rdr w3 w1.heap.size k xs c 0 false := by
  rw [hw3]
  have hk2 := HH.out.2.2.2.1
  have hl2 : Lies w2 w1.heap.size #[.pointer none, .bool false, RS k xs.length c, .int .i64 0] 129 := by rw [HRS.out]; exact hl
  refine ⟨hl2.set 0 _, ?_, by omega, by rw [size_set]; exact Nat.lt_of_lt_of_le hk2 hb1.size, hx, HH.out.2.2.2.2.1, HH.out.2.2.2.2.2⟩
  have h1 : Src w2 k 0 xs := fun j hj => (hb1.cell (p := ⟨k, 0 + j, none⟩) hk2).trans (HH.out.1 j hj)
  exact h1.only (only_set w1.heap.size 0 w2 _) (Nat.lt_of_lt_of_le hk2 hb1.size) (by omega)
 have hb3 : Below w.heap.size w w3 := by
  rw [hw3]
  exact (HH.out.2.1.trans (hb1.mono HH.out.2.1.size)).setCell HH.out.2.1.size _
 have HX := Lib.hid (And.intro hr hb3)
 clear hl hb1 hw3 hr hb3
 go_wp2_with fail
 go_ret
 exact ⟨w1.heap.size, k, c, rfl, HH.out.2.1.size, HH.out.2.2.1, HX.out.1, HX.out.2⟩
end Go.Proofs.YtilbbemdinpjcaaGreat.W
