/-
  The document's own reader: take, whatever is asked; numbers.
  The document's own reader: Raw, Text, Flag, Count, Left, Err, End.
  The document's own reader: Flag, Hash.
-/
import Derived.Test.YtilbbemdinpjcaaGreatJWWrites
namespace Go.Proofs.YtilbbemdinpjcaaGreat.W
open Go.RowKit

/-- What take tells, and leaves, whatever is asked. -/
def TookS (w : World) (g B : Nat) (xs : List UInt8) (st : Option Nat) (n : Int) (e : Ending) (w' : World) : Prop :=
  (∃ v, e = .returned v ∧ Bs w' v (rawV xs st n) ∧ Off g B v (rawV xs st n)) ∧ RfR w' g B xs (rawS xs st n) ∧ Only g w w' none
set_option maxRecDepth 100000 in
theorem take_st (w : World) (g : Nat) {B : Nat} (xs : List UInt8) (st : Option Nat) (n : Int) (h : RfR w g B xs st) (hx : xs.length ≤ 2000000) :
    Calls Tryz.prog 235 #[.pointer (some ⟨g, 0, none⟩), .int .i64 n] w (TookS w g B xs st n) := by
  have c1 := h.cell1
  have f1 := h.free 1
  have hbad : (rawV xs st n = [] ∧ rawS xs st n = none) → TookS w g B xs st n (.returned (.slice none 0 0)) (w.setCell ⟨g, 1, none⟩ (.bool true)) := fun ⟨h1, h2⟩ =>
    ⟨⟨_, rfl, .inl ⟨rfl, h1⟩, fun _ _ _ e => by cases e⟩, by rw [h2]; exact h.bad, only_set g 1 w _⟩
  cases st with
  | none =>
    have HF := Lib.hid (hbad ⟨rfl, rfl⟩)
    clear hbad h
    go_enter Tryz.func235, Tryz.ntmps235
    go_wp2_with fail
    go_ret
    exact HF.out
  | some a =>
    by_cases hn : RawOk xs a n
    · obtain ⟨m, rfl⟩ : ∃ m : Nat, n = (m : Int) := ⟨n.toNat, by have := hn.1; omega⟩
      have hm : a + m ≤ xs.length := by have := hn.2; have := h.1; omega
      refine (take_good w g xs a m h hm hx).mono ?_
      rintro e w' ⟨⟨v, rfl, hb, hof⟩, hr, ho⟩
      refine ⟨⟨v, rfl, ?_, ?_⟩, ?_, ho⟩
      · simp only [rawV, if_pos hn, Int.toNat_natCast]; exact hb
      · simp only [rawV, if_pos hn, Int.toNat_natCast]; exact hof
      · simp only [rawS, if_pos hn, Int.toNat_natCast]; exact hr
    · have HF := Lib.hid (hbad ⟨by simp only [rawV, if_neg hn], by simp only [rawS, if_neg hn]⟩)
      obtain ⟨ha, v, hl, hb, _⟩ := h
      have c0 : w.cell? ⟨g, 0, none⟩ = some v := hl.cell 0 rfl
      obtain ⟨A, c, rfl⟩ := hb.form
      have hlen : (xs.drop a).length = xs.length - a := List.length_drop
      rw [hlen] at c0
      clear hbad hl hb hlen
      by_cases h0 : n < 0
      · have d0 : decide (n < 0) = true := decide_eq_true h0
        clear hn
        go_enter Tryz.func235, Tryz.ntmps235
        go_wp2_with fail
        go_ret
        exact HF.out
      · have d0 : decide (n < 0) = false := decide_eq_false h0
        have d1 : ((xs.length - a : Nat) : Int) < n := by unfold RawOk at hn; omega
        clear hn
        go_enter Tryz.func235, Tryz.ntmps235
        go_wp2_with fail
        go_ret
        exact HF.out
theorem Bs.cell {w : World} {v : Value} {ys : List UInt8} (h : Bs w v ys) (hp : 0 < ys.length) : ∃ b o c, v = .slice (some ⟨b, o, none⟩) ys.length c ∧ Src w b o ys := by
  rcases h with ⟨_, rfl⟩ | ⟨ad, c, rfl, _, _, hsp, hs⟩
  · simp at hp
  · obtain ⟨b, o, spot⟩ := ad
    have : spot = none := hsp (fun e => by rw [e] at hp; simp at hp)
    subst this
    refine ⟨b, o, c, rfl, fun j hj => ?_⟩
    have := hs j _ (by rw [Array.getElem?_toList]; exact B8_get ys j hj)
    rwa [Addr.add_mid] at this
theorem rawV_num (xs : List UInt8) (st : Option Nat) (s : Nat) (h : ∀ a, st = some a → a ≤ xs.length) : (numS xs st s = rawS xs st s) ∧ (numV xs st s = beVal (rawV xs st s)) := by
  cases st with
  | none => exact ⟨rfl, rfl⟩
  | some a =>
    have ha := h a rfl
    by_cases hn : a + s ≤ xs.length
    · have hr : RawOk xs a s := by unfold RawOk; omega
      simp only [numS, numV, rawS, rawV, if_pos hn, if_pos hr, Int.toNat_natCast, and_self]
    · have hr : ¬ RawOk xs a s := by unfold RawOk; omega
      simp only [numS, numV, rawS, rawV, if_neg hn, if_neg hr]
      exact ⟨trivial, rfl⟩
theorem rawV_len (xs : List UInt8) (st : Option Nat) (s : Nat) : (rawV xs st s).length ≤ s := by
  cases st with
  | none => exact Nat.zero_le _
  | some a =>
    simp only [rawV]
    split
    · rw [List.length_take, Int.toNat_natCast]; exact Nat.min_le_left _ _
    · exact Nat.zero_le _
theorem RfR.le {w : World} {g B : Nat} {xs : List UInt8} {st : Option Nat} (h : RfR w g B xs st) : ∀ a, st = some a → a ≤ xs.length := by
  rintro a rfl
  exact h.1
theorem numV_lt (xs : List UInt8) (st : Option Nat) (s : Nat) : numV xs st s < 256 ^ s := by
  have hp : 0 < 256 ^ s := Nat.pow_pos (by decide)
  cases st with
  | none => exact hp
  | some a =>
    simp only [numV]
    split
    · exact beVal_take xs a s
    · exact hp
set_option maxRecDepth 100000 in
theorem rnumber_st (w : World) (g : Nat) {B : Nat} (xs : List UInt8) (st : Option Nat) (s : Nat) (h : RfR w g B xs st) (hx : xs.length ≤ 2000000) (hs : s ≤ 8) :
    Calls Tryz.prog 234 #[.pointer (some ⟨g, 0, none⟩), .int .i64 s] w fun e w' => e = .returned (.int .u64 (numV xs st s)) ∧ RfR w' g B xs (numS xs st s) ∧ Only g w w' none := by
  obtain ⟨e1, e2⟩ := rawV_num xs st s h.le
  rw [e1, e2]
  have hl := rawV_len xs st s
  have HT := Lib.hid (take_st w g xs st s h hx)
  clear e1 e2 h
  obtain ⟨ys, hys⟩ : ∃ ys, rawV xs st s = ys := ⟨_, rfl⟩
  rw [hys] at hl ⊢
  have HY := Lib.hid hys
  clear hys
  go_enter Tryz.func234, Tryz.ntmps234
  go_wp2_with fail
  refine HT.out.mono ?_
  rintro e w1 ⟨⟨v, rfl, hb, _⟩, hr, ho⟩
  have HR := Lib.hid (And.intro hr ho)
  rw [HY.out] at hb
  have HB := Lib.hid hb
  clear hr ho HT
  obtain ⟨A, c, rfl⟩ := hb.form
  clear hb
  go_wp2_with fail
  go_loop [6, 7] (fun v i => ∃ t : Nat, t ≤ ys.length ∧ i = .int .i64 t ∧ v = .int .u64 (beVal (ys.take t))) (fun _ i => ys.length - (intOf i).toNat)
  case atStart => exact ⟨0, by omega, rfl, rfl⟩
  case round =>
    obtain ⟨t, ht, rfl, rfl⟩ := hrel
    by_cases hlt : t < ys.length
    · obtain ⟨b, o, c', hA, hsrc⟩ := HB.out.cell (by omega)
      cases hA
      have hc := hsrc t hlt
      have hval : beVal (ys.take (t + 1)) = beVal (ys.take t) * 256 + (ys.getD t 0).toNat := by
        rw [List.take_succ_eq_append_getElem hlt, beVal_snoc]
        simp [hlt]
      have hbd : beVal (ys.take t) < 2 ^ 56 := by
        have h1 := beVal_lt (ys.take t)
        rw [List.length_take, Nat.min_eq_left (by omega)] at h1
        have h2 : 256 ^ t ≤ 256 ^ 7 := Nat.pow_le_pow_right (by decide) (by omega)
        have h3 : 256 ^ 7 = 2 ^ 56 := by decide
        omega
      have hby := (ys.getD t 0).toNat_lt
      generalize ys.getD t 0 = y at hc hval hby
      generalize beVal (ys.take t) = n at hval hbd ⊢
      have hsh : IntKind.u64.wrap ((n : Int) * 256) = ((n * 256 : Nat) : Int) := by rw [IntKind.wrap_u64]; omega
      have hcv : IntKind.u64.wrap (y.toNat : Int) = (y.toNat : Int) := by rw [IntKind.wrap_u64]; omega
      have had : IntKind.u64.wrap (((n * 256 : Nat) : Int) + (y.toNat : Int)) = ((n * 256 + y.toNat : Nat) : Int) := by rw [IntKind.wrap_u64]; omega
      have i2 : (t : Int) < (ys.length : Int) := by omega
      have i4 : (0 : Int) ≤ (t : Int) := by omega
      have i7 : (t : Int) ≤ 8 := by omega
      have HV := Lib.hid hval
      clear hval hsrc
      go_wp2_with fail
      refine ⟨⟨t + 1, by omega, by go_num, ?_⟩, by simp [intOf]; omega⟩
      rw [HV.out]
      exact congrArg (Value.int .u64) (by omega)
    · obtain rfl : t = ys.length := by omega
      have hlast : ys.take ys.length = ys := List.take_of_length_le (Nat.le_refl _)
      rw [hlast]
      clear hlast
      go_wp2_with fail
      go_ret
      exact ⟨rfl, HR.out⟩
set_option maxRecDepth 100000 in
theorem r58_st (w : World) (g : Nat) {B : Nat} (xs : List UInt8) (st : Option Nat) (h : RfR w g B xs st) (hx : xs.length ≤ 2000000) :
    Calls Tryz.prog 161 #[.pointer (some ⟨g, 0, none⟩)] w fun e w' => e = .returned (.int .i64 (numV xs st 1)) ∧ RfR w' g B xs (numS xs st 1) ∧ Only g w w' none := by
  have HN := Lib.hid (rnumber_st w g xs st 1 h hx (by omega))
  have hlt := numV_lt xs st 1
  have e256 : (256 : Nat) ^ 1 = 256 := by decide
  rw [e256] at hlt
  generalize numV xs st 1 = v at hlt HN ⊢
  have hw : IntKind.i64.wrap (v : Int) = v := by rw [IntKind.wrap_i64]; omega
  clear h
  go_enter Tryz.func161, Tryz.ntmps161
  go_wp2_with fail
  refine HN.out.mono ?_
  rintro e w1 ⟨rfl, hr⟩
  have HR := Lib.hid hr
  clear hr
  go_wp2_with fail
  go_ret
  exact ⟨rfl, HR.out⟩
set_option maxRecDepth 100000 in
theorem r59_st (w : World) (g : Nat) {B : Nat} (xs : List UInt8) (st : Option Nat) (h : RfR w g B xs st) (hx : xs.length ≤ 2000000) :
    Calls Tryz.prog 173 #[.pointer (some ⟨g, 0, none⟩)] w fun e w' => e = .returned (.int .i64 (numV xs st 2)) ∧ RfR w' g B xs (numS xs st 2) ∧ Only g w w' none := by
  have HN := Lib.hid (rnumber_st w g xs st 2 h hx (by omega))
  have hlt := numV_lt xs st 2
  have e256 : (256 : Nat) ^ 2 = 65536 := by decide
  rw [e256] at hlt
  generalize numV xs st 2 = v at hlt HN ⊢
  have hw : IntKind.i64.wrap (v : Int) = v := by rw [IntKind.wrap_i64]; omega
  clear h
  go_enter Tryz.func173, Tryz.ntmps173
  go_wp2_with fail
  refine HN.out.mono ?_
  rintro e w1 ⟨rfl, hr⟩
  have HR := Lib.hid hr
  clear hr
  go_wp2_with fail
  go_ret
  exact ⟨rfl, HR.out⟩
set_option maxRecDepth 100000 in
theorem r60_st (w : World) (g : Nat) {B : Nat} (xs : List UInt8) (st : Option Nat) (h : RfR w g B xs st) (hx : xs.length ≤ 2000000) :
    Calls Tryz.prog 165 #[.pointer (some ⟨g, 0, none⟩)] w fun e w' => e = .returned (.int .i64 (numV xs st 4)) ∧ RfR w' g B xs (numS xs st 4) ∧ Only g w w' none := by
  have HN := Lib.hid (rnumber_st w g xs st 4 h hx (by omega))
  have hlt := numV_lt xs st 4
  have e256 : (256 : Nat) ^ 4 = 4294967296 := by decide
  rw [e256] at hlt
  generalize numV xs st 4 = v at hlt HN ⊢
  have hw : IntKind.i64.wrap (v : Int) = v := by rw [IntKind.wrap_i64]; omega
  clear h
  go_enter Tryz.func165, Tryz.ntmps165
  go_wp2_with fail
  refine HN.out.mono ?_
  rintro e w1 ⟨rfl, hr⟩
  have HR := Lib.hid hr
  clear hr
  go_wp2_with fail
  go_ret
  exact ⟨rfl, HR.out⟩
set_option maxRecDepth 100000 in
theorem r61_st (w : World) (g : Nat) {B : Nat} (xs : List UInt8) (st : Option Nat) (h : RfR w g B xs st) (hx : xs.length ≤ 2000000) :
    Calls Tryz.prog 164 #[.pointer (some ⟨g, 0, none⟩)] w fun e w' => e = .returned (.int .u64 (numV xs st 8)) ∧ RfR w' g B xs (numS xs st 8) ∧ Only g w w' none := by
  have HN := Lib.hid (rnumber_st w g xs st 8 h hx (by omega))
  generalize numV xs st 8 = v at HN ⊢
  clear h
  go_enter Tryz.func164, Tryz.ntmps164
  go_wp2_with fail
  refine HN.out.mono ?_
  rintro e w1 ⟨rfl, hr⟩
  have HR := Lib.hid hr
  clear hr
  go_wp2_with fail
  go_ret
  exact ⟨rfl, HR.out⟩
set_option maxRecDepth 100000 in
theorem r62_st (w : World) (g : Nat) {B : Nat} (xs : List UInt8) (st : Option Nat) (h : RfR w g B xs st) (hx : xs.length ≤ 2000000) :
    Calls Tryz.prog 162 #[.pointer (some ⟨g, 0, none⟩)] w fun e w' => e = .returned (.int .i64 (IntKind.i64.wrap (numV xs st 8))) ∧ RfR w' g B xs (numS xs st 8) ∧ Only g w w' none := by
  have HN := Lib.hid (rnumber_st w g xs st 8 h hx (by omega))
  generalize numV xs st 8 = v at HN ⊢
  obtain ⟨z, hz⟩ : ∃ z, IntKind.i64.wrap (v : Int) = z := ⟨_, rfl⟩
  rw [hz]
  clear h
  go_enter Tryz.func162, Tryz.ntmps162
  go_wp2_with fail
  refine HN.out.mono ?_
  rintro e w1 ⟨rfl, hr⟩
  have HR := Lib.hid hr
  clear hr
  go_wp2_with fail
  go_ret
  exact ⟨rfl, HR.out⟩
end Go.Proofs.YtilbbemdinpjcaaGreat.W
namespace Go.Proofs.YtilbbemdinpjcaaGreat.W
open Go.RowKit

theorem rawV_le (xs : List UInt8) (st : Option Nat) (n : Int) : (rawV xs st n).length ≤ xs.length := by
  cases st with
  | none => exact Nat.zero_le _
  | some a =>
    simp only [rawV]
    split
    · rw [List.length_take, List.length_drop]; omega
    · exact Nat.zero_le _
theorem bs_text {w : World} {u : Value} {l : List UInt8} (h : Bs w u l) : (convert 54 9 u).run Tryz.prog w = .ok (.string ⟨l.toArray⟩) w := by
  rcases h with ⟨rfl, rfl⟩ | ⟨ad, c, rfl, _, _, _, hs⟩
  · rw [run_convert_bytes_string w 54 9 5 none 0 0 Tryz.underlying54 Tryz.underlying5 Tryz.underlying9]
    simp [Conv.bytesToString]
    rfl
  · exact run_convert_bytes_back w 54 9 5 ad c l Tryz.underlying54 Tryz.underlying5 Tryz.underlying9 (fun j hj => by
      have := hs j _ (by rw [Array.getElem?_toList]; exact B8_get l j hj)
      rw [this]
      simp [hj])
/-- What is told of a text's length, and its bytes, of the document's own reader. -/
theorem text_split (xs : List UInt8) (st : Option Nat) (m : Int) (h : ∀ a, st = some a → a ≤ xs.length) (st1 st2 : Option Nat) (n : Nat) (e1 : numS xs st 2 = st1) (e2 : numV xs st 2 = n) (e3 : rawS xs st1 n = st2) :
    (st2.isNone = false → (n : Int) ≤ m → textV xs st m = rawV xs st1 n ∧ textS xs st m = st2) ∧ ((st2.isNone = true ∨ m < (n : Int)) → textV xs st m = [] ∧ textS xs st m = none) := by
  subst e1 e2 e3
  cases st with
  | none => exact ⟨fun h => by simp [numS, rawS] at h, fun _ => ⟨rfl, rfl⟩⟩
  | some a =>
    have ha := h a rfl
    by_cases h2 : a + 2 ≤ xs.length
    · have e1 : numS xs (some a) 2 = some (a + 2) := by simp only [numS, if_pos h2]
      have e2 : numV xs (some a) 2 = beVal ((xs.drop a).take 2) := by simp only [numV, if_pos h2]
      rw [e1, e2]
      by_cases hr : RawOk xs (a + 2) (beVal ((xs.drop a).take 2) : Nat)
      · have e3 : rawS xs (some (a + 2)) (beVal ((xs.drop a).take 2) : Nat) = some (a + 2 + beVal ((xs.drop a).take 2)) := by simp only [rawS, if_pos hr, Int.toNat_natCast]
        have e4 : rawV xs (some (a + 2)) (beVal ((xs.drop a).take 2) : Nat) = (xs.drop (a + 2)).take (beVal ((xs.drop a).take 2)) := by simp only [rawV, if_pos hr, Int.toNat_natCast]
        rw [e3, e4]
        constructor
        · intro _ hm
          have ht : TextOk xs a m := ⟨h2, hm, by have := hr.2; omega⟩
          simp only [textV, textS, if_pos ht, and_self]
        · intro hh
          have ht : ¬ TextOk xs a m := by
            rcases hh with hh | hh
            · cases hh
            · intro t; have := t.2.1; omega
          simp only [textV, textS, if_neg ht, and_self]
      · have e3 : rawS xs (some (a + 2)) (beVal ((xs.drop a).take 2) : Nat) = none := by simp only [rawS, if_neg hr]
        rw [e3]
        have ht : ¬ TextOk xs a m := by
          intro t
          apply hr
          unfold RawOk
          have := t.2.2
          omega
        exact ⟨(fun h => by cases h), fun _ => by simp only [textV, textS, if_neg ht, and_self]⟩
    · have e1 : numS xs (some a) 2 = none := by simp only [numS, if_neg h2]
      have ht : ¬ TextOk xs a m := fun t => h2 t.1
      rw [e1]
      exact ⟨fun h => by simp [rawS] at h, fun _ => by simp only [textV, textS, if_neg ht, and_self]⟩
theorem RfR.cell0 {w : World} {g B : Nat} {xs : List UInt8} {st : Option Nat} (h : RfR w g B xs st) : ∃ A n c, w.cell? ⟨g, 0, none⟩ = some (.slice A n c) := by
  cases st with
  | none => obtain ⟨A, n, c, h1⟩ := h; exact ⟨A, n, c, h1.cell 0 rfl⟩
  | some a =>
    obtain ⟨ha, v, h1, h2, h3⟩ := h
    obtain ⟨A, c, rfl⟩ := h2.form
    exact ⟨A, _, c, h1.cell 0 rfl⟩
/-- Spoilt, whatever is laid back. -/
theorem RfR.back {w : World} {g B : Nat} {xs : List UInt8} {st : Option Nat} (h : RfR w g B xs st) (A : Option Addr) (n c : Nat) : RfR ((w.setCell ⟨g, 1, none⟩ (.bool true)).setCell ⟨g, 0, none⟩ (.slice A n c)) g B xs none := by
  obtain ⟨_, _, _, h1⟩ := h.bad
  exact ⟨A, n, c, h1.set 0 _⟩
set_option maxRecDepth 100000 in
theorem rtext_rst (w : World) (g : Nat) {B : Nat} (xs : List UInt8) (st : Option Nat) (m : Int) (h : RfR w g B xs st) (hx : xs.length ≤ 2000000) :
    Calls Tryz.prog 163 #[.pointer (some ⟨g, 0, none⟩), .int .i64 m] w fun e w' => e = .returned (.string ⟨(textV xs st m).toArray⟩) ∧ RfR w' g B xs (textS xs st m) ∧ Only g w w' none := by
  obtain ⟨A0, n0, cp0, c0⟩ := h.cell0
  have HN := Lib.hid (r59_st w g xs st h hx)
  obtain ⟨st1, e1⟩ : ∃ st1, numS xs st 2 = st1 := ⟨_, rfl⟩
  obtain ⟨n, e2⟩ : ∃ n, numV xs st 2 = n := ⟨_, rfl⟩
  obtain ⟨st2, e3⟩ : ∃ st2, rawS xs st1 n = st2 := ⟨_, rfl⟩
  obtain ⟨s1, s2⟩ := text_split xs st m h.le st1 st2 n e1 e2 e3
  rw [e1, e2] at HN
  have HS1 := Lib.hid s1
  have HS2 := Lib.hid s2
  have HE3 := Lib.hid e3
  clear s1 s2 e3 h e1 e2
  go_enter Tryz.func163, Tryz.ntmps163
  go_wp2_with fail
  refine HN.out.mono ?_
  rintro e w1 ⟨rfl, hr1, ho1⟩
  have HT := Lib.hid (take_st w1 g xs st1 n hr1 hx)
  have HO1 := Lib.hid ho1
  clear hr1 ho1 HN c0
  go_wp2_with fail
  refine HT.out.mono ?_
  rintro e w2 ⟨⟨b, rfl, hb, _⟩, hr2, ho2⟩
  rw [HE3.out] at hr2
  have HR2 := Lib.hid (And.intro hr2 (HO1.out.trans0 ho2))
  have c1 := hr2.cell1
  have f1 := hr2.free 1
  have f0 := hr2.free 0
  obtain ⟨A2, n2, cp2, c0⟩ := hr2.cell0
  have htx := bs_text hb
  clear hb hr2 ho2 HT HO1
  by_cases hbad : st2.isNone = true
  · rw [hbad] at c1
    obtain ⟨h1, h2⟩ := HS2.out (.inl hbad)
    have HF := Lib.hid (And.intro (HR2.out.1.back A0 n0 cp0) ((HR2.out.2.trans0 (only_set g 1 _ (.bool true))).trans0 (only_set g 0 _ (.slice A0 n0 cp0))))
    have HH := Lib.hid (And.intro h1 h2)
    clear h1 h2 hbad htx
    go_wp2_with fail
    go_ret
    rw [HH.out.1, HH.out.2]
    exact ⟨rfl, HF.out⟩
  · have hbad' : st2.isNone = false := by simpa only [Bool.not_eq_true] using hbad
    rw [hbad'] at c1
    by_cases hm : m < (n : Int)
    · obtain ⟨h1, h2⟩ := HS2.out (.inr hm)
      have HF := Lib.hid (And.intro (HR2.out.1.back A0 n0 cp0) ((HR2.out.2.trans0 (only_set g 1 _ (.bool true))).trans0 (only_set g 0 _ (.slice A0 n0 cp0))))
      have HH := Lib.hid (And.intro h1 h2)
      clear h1 h2 hbad htx hbad'
      go_wp2_with fail
      go_ret
      rw [HH.out.1, HH.out.2]
      exact ⟨rfl, HF.out⟩
    · obtain ⟨h1, h2⟩ := HS1.out hbad' (by omega)
      have HH := Lib.hid (And.intro h1 h2)
      have hm' : decide (m < (n : Int)) = false := decide_eq_false hm
      clear h1 h2 hbad hbad'
      go_wp2_with fail
      go_ret
      rw [HH.out.1, HH.out.2]
      exact ⟨rfl, HR2.out⟩
theorem count_split (xs : List UInt8) (st : Option Nat) (m : Int) (st1 : Option Nat) (n : Nat) (e1 : numS xs st 2 = st1) (e2 : numV xs st 2 = n) :
    (st1.isNone = false → (n : Int) ≤ m → countV xs st m = n ∧ countS xs st m = st1) ∧ ((st1.isNone = true ∨ m < (n : Int)) → countV xs st m = 0 ∧ countS xs st m = none) := by
  subst e1 e2
  cases st with
  | none => exact ⟨fun h => by simp [numS] at h, fun _ => ⟨rfl, rfl⟩⟩
  | some a =>
    by_cases h2 : a + 2 ≤ xs.length
    · have e1 : numS xs (some a) 2 = some (a + 2) := by simp only [numS, if_pos h2]
      have e2 : numV xs (some a) 2 = beVal ((xs.drop a).take 2) := by simp only [numV, if_pos h2]
      rw [e1, e2]
      constructor
      · intro _ hm
        have ht : CountOk xs a m := ⟨h2, hm⟩
        simp only [countV, countS, if_pos ht, and_self]
      · intro hh
        have ht : ¬ CountOk xs a m := by
          rcases hh with hh | hh
          · cases hh
          · intro t; have := t.2; omega
        simp only [countV, countS, if_neg ht, and_self]
    · have e1 : numS xs (some a) 2 = none := by simp only [numS, if_neg h2]
      have ht : ¬ CountOk xs a m := fun t => h2 t.1
      rw [e1]
      exact ⟨(fun h => by cases h), fun _ => by simp only [countV, countS, if_neg ht, and_self]⟩
set_option maxRecDepth 100000 in
theorem rcount_rst (w : World) (g : Nat) {B : Nat} (xs : List UInt8) (st : Option Nat) (m : Int) (h : RfR w g B xs st) (hx : xs.length ≤ 2000000) :
    Calls Tryz.prog 166 #[.pointer (some ⟨g, 0, none⟩), .int .i64 m] w fun e w' => e = .returned (.int .i64 (countV xs st m)) ∧ RfR w' g B xs (countS xs st m) ∧ Only g w w' none := by
  obtain ⟨A0, n0, cp0, c0⟩ := h.cell0
  have HN := Lib.hid (r59_st w g xs st h hx)
  obtain ⟨st1, e1⟩ : ∃ st1, numS xs st 2 = st1 := ⟨_, rfl⟩
  obtain ⟨n, e2⟩ : ∃ n, numV xs st 2 = n := ⟨_, rfl⟩
  obtain ⟨s1, s2⟩ := count_split xs st m st1 n e1 e2
  rw [e1, e2] at HN
  have HS1 := Lib.hid s1
  have HS2 := Lib.hid s2
  clear s1 s2 h e1 e2
  go_enter Tryz.func166, Tryz.ntmps166
  go_wp2_with fail
  refine HN.out.mono ?_
  rintro e w2 ⟨rfl, hr2, ho2⟩
  have HR2 := Lib.hid (And.intro hr2 ho2)
  clear c0
  have c1 := hr2.cell1
  have f1 := hr2.free 1
  have f0 := hr2.free 0
  obtain ⟨A2, n2, cp2, c0⟩ := hr2.cell0
  clear hr2 ho2 HN
  by_cases hbad : st1.isNone = true
  · rw [hbad] at c1
    obtain ⟨h1, h2⟩ := HS2.out (.inl hbad)
    have HF := Lib.hid (And.intro (HR2.out.1.back A0 n0 cp0) ((HR2.out.2.trans0 (only_set g 1 _ (.bool true))).trans0 (only_set g 0 _ (.slice A0 n0 cp0))))
    have HH := Lib.hid (And.intro h1 h2)
    clear h1 h2 hbad
    go_wp2_with fail
    go_ret
    rw [HH.out.1, HH.out.2]
    exact ⟨rfl, HF.out⟩
  · have hbad' : st1.isNone = false := by simpa only [Bool.not_eq_true] using hbad
    rw [hbad'] at c1
    by_cases hm : m < (n : Int)
    · obtain ⟨h1, h2⟩ := HS2.out (.inr hm)
      have HF := Lib.hid (And.intro (HR2.out.1.back A0 n0 cp0) ((HR2.out.2.trans0 (only_set g 1 _ (.bool true))).trans0 (only_set g 0 _ (.slice A0 n0 cp0))))
      have HH := Lib.hid (And.intro h1 h2)
      clear h1 h2 hbad hbad'
      go_wp2_with fail
      go_ret
      rw [HH.out.1, HH.out.2]
      exact ⟨rfl, HF.out⟩
    · obtain ⟨h1, h2⟩ := HS1.out hbad' (by omega)
      have HH := Lib.hid (And.intro h1 h2)
      have hm' : decide (m < (n : Int)) = false := decide_eq_false hm
      clear h1 h2 hbad hbad'
      go_wp2_with fail
      go_ret
      rw [HH.out.1, HH.out.2]
      exact ⟨rfl, HR2.out⟩
set_option maxRecDepth 100000 in
theorem rleft_rst (w : World) (g : Nat) {B : Nat} (xs : List UInt8) (st : Option Nat) (h : RfR w g B xs st) :
    Calls Tryz.prog 29 #[.pointer (some ⟨g, 0, none⟩)] w fun e w' => e = .returned (.int .i64 (leftV xs st)) ∧ w = w' := by
  have c1 := h.cell1
  cases st with
  | none =>
    clear h
    go_enter Tryz.func29, Tryz.ntmps29
    go_wp2
    go_ret
    exact ⟨rfl, rfl⟩
  | some a =>
    obtain ⟨ha, v, hl, hb, _⟩ := h
    obtain ⟨A, c, rfl⟩ := hb.form
    have c0 : w.cell? ⟨g, 0, none⟩ = some (.slice A (xs.drop a).length c) := hl.cell 0 rfl
    rw [List.length_drop] at c0
    clear hl hb
    go_enter Tryz.func29, Tryz.ntmps29
    go_wp2
    go_ret
    exact ⟨rfl, rfl⟩
set_option maxRecDepth 100000 in
theorem rerr_rst (w : World) (g : Nat) {B : Nat} (xs : List UInt8) (st : Option Nat) (h : RfR w g B xs st) :
    Calls Tryz.prog 31 #[.pointer (some ⟨g, 0, none⟩)] w fun e w' => e = .returned (.int .i64 (errV st)) ∧ w = w' := by
  have c1 := h.cell1
  clear h
  cases st with
  | none =>
    go_enter Tryz.func31, Tryz.ntmps31
    go_wp2
    go_ret
    exact ⟨rfl, rfl⟩
  | some a =>
    go_enter Tryz.func31, Tryz.ntmps31
    go_wp2
    go_ret
    exact ⟨rfl, rfl⟩
end Go.Proofs.YtilbbemdinpjcaaGreat.W
namespace Go.Proofs.YtilbbemdinpjcaaGreat.W
open Go.RowKit

theorem beVal_one (ys : List UInt8) (h : 0 < ys.length) : beVal (ys.take 1) = (ys.getD 0 0).toNat := by
  match ys, h with
  | y :: l, _ => simp [beVal]
set_option maxRecDepth 100000 in
theorem rflag_rst (w : World) (g : Nat) {B : Nat} (xs : List UInt8) (st : Option Nat) (h : RfR w g B xs st) (hx : xs.length ≤ 2000000) :
    Calls Tryz.prog 172 #[.pointer (some ⟨g, 0, none⟩)] w fun e w' => e = .returned (.bool (flagV xs st)) ∧ RfR w' g B xs (flagS xs st) ∧ Only g w w' none := by
  have c1 := h.cell1
  have f1 := h.free 1
  have HBAD := Lib.hid (And.intro h.bad (only_set g 1 w (.bool true)))
  cases st with
  | none =>
    clear h
    go_enter Tryz.func172, Tryz.ntmps172
    go_wp2_with fail
    go_ret
    exact ⟨rfl, HBAD.out⟩
  | some a =>
    have HN := Lib.hid (r58_st w g xs (some a) h hx)
    obtain ⟨ha, v, hl, hb, _⟩ := h
    have hlen : (xs.drop a).length = xs.length - a := List.length_drop
    by_cases h0 : a = xs.length
    · have hok : ¬ FlagOk xs a := fun t => by have := t.1; omega
      have h1 : flagV xs (some a) = false := by simp only [flagV, if_neg hok]
      have h2 : flagS xs (some a) = none := by simp only [flagS, if_neg hok]
      rw [h1, h2]
      obtain ⟨A, c, rfl⟩ := hb.form
      have c0 : w.cell? ⟨g, 0, none⟩ = some (.slice A (xs.drop a).length c) := hl.cell 0 rfl
      have hz : (xs.drop a).length = 0 := by omega
      rw [hz] at c0
      clear hl hb hlen hz h1 h2 hok HN h0
      go_enter Tryz.func172, Tryz.ntmps172
      go_wp2_with fail
      go_ret
      exact ⟨rfl, HBAD.out⟩
    · obtain ⟨b, o, c, rfl, hs⟩ := hb.cell (by omega)
      have c0 : w.cell? ⟨g, 0, none⟩ = some (.slice (some ⟨b, o, none⟩) (xs.drop a).length c) := hl.cell 0 rfl
      have cb := hs 0 (by omega)
      rw [Nat.add_zero] at cb
      have hv := beVal_one (xs.drop a) (by omega)
      have hn1 : a + 1 ≤ xs.length := by omega
      have e1 : numV xs (some a) 1 = beVal ((xs.drop a).take 1) := by simp only [numV, if_pos hn1]
      have e2 : numS xs (some a) 1 = some (a + 1) := by simp only [numS, if_pos hn1]
      rw [e1, e2, hv] at HN
      have hby := ((xs.drop a).getD 0 0).toNat_lt
      have hpos : ((((xs.drop a).length : Nat) : Int) == 0) = false := by simp; omega
      have hpos2 : (0 : Int) < ((xs.drop a).length : Int) := by omega
      have hpos3 : 0 < (xs.drop a).length := by omega
      by_cases hok : FlagOk xs a
      · have h1 : flagV xs (some a) = decide (((xs.drop a).getD 0 0).toNat = 1) := by simp only [flagV, if_pos hok, hv]
        have h2 : flagS xs (some a) = some (a + 1) := by simp only [flagS, if_pos hok]
        have hle := hok.2
        rw [hv] at hle
        rw [h1, h2]
        generalize (xs.drop a).length = L at c0 hpos hpos2 hpos3
        generalize (xs.drop a).getD 0 0 = x at cb HN hby hle ⊢
        generalize x.toNat = y at cb HN hby hle ⊢
        have d1 : ¬ (1 : Int) < (y : Int) := by omega
        have hfin : ((y : Int) == 1) = decide (y = 1) := by
          by_cases hy1 : y = 1
          · subst hy1; rfl
          · simp [hy1]; omega
        have HFIN := Lib.hid hfin
        clear hl hb hlen h1 h2 hok e1 e2 hs hv hfin hby hle
        go_enter Tryz.func172, Tryz.ntmps172
        go_wp2_with fail
        refine HN.out.mono ?_
        rintro e w1 ⟨rfl, hr⟩
        have HR := Lib.hid hr
        clear hr
        go_wp2_with fail
        go_ret
        exact ⟨congrArg (fun z => Ending.returned (.bool z)) HFIN.out, HR.out⟩
      · have h1 : flagV xs (some a) = false := by simp only [flagV, if_neg hok]
        have h2 : flagS xs (some a) = none := by simp only [flagS, if_neg hok]
        have hgt : 1 < ((xs.drop a).getD 0 0).toNat := by
          apply Decidable.byContradiction
          intro hc
          exact hok ⟨hn1, by rw [hv]; omega⟩
        rw [h1, h2]
        generalize (xs.drop a).length = L at c0 hpos hpos2 hpos3
        generalize (xs.drop a).getD 0 0 = x at cb HN hby hgt
        generalize x.toNat = y at cb HN hby hgt
        have d1 : (1 : Int) < (y : Int) := by omega
        clear hl hb hlen h1 h2 hok e1 e2 hs hv HN hgt
        go_enter Tryz.func172, Tryz.ntmps172
        go_wp2_with fail
        go_ret
        exact ⟨rfl, HBAD.out⟩
theorem hashV_raw (xs : List UInt8) (st : Option Nat) (h : ∀ a, st = some a → a ≤ xs.length) : hashV xs st = rawV xs st (32 : Nat) ++ (List.replicate 32 (0 : UInt8)).drop (rawV xs st (32 : Nat)).length ∧ numS xs st 32 = rawS xs st (32 : Nat) ∧ (rawV xs st (32 : Nat)).length ≤ 32 := by
  refine ⟨?_, (rawV_num xs st 32 h).1, rawV_len xs st 32⟩
  cases st with
  | none => rfl
  | some a =>
    have ha := h a rfl
    by_cases hn : a + 32 ≤ xs.length
    · have hr : RawOk xs a (32 : Nat) := by unfold RawOk; omega
      have hl : ((xs.drop a).take 32).length = 32 := by rw [List.length_take, List.length_drop]; omega
      simp only [hashV, rawV, if_pos hn, if_pos hr, Int.toNat_natCast, hl]
      simp
    · have hr : ¬ RawOk xs a (32 : Nat) := by unfold RawOk; omega
      simp only [hashV, rawV, if_neg hn, if_neg hr]
      rfl
/-- The hash while it is laid: t bytes of ys, then noughts. -/
def part (ys : List UInt8) (t : Nat) : List UInt8 := ys.take t ++ (List.replicate 32 0).drop t
theorem part_len (ys : List UInt8) (t : Nat) (h : t ≤ ys.length) (h2 : t ≤ 32) : (part ys t).length = 32 := by
  unfold part
  rw [List.length_append, List.length_take, List.length_drop, List.length_replicate]
  omega
theorem part_next (ys : List UInt8) (t : Nat) (h : t < ys.length) (h2 : ys.length ≤ 32) : (part ys t).set t (ys.getD t 0) = part ys (t + 1) := by
  unfold part
  have h1 : (ys.take t).length = t := by rw [List.length_take]; omega
  rw [List.set_append, if_neg (by omega), h1, Nat.sub_self, List.take_succ_eq_append_getElem h]
  have h3 : (List.replicate 32 (0 : UInt8)).drop t = 0 :: (List.replicate 32 (0 : UInt8)).drop (t + 1) := by
    rw [List.drop_eq_getElem_cons (by rw [List.length_replicate]; omega), List.getElem_replicate]
  rw [h3, List.set_cons_zero, List.append_assoc]
  simp [List.getD_eq_getElem?_getD, h]
theorem RfR.grown {w w' : World} {g B : Nat} {xs : List UInt8} {st : Option Nat} {k : Nat} (h : RfR w g B xs st) (hg : w.grownBy w' (some k)) (hk : g < k) : RfR w' g B xs st := by
  have hlt := h.lt
  have hkeep : ∀ cs t, Lies w g cs t → Lies w' g cs t := fun cs t hl => hl.grown hg (by omega)
  cases st with
  | none => obtain ⟨A, n, c, h1⟩ := h; exact ⟨A, n, c, hkeep _ _ h1⟩
  | some a =>
    obtain ⟨ha, v, h1, h2, h3⟩ := h
    exact ⟨ha, v, hkeep _ _ h1, h2.grown hg (fun ad n c e hne e2 => by have := h3 ad n c e hne; have := Option.some.inj e2; omega), h3⟩
/-- What stands while the hash is laid. -/
structure HashI (w : World) (g B : Nat) (xs : List UInt8) (st : Option Nat) (v : Value) (ys : List UInt8) (t : Nat) (W : World) : Prop where
  h : Lies W (w.heap.size + 1) (B8 (part ys t)) 30
  z : Lies W w.heap.size z32 30
  r : RfR W g B xs st
  o : Only g w W none
  b : Bs W v ys
  off : ∀ ad n c, v = .slice (some ad) n c → ys ≠ [] → ad.block < w.heap.size
theorem HashI.next {w : World} {g B : Nat} {xs : List UInt8} {st : Option Nat} {v : Value} {ys : List UInt8} {t : Nat} {W : World} (h : HashI w g B xs st v ys t W) (hg : g < w.heap.size) (ht : t < ys.length) (h2 : ys.length ≤ 32) :
    HashI w g B xs st v ys (t + 1) (W.setCell ⟨w.heap.size + 1, t, none⟩ (.int .u8 (ys.getD t 0).toNat)) := by
  have hgr : W.grownBy (W.setCell ⟨w.heap.size + 1, t, none⟩ (.int .u8 (ys.getD t 0).toNat)) (some (w.heap.size + 1)) := grown_set (grown_refl W _) t _
  refine ⟨?_, h.z.grown hgr (by omega), h.r.grown hgr (by omega), ?_, h.b.grown hgr (fun ad n c e hne e2 => by have := h.off ad n c e hne; have := Option.some.inj e2; omega), h.off⟩
  · have := h.h.set t (.int .u8 (ys.getD t 0).toNat)
    rwa [B8_set, part_next ys t ht h2] at this
  · exact ⟨h.o.os, h.o.tape, h.o.output, by rw [size_set]; exact h.o.size, fun k hk h1 h3 => (heap_setCell_other W _ k _ (by show k ≠ w.heap.size + 1; omega)).trans (h.o.block k hk h1 h3)⟩
set_option maxRecDepth 100000 in
set_option maxHeartbeats 1000000 in
theorem rhash_rst (w : World) (g : Nat) {B : Nat} (xs : List UInt8) (st : Option Nat) (h : RfR w g B xs st) (hx : xs.length ≤ 2000000) :
    Calls Tryz.prog 171 #[.pointer (some ⟨g, 0, none⟩)] w fun e w' => e = .returned (.agg (B8 (hashV xs st))) ∧ RfR w' g B xs (numS xs st 32) ∧ Only g w w' none := by
  obtain ⟨e1, e2, e3⟩ := hashV_raw xs st h.le
  rw [e1, e2]
  have hb2 : Below w.heap.size w ((w.alloc (.cells z32 30)).alloc (.cells z32 30)) := ((Below.refl _ _).alloc (Nat.le_refl _) _).alloc (by simp) _
  have hz1 : Lies ((w.alloc (.cells z32 30)).alloc (.cells z32 30)) w.heap.size z32 30 := (Lies.new w z32 30).alloc _
  have hz2 : Lies ((w.alloc (.cells z32 30)).alloc (.cells z32 30)) (w.heap.size + 1) z32 30 := by
    have := Lies.new (w.alloc (.cells z32 30)) z32 30
    simpa using this
  have hgl := h.lt
  have HT := Lib.hid (take_st _ g xs st (32 : Nat) (h.below hb2) hx)
  have HZ := Lib.hid (And.intro hb2 (And.intro hz1 hz2))
  obtain ⟨ys, hys⟩ : ∃ ys, rawV xs st (32 : Nat) = ys := ⟨_, rfl⟩
  rw [hys] at e3 ⊢
  have HY := Lib.hid hys
  rw [show ys ++ (List.replicate 32 (0 : UInt8)).drop ys.length = part ys ys.length by simp [part]]
  clear e1 e2 h hb2 hz1 hz2 hys
  go_enter Tryz.func171, Tryz.ntmps171
  go_wp2_with fail
  refine HT.out.mono ?_
  rintro e w1 ⟨⟨v, rfl, hb, hof⟩, hr, ho⟩
  rw [HY.out] at hb hof
  have hB := hb
  obtain ⟨A, c, rfl⟩ := hB.form
  have hI : HashI w g B xs (rawS xs st (32 : Nat)) (.slice A ys.length c) ys 0 w1 := by
    refine ⟨?_, ho.lies HZ.out.2.1 (by omega), hr, (only_below HZ.out.1).trans0 ho, hb, ?_⟩
    · have e : part ys 0 = List.replicate 32 0 := by simp [part]
      rw [e]
      exact ho.lies HZ.out.2.2 (by omega)
    · exact fun ad n c' e hne => by have := hof ad n c' e hne; omega
  have HI := Lib.hid hI
  clear hB hb hr ho HT hI hof
  go_wp2_with fail
  go_loopw [5] (fun i W => ∃ t : Nat, t ≤ ys.length ∧ i = .int .i64 t ∧ HashI w g B xs (rawS xs st (32 : Nat)) (.slice A ys.length c) ys t W) (fun i _ => ys.length - (intOf i).toNat)
  case atStart => exact ⟨0, by omega, rfl, HI.out⟩
  case round =>
    obtain ⟨t, ht, rfl, hi⟩ := hrel
    have HW := Lib.hid hi
    have hh := hi.h
    by_cases hlt : t < ys.length
    · obtain ⟨b, o, c', hA, hsrc⟩ := hi.b.cell (by omega)
      cases hA
      have hc := hsrc t hlt
      have hcell := hh.cell t (B8_get (part ys t) t (by rw [part_len ys t ht (by omega)]; omega))
      have hfree := hh.free t
      have i2 : (t : Int) < (ys.length : Int) := by omega
      have i4 : (0 : Int) ≤ (t : Int) := by omega
      have i7 : (t : Int) ≤ 31 := by omega
      have i8 : (t : Int) < 32 := by omega
      have HN := Lib.hid (hi.next hgl hlt e3)
      clear hi hh hsrc HI
      generalize ys.getD t 0 = y at hc HN
      generalize (part ys t).getD t 0 = y0 at hcell
      go_wp2_with fail
      refine ⟨⟨t + 1, by omega, by go_num, HN.out⟩, ?_⟩
      simp [intOf]; omega
    · obtain rfl : t = ys.length := by omega
      have hplen := part_len ys ys.length (Nat.le_refl _) e3
      have HZZ := Lib.hid hi.z
      have HH := Lib.hid hh
      have hi8 := b8_info (part ys ys.length) hplen
      have hfin : RfR (wr.setRow w.heap.size (B8 (part ys ys.length))) g B xs (rawS xs st (32 : Nat)) ∧ Only g w (wr.setRow w.heap.size (B8 (part ys ys.length))) none :=
        ⟨hi.r.grown (k := w.heap.size) ⟨rfl, rfl, rfl, by simp, fun k _ hne => setRow_other wr _ k _ (fun e => hne (by rw [e]))⟩ hgl, only_row hi.o (Nat.le_refl _) _⟩
      have HF := Lib.hid hfin
      have HP := Lib.hid hplen
      clear hi hh HI hfin hplen
      obtain ⟨zs, hzs⟩ : ∃ zs, part ys ys.length = zs := ⟨_, rfl⟩
      rw [hzs] at HH HF HP hi8
      have HZS := Lib.hid hzs
      clear hzs
      go_wp2_with (first
        | (refine wpList_load_row rfl 30 _ rfl (w.heap.size + 1) rfl 30 (B8 zs) (0, 0) _ HH.out Tryz.underlying30 rfl hi8 ?_)
        | (refine wpList_store_row rfl 30 _ _ rfl w.heap.size (B8 zs) rfl rfl 30 z32 HZZ.out hi8 (by rw [B8_size, HP.out]; rfl) (B8_one _) ?_))
      exact bodyPost_ret (v := .agg (B8 zs)) (results_cell_row (p := 2) (ty := 30) (by kernel_rfl) _ _ w.heap.size 30 (B8 zs) (0, 0) _ rfl (HZZ.out.setRow _) Tryz.underlying30 rfl hi8) rfl ⟨by rw [HZS.out], HF.out⟩
end Go.Proofs.YtilbbemdinpjcaaGreat.W
