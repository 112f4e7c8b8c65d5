/-
  What is told by an ask, put by the same call: the bytes that were read. Plain mathematics.
  again: an ask's answer put by the same call: each case's walk.
  WireOne: its walk.
-/
import Derived.Test.YtjbjagdpemnhiaaMet
import Derived.Test.YtjbjagdpemnhiaaTwo
import Derived.Test.YtjbjagdpemnhiaaReads
import Derived.Test.YtjbjagdpemnhiaaByt2
namespace Go.Proofs.Ytjbjagdpemnhiaa
open Go.RowKit

theorem beVal_inj : ∀ (n : Nat) (l m : List UInt8), l.length = n → m.length = n → beVal l = beVal m → l = m
  | 0, l, m, hl, hm, _ => by rw [List.eq_nil_of_length_eq_zero hl, List.eq_nil_of_length_eq_zero hm]
  | n + 1, l, m, hl, hm, h => by
    have h1 : l ≠ [] := fun e => by rw [e] at hl; cases hl
    have h2 : m ≠ [] := fun e => by rw [e] at hm; cases hm
    have e1 := List.dropLast_concat_getLast h1
    have e2 := List.dropLast_concat_getLast h2
    rw [← e1, ← e2, beVal_snoc, beVal_snoc] at h
    have b1 := (l.getLast h1).toNat_lt
    have b2 := (m.getLast h2).toNat_lt
    have i1 := beVal_inj n l.dropLast m.dropLast (by rw [List.length_dropLast]; omega) (by rw [List.length_dropLast]; omega) (by omega)
    have i2 : l.getLast h1 = m.getLast h2 := UInt8.toNat_inj.1 (by omega)
    rw [← e1, ← e2, i1, i2]
theorem fit_of {n s : Nat} (h : n < 256 ^ s) : n / 2 ^ (8 * s) = 0 := by
  refine Nat.div_eq_of_lt ?_
  rw [Nat.pow_mul]
  exact h
theorem beN_beVal (e : List UInt8) (s : Nat) (h : e.length = s) : beN (beVal e) s = e := by
  subst h
  exact beVal_inj e.length _ _ (beN_length _ _) rfl (beVal_beN _ _ (fit_of (beVal_lt e)))
theorem cut_length {xs : List UInt8} {a s : Nat} (h : a + s ≤ xs.length) : ((xs.drop a).take s).length = s := by
  rw [List.length_take, List.length_drop]; omega
theorem numV_pow (xs : List UInt8) (st : Option Nat) (s : Nat) : numV xs st s < 256 ^ s := by
  have h0 : 0 < 256 ^ s := Nat.pow_pos (by omega)
  unfold numV
  split
  · split
    · exact beVal_take xs _ s
    · exact h0
  · exact h0
theorem numV_fits (xs : List UInt8) (st : Option Nat) (s : Nat) (hs : s ≤ 8) : numV xs st s < 18446744073709551616 :=
  Nat.lt_of_lt_of_le (numV_pow xs st s) (Nat.le_trans (Nat.pow_le_pow_right (by omega) hs) (by decide))
theorem countV_fits (xs : List UInt8) (st : Option Nat) (m : Int) : countV xs st m < 18446744073709551616 := by
  unfold countV
  split
  · split
    · have := beVal_take xs (by assumption) 2
      omega
    · omega
  · omega
theorem step_cut {xs : List UInt8} {a s : Nat} (h : a + s ≤ xs.length) : stepN (some (xs.take a)) (beVal ((xs.drop a).take s)) s = some (xs.take (a + s)) := by
  simp only [stepN, Option.bind_some, if_pos (fit_of (beVal_take xs a s)), beN_beVal _ s (cut_length h), List.take_add]
theorem num_sync {xs : List UInt8} {a s b : Nat} (h : numS xs (some a) s = some b) : a ≤ b ∧ stepN (some (xs.take a)) (numV xs (some a) s) s = some (xs.take b) := by
  by_cases hn : a + s ≤ xs.length
  · simp only [numS, if_pos hn, Option.some.injEq] at h
    subst h
    simp only [numV, if_pos hn, step_cut hn]
    exact ⟨by omega, trivial⟩
  · simp only [numS, if_neg hn] at h
    cases h
theorem hash_sync {xs : List UInt8} {a b : Nat} (h : numS xs (some a) 32 = some b) : a ≤ b ∧ stepB (some (xs.take a)) (hashV xs (some a)) = some (xs.take b) := by
  by_cases hn : a + 32 ≤ xs.length
  · simp only [numS, if_pos hn, Option.some.injEq] at h
    subst h
    simp only [hashV, if_pos hn, stepB, Option.map_some, List.take_add]
    exact ⟨by omega, trivial⟩
  · simp only [numS, if_neg hn] at h
    cases h
theorem raw_sync {xs : List UInt8} {a b : Nat} {n : Int} (h : rawS xs (some a) n = some b) : a ≤ b ∧ stepB (some (xs.take a)) (rawV xs (some a) n) = some (xs.take b) := by
  by_cases hn : RawOk xs a n
  · simp only [rawS, if_pos hn, Option.some.injEq] at h
    subst h
    simp only [rawV, if_pos hn, stepB, Option.map_some, List.take_add]
    exact ⟨by omega, trivial⟩
  · simp only [rawS, if_neg hn] at h
    cases h
theorem text_sync {xs : List UInt8} {a b : Nat} {m : Int} (h : textS xs (some a) m = some b) : a ≤ b ∧ stepText (some (xs.take a)) ⟨(textV xs (some a) m).toArray⟩ = some (xs.take b) := by
  by_cases hn : TextOk xs a m
  · simp only [textS, if_pos hn, Option.some.injEq] at h
    subst h
    have hl2 : ((xs.drop a).take 2).length = 2 := cut_length hn.1
    have hlt := beVal_take xs a 2
    have hb2 := beN_beVal _ 2 hl2
    have h3 := hn.2.2
    simp only [textV, if_pos hn]
    generalize beVal ((xs.drop a).take 2) = t at hlt hb2 h3
    have hlt2 : t < 65536 := by omega
    have hl : ((xs.drop (a + 2)).take t).length = t := cut_length h3
    have hsz : (ByteArray.mk ((xs.drop (a + 2)).take t).toArray).size = t := by
      show ((xs.drop (a + 2)).take t).toArray.size = t
      rw [List.size_toArray, hl]
    unfold stepText
    rw [hsz, if_pos hlt2, hb2]
    simp only [stepB, Option.map_some]
    rw [← List.append_assoc, ← List.take_add, ← List.take_add]
    exact ⟨by omega, rfl⟩
  · simp only [textS, if_neg hn] at h
    cases h
theorem flag_sync {xs : List UInt8} {a b : Nat} (h : flagS xs (some a) = some b) : a ≤ b ∧ stepB (some (xs.take a)) [if flagV xs (some a) then 1 else 0] = some (xs.take b) := by
  by_cases hn : FlagOk xs a
  · simp only [flagS, if_pos hn, Option.some.injEq] at h
    subst h
    have hb := beN_beVal _ 1 (cut_length hn.1)
    have h1 := hn.2
    simp only [flagV, if_pos hn]
    generalize beVal ((xs.drop a).take 1) = t at hb h1
    have ht : [if decide (t = 1) = true then (1 : UInt8) else 0] = (xs.drop a).take 1 := by
      rw [← hb]
      obtain rfl | rfl : t = 0 ∨ t = 1 := by omega
      · rfl
      · rfl
    rw [ht]
    simp only [stepB, Option.map_some, List.take_add]
    exact ⟨by omega, trivial⟩
  · simp only [flagS, if_neg hn] at h
    cases h
theorem count_sync {xs : List UInt8} {a b : Nat} {m : Int} (h : countS xs (some a) m = some b) : a ≤ b ∧ stepN (some (xs.take a)) (countV xs (some a) m) 2 = some (xs.take b) := by
  by_cases hn : CountOk xs a m
  · simp only [countS, if_pos hn, Option.some.injEq] at h
    subst h
    simp only [countV, if_pos hn, step_cut hn.1]
    exact ⟨by omega, trivial⟩
  · simp only [countS, if_neg hn] at h
    cases h
theorem rawV_most (xs : List UInt8) (st : Option Nat) (n : Int) : (rawV xs st n).length ≤ xs.length := by
  unfold rawV
  split
  · split
    · rw [List.length_take, List.length_drop]; omega
    · simp
  · simp
theorem textV_le (xs : List UInt8) (st : Option Nat) (n : Int) : (textV xs st n).length ≤ xs.length := by
  unfold textV
  split
  · split
    · rw [List.length_take, List.length_drop]; omega
    · simp
  · simp
/-- What may have turned hits neither the reader nor its bytes. -/
theorem RSt.onlyO {w w' : World} {g k g' : Nat} {xs : List UInt8} {c : Nat} {st : Option Nat} {o : Option Nat} (h : RSt w g k xs c st) (ho : Only g' w w' o) (h1 : g ≠ g') (h2 : k ≠ g') (h3 : o ≠ some g) (h4 : o ≠ some k) : RSt w' g k xs c st := by
  have key : ∀ a sp, Rdr w g k xs c a sp → Rdr w' g k xs c a sp := fun a sp h =>
    ⟨ho.keep h.1 h1 h3, fun j hj => Eq.trans (World.cell?_of_block (ho.block k h.2.2.2.1 h2 (fun e => h4 e.symm))) (h.2.1 j hj), h.2.2.1, Nat.lt_of_lt_of_le h.2.2.2.1 ho.size, h.2.2.2.2⟩
  cases st with
  | none => obtain ⟨a, h⟩ := h; exact ⟨a, key _ _ h⟩
  | some a => exact ⟨h.1, key _ _ h.2⟩
/-- A reader and, newer than it, a writer. -/
structure Rw (w0 : World) (g k gw : Nat) (xs : List UInt8) (c : Nat) (v : Value) (st : Option Nat) (sw : Option (List UInt8)) (W : World) : Prop where
  r : RSt W g k xs c st
  p : WSt W gw gw v sw
  own : ∀ x, v.ownBlock = some x → gw ≤ x ∧ x < W.heap.size
  bel : Below w0.heap.size w0 W
  lg : w0.heap.size ≤ g
  gg : g < gw
  kg : k < gw
theorem Rw.size {w0 : World} {g k gw : Nat} {xs : List UInt8} {c : Nat} {v : Value} {st : Option Nat} {sw : Option (List UInt8)} {W : World} (h : Rw w0 g k gw xs c v st sw W) : gw ≤ W.heap.size := by
  have := h.p.lies; omega
theorem Rw.below {w0 : World} {g k gw : Nat} {xs : List UInt8} {c : Nat} {v : Value} {st : Option Nat} {sw : Option (List UInt8)} {W W' : World} (h : Rw w0 g k gw xs c v st sw W) (hb : Below W.heap.size W W') : Rw w0 g k gw xs c v st sw W' :=
  ⟨h.r.below hb, h.p.below hb, fun x hx => ⟨(h.own x hx).1, Nat.lt_of_lt_of_le (h.own x hx).2 hb.size⟩, h.bel.trans (hb.mono h.bel.size), h.lg, h.gg, h.kg⟩
theorem Rw.ask {w0 : World} {g k gw : Nat} {xs : List UInt8} {c : Nat} {v : Value} {st st' : Option Nat} {sw : Option (List UInt8)} {W W' : World} (h : Rw w0 g k gw xs c v st sw W) (hr : RSt W' g k xs c st') (ho : Only g W W' none) : Rw w0 g k gw xs c v st' sw W' :=
  ⟨hr, h.p.only ho (by have := h.gg; omega) (by simp) (fun e => by have := (h.own _ e).1; have := h.gg; omega) (by simp), fun x hx => ⟨(h.own x hx).1, Nat.lt_of_lt_of_le (h.own x hx).2 ho.size⟩, ho.below h.bel h.lg (by simp), h.lg, h.gg, h.kg⟩
theorem Rw.put {w0 : World} {g k gw : Nat} {xs : List UInt8} {c : Nat} {v : Value} {st : Option Nat} {sw sw' : Option (List UInt8)} {W W' : World} (h : Rw w0 g k gw xs c v st sw W) (hm : MoreO W gw gw v sw' W') : ∃ v', Rw w0 g k gw xs c v' st sw' W' := by
  obtain ⟨v', h1, h2, h3⟩ := hm
  have hgg := h.gg
  have hkg := h.kg
  refine ⟨v', h.r.onlyO h2 (by omega) (by omega) (fun e => by have := (h.own _ e).1; omega) (fun e => by have := (h.own _ e).1; omega), h1, fun x hx => ?_, h2.below h.bel (by have := h.lg; omega) (fun x hx => by have := (h.own x hx).1; have := h.lg; omega), h.lg, h.gg, h.kg⟩
  rcases h3 with h3 | ⟨k2, h3, h4, h5⟩
  · have := h.own x (h3 ▸ hx)
    have := h2.size
    omega
  · rw [h3] at hx
    have := Option.some.inj hx
    have := h.size
    omega
end Go.Proofs.Ytjbjagdpemnhiaa
namespace Go.Proofs.Ytjbjagdpemnhiaa
open Go.RowKit

/-- Behind again, called at the place a: the reader is spoilt, or stands at b, and the writer holds the bytes up to there. -/
def Again (w0 : World) (g k gw : Nat) (xs : List UInt8) (c a : Nat) (W : World) : Prop :=
  ∃ v st sw, Rw w0 g k gw xs c v st sw W ∧ ∀ b, st = some b → a ≤ b ∧ sw = some (xs.take b)
theorem take_le {xs l : List UInt8} {a : Nat} (h : some (xs.take a) = some l) : l.length ≤ xs.length := by
  cases h
  rw [List.length_take]
  omega
theorem to_nat (m : Nat) (h : m < 18446744073709551616) : (m : Int) = (m : Int) % 18446744073709551616 := by omega
set_option maxRecDepth 100000 in
set_option maxHeartbeats 2000000 in
theorem again_0 (w0 w : World) (g k gw : Nat) (xs : List UInt8) (c a : Nat) (v : Value) (cs : Array Value) (n0 n1 : Int) (n2 : Nat) (hs : List UInt8) (bv : Value) (s : ByteArray) (hV : PutV cs n0 n1 n2 hs bv s) (hd : n0 % 10 = 0) (h : Rw w0 g k gw xs c v (some a) (some (xs.take a)) w) (hx : xs.length ≤ 300) :
    Calls Try.prog 24 #[.pointer (some ⟨g, 0, none⟩), .pointer (some ⟨gw, 0, none⟩), .agg cs] w fun e w' => e = .returned (.tuple #[]) ∧ Again w0 g k gw xs c a w' := by
  have hb : Below w.heap.size w (w.alloc (.cells cs 35)) := (Below.refl _ _).alloc (Nat.le_refl _) _
  have hl := Lies.new w cs 35
  have c0 := hl.cell 0 hV.what
  have c1 := hl.cell 1 hV.num
  have hpk := pick_any n0 (w.alloc (.cells cs 35))
  rw [hd] at hpk
  have hh := h.below hb
  have HC := Lib.hid (ask25_st _ g k xs c (some a) hh.r)
  have HP := Lib.hid hpk
  have HH := Lib.hid hh
  have HX := Lib.hid hx
  clear hpk hb hh hl hd h hx hV
  go_enter Try.func24, Try.ntmps24
  go_wp2_with fail
  refine HP.out.mono ?_
  rintro e w1 ⟨rfl, rfl⟩
  go_wp2_with fail
  refine HC.out.mono ?_
  rintro e w2 ⟨rfl, hr2, ho2⟩
  have h2 := HH.out.ask hr2 ho2
  have hp := u8_st w2 gw gw v (some (xs.take a)) (numV xs (some a) 1 : Nat) (numV xs (some a) 1) h2.p h2.size (fun l e => by have := take_le e; have := HX.out; omega) (to_nat _ (numV_fits _ _ _ (by omega)))
  have H2 := Lib.hid h2
  have HPU := Lib.hid hp
  clear hr2 ho2 h2 hp
  go_wp2_with fail
  refine HPU.out.mono ?_
  rintro e w3 ⟨rfl, hm⟩
  obtain ⟨v3, h3⟩ := H2.out.put hm
  have H3 := Lib.hid h3
  clear hm h3 HPU H2 HC HH
  go_wp2_with fail
  go_end0
  exact ⟨rfl, v3, _, _, H3.out, fun b hb => num_sync hb⟩
set_option maxRecDepth 100000 in
set_option maxHeartbeats 2000000 in
theorem again_1 (w0 w : World) (g k gw : Nat) (xs : List UInt8) (c a : Nat) (v : Value) (cs : Array Value) (n0 n1 : Int) (n2 : Nat) (hs : List UInt8) (bv : Value) (s : ByteArray) (hV : PutV cs n0 n1 n2 hs bv s) (hd : n0 % 10 = 1) (h : Rw w0 g k gw xs c v (some a) (some (xs.take a)) w) (hx : xs.length ≤ 300) :
    Calls Try.prog 24 #[.pointer (some ⟨g, 0, none⟩), .pointer (some ⟨gw, 0, none⟩), .agg cs] w fun e w' => e = .returned (.tuple #[]) ∧ Again w0 g k gw xs c a w' := by
  have hb : Below w.heap.size w (w.alloc (.cells cs 35)) := (Below.refl _ _).alloc (Nat.le_refl _) _
  have hl := Lies.new w cs 35
  have c0 := hl.cell 0 hV.what
  have c1 := hl.cell 1 hV.num
  have hpk := pick_any n0 (w.alloc (.cells cs 35))
  rw [hd] at hpk
  have hh := h.below hb
  have HC := Lib.hid (ask53_st _ g k xs c (some a) hh.r)
  have HP := Lib.hid hpk
  have HH := Lib.hid hh
  have HX := Lib.hid hx
  clear hpk hb hh hl hd h hx hV
  go_enter Try.func24, Try.ntmps24
  go_wp2_with fail
  refine HP.out.mono ?_
  rintro e w1 ⟨rfl, rfl⟩
  go_wp2_with fail
  refine HC.out.mono ?_
  rintro e w2 ⟨rfl, hr2, ho2⟩
  have h2 := HH.out.ask hr2 ho2
  have hp := u16_st w2 gw gw v (some (xs.take a)) (numV xs (some a) 2 : Nat) (numV xs (some a) 2) h2.p h2.size (fun l e => by have := take_le e; have := HX.out; omega) (to_nat _ (numV_fits _ _ _ (by omega)))
  have H2 := Lib.hid h2
  have HPU := Lib.hid hp
  clear hr2 ho2 h2 hp
  go_wp2_with fail
  refine HPU.out.mono ?_
  rintro e w3 ⟨rfl, hm⟩
  obtain ⟨v3, h3⟩ := H2.out.put hm
  have H3 := Lib.hid h3
  clear hm h3 HPU H2 HC HH
  go_wp2_with fail
  go_end0
  exact ⟨rfl, v3, _, _, H3.out, fun b hb => num_sync hb⟩
set_option maxRecDepth 100000 in
set_option maxHeartbeats 2000000 in
theorem again_2 (w0 w : World) (g k gw : Nat) (xs : List UInt8) (c a : Nat) (v : Value) (cs : Array Value) (n0 n1 : Int) (n2 : Nat) (hs : List UInt8) (bv : Value) (s : ByteArray) (hV : PutV cs n0 n1 n2 hs bv s) (hd : n0 % 10 = 2) (h : Rw w0 g k gw xs c v (some a) (some (xs.take a)) w) (hx : xs.length ≤ 300) :
    Calls Try.prog 24 #[.pointer (some ⟨g, 0, none⟩), .pointer (some ⟨gw, 0, none⟩), .agg cs] w fun e w' => e = .returned (.tuple #[]) ∧ Again w0 g k gw xs c a w' := by
  have hb : Below w.heap.size w (w.alloc (.cells cs 35)) := (Below.refl _ _).alloc (Nat.le_refl _) _
  have hl := Lies.new w cs 35
  have c0 := hl.cell 0 hV.what
  have c1 := hl.cell 1 hV.num
  have hpk := pick_any n0 (w.alloc (.cells cs 35))
  rw [hd] at hpk
  have hh := h.below hb
  have HC := Lib.hid (ask54_st _ g k xs c (some a) hh.r)
  have HP := Lib.hid hpk
  have HH := Lib.hid hh
  have HX := Lib.hid hx
  clear hpk hb hh hl hd h hx hV
  go_enter Try.func24, Try.ntmps24
  go_wp2_with fail
  refine HP.out.mono ?_
  rintro e w1 ⟨rfl, rfl⟩
  go_wp2_with fail
  refine HC.out.mono ?_
  rintro e w2 ⟨rfl, hr2, ho2⟩
  have h2 := HH.out.ask hr2 ho2
  have hp := u32_st w2 gw gw v (some (xs.take a)) (numV xs (some a) 4 : Nat) (numV xs (some a) 4) h2.p h2.size (fun l e => by have := take_le e; have := HX.out; omega) (to_nat _ (numV_fits _ _ _ (by omega)))
  have H2 := Lib.hid h2
  have HPU := Lib.hid hp
  clear hr2 ho2 h2 hp
  go_wp2_with fail
  refine HPU.out.mono ?_
  rintro e w3 ⟨rfl, hm⟩
  obtain ⟨v3, h3⟩ := H2.out.put hm
  have H3 := Lib.hid h3
  clear hm h3 HPU H2 HC HH
  go_wp2_with fail
  go_end0
  exact ⟨rfl, v3, _, _, H3.out, fun b hb => num_sync hb⟩
set_option maxRecDepth 100000 in
set_option maxHeartbeats 2000000 in
theorem again_3 (w0 w : World) (g k gw : Nat) (xs : List UInt8) (c a : Nat) (v : Value) (cs : Array Value) (n0 n1 : Int) (n2 : Nat) (hs : List UInt8) (bv : Value) (s : ByteArray) (hV : PutV cs n0 n1 n2 hs bv s) (hd : n0 % 10 = 3) (h : Rw w0 g k gw xs c v (some a) (some (xs.take a)) w) (hx : xs.length ≤ 300) :
    Calls Try.prog 24 #[.pointer (some ⟨g, 0, none⟩), .pointer (some ⟨gw, 0, none⟩), .agg cs] w fun e w' => e = .returned (.tuple #[]) ∧ Again w0 g k gw xs c a w' := by
  have hb : Below w.heap.size w (w.alloc (.cells cs 35)) := (Below.refl _ _).alloc (Nat.le_refl _) _
  have hl := Lies.new w cs 35
  have c0 := hl.cell 0 hV.what
  have c1 := hl.cell 1 hV.num
  have hpk := pick_any n0 (w.alloc (.cells cs 35))
  rw [hd] at hpk
  have hh := h.below hb
  have HC := Lib.hid (ask55_st _ g k xs c (some a) hh.r)
  have HP := Lib.hid hpk
  have HH := Lib.hid hh
  have HX := Lib.hid hx
  clear hpk hb hh hl hd h hx hV
  go_enter Try.func24, Try.ntmps24
  go_wp2_with fail
  refine HP.out.mono ?_
  rintro e w1 ⟨rfl, rfl⟩
  go_wp2_with fail
  refine HC.out.mono ?_
  rintro e w2 ⟨rfl, hr2, ho2⟩
  have h2 := HH.out.ask hr2 ho2
  have hp := u64_st w2 gw gw v (some (xs.take a)) (numV xs (some a) 8) h2.p h2.size (fun l e => by have := take_le e; have := HX.out; omega) (numV_fits _ _ _ (by omega))
  have H2 := Lib.hid h2
  have HPU := Lib.hid hp
  clear hr2 ho2 h2 hp
  go_wp2_with fail
  refine HPU.out.mono ?_
  rintro e w3 ⟨rfl, hm⟩
  obtain ⟨v3, h3⟩ := H2.out.put hm
  have H3 := Lib.hid h3
  clear hm h3 HPU H2 HC HH
  go_wp2_with fail
  go_end0
  exact ⟨rfl, v3, _, _, H3.out, fun b hb => num_sync hb⟩
set_option maxRecDepth 100000 in
set_option maxHeartbeats 2000000 in
theorem again_4 (w0 w : World) (g k gw : Nat) (xs : List UInt8) (c a : Nat) (v : Value) (cs : Array Value) (n0 n1 : Int) (n2 : Nat) (hs : List UInt8) (bv : Value) (s : ByteArray) (hV : PutV cs n0 n1 n2 hs bv s) (hd : n0 % 10 = 4) (h : Rw w0 g k gw xs c v (some a) (some (xs.take a)) w) (hx : xs.length ≤ 300) :
    Calls Try.prog 24 #[.pointer (some ⟨g, 0, none⟩), .pointer (some ⟨gw, 0, none⟩), .agg cs] w fun e w' => e = .returned (.tuple #[]) ∧ Again w0 g k gw xs c a w' := by
  have hb : Below w.heap.size w (w.alloc (.cells cs 35)) := (Below.refl _ _).alloc (Nat.le_refl _) _
  have hl := Lies.new w cs 35
  have c0 := hl.cell 0 hV.what
  have c1 := hl.cell 1 hV.num
  have hpk := pick_any n0 (w.alloc (.cells cs 35))
  rw [hd] at hpk
  have hh := h.below hb
  have hask := ask56_st _ g k xs c (some a) hh.r
  obtain ⟨z, hz⟩ : ∃ z, IntKind.i64.wrap (numV xs (some a) 8 : Nat) = z := ⟨_, rfl⟩
  rw [hz] at hask
  have hzl := low64_of _ (numV_fits xs (some a) 8 (by omega)) z hz
  have HZ := Lib.hid hzl
  have HC := Lib.hid hask
  clear hask hzl hz
  have HP := Lib.hid hpk
  have HH := Lib.hid hh
  have HX := Lib.hid hx
  clear hpk hb hh hl hd h hx hV
  go_enter Try.func24, Try.ntmps24
  go_wp2_with fail
  refine HP.out.mono ?_
  rintro e w1 ⟨rfl, rfl⟩
  go_wp2_with fail
  refine HC.out.mono ?_
  rintro e w2 ⟨rfl, hr2, ho2⟩
  have h2 := HH.out.ask hr2 ho2
  have hp := i64_st w2 gw gw v (some (xs.take a)) z (numV xs (some a) 8) h2.p h2.size (fun l e => by have := take_le e; have := HX.out; omega) HZ.out
  have H2 := Lib.hid h2
  have HPU := Lib.hid hp
  clear hr2 ho2 h2 hp
  go_wp2_with fail
  refine HPU.out.mono ?_
  rintro e w3 ⟨rfl, hm⟩
  obtain ⟨v3, h3⟩ := H2.out.put hm
  have H3 := Lib.hid h3
  clear hm h3 HPU H2 HC HH
  go_wp2_with fail
  go_end0
  exact ⟨rfl, v3, _, _, H3.out, fun b hb => num_sync hb⟩
set_option maxRecDepth 100000 in
set_option maxHeartbeats 2000000 in
theorem again_5 (w0 w : World) (g k gw : Nat) (xs : List UInt8) (c a : Nat) (v : Value) (cs : Array Value) (n0 n1 : Int) (n2 : Nat) (hs : List UInt8) (bv : Value) (s : ByteArray) (hV : PutV cs n0 n1 n2 hs bv s) (hd : n0 % 10 = 5) (h : Rw w0 g k gw xs c v (some a) (some (xs.take a)) w) (hx : xs.length ≤ 300) :
    Calls Try.prog 24 #[.pointer (some ⟨g, 0, none⟩), .pointer (some ⟨gw, 0, none⟩), .agg cs] w fun e w' => e = .returned (.tuple #[]) ∧ Again w0 g k gw xs c a w' := by
  have hb : Below w.heap.size w (w.alloc (.cells cs 35)) := (Below.refl _ _).alloc (Nat.le_refl _) _
  have hl := Lies.new w cs 35
  have c0 := hl.cell 0 hV.what
  have c1 := hl.cell 1 hV.num
  have hpk := pick_any n0 (w.alloc (.cells cs 35))
  rw [hd] at hpk
  have hh := h.below hb
  have HC := Lib.hid (hash_rst _ g k xs c (some a) hh.r)
  have HP := Lib.hid hpk
  have HH := Lib.hid hh
  have HX := Lib.hid hx
  clear hpk hb hh hl hd h hx hV
  go_enter Try.func24, Try.ntmps24
  go_wp2_with fail
  refine HP.out.mono ?_
  rintro e w1 ⟨rfl, rfl⟩
  go_wp2_with fail
  refine HC.out.mono ?_
  rintro e w2 ⟨rfl, hr2, ho2⟩
  have h2 := HH.out.ask hr2 ho2
  have hp := hash_st w2 gw gw v (some (xs.take a)) (hashV xs (some a)) h2.p (hashV_length _ _) h2.size (fun l e => by have := take_le e; have := HX.out; omega)
  have H2 := Lib.hid h2
  have HPU := Lib.hid hp
  clear hr2 ho2 h2 hp
  go_wp2_with fail
  refine HPU.out.mono ?_
  rintro e w3 ⟨rfl, hm⟩
  obtain ⟨v3, h3⟩ := H2.out.put hm
  have H3 := Lib.hid h3
  clear hm h3 HPU H2 HC HH
  go_wp2_with fail
  go_end0
  exact ⟨rfl, v3, _, _, H3.out, fun b hb => hash_sync hb⟩
set_option maxRecDepth 100000 in
set_option maxHeartbeats 2000000 in
theorem again_6 (w0 w : World) (g k gw : Nat) (xs : List UInt8) (c a : Nat) (v : Value) (cs : Array Value) (n0 n1 : Int) (n2 : Nat) (hs : List UInt8) (bv : Value) (s : ByteArray) (hV : PutV cs n0 n1 n2 hs bv s) (hd : n0 % 10 = 6) (h : Rw w0 g k gw xs c v (some a) (some (xs.take a)) w) (hx : xs.length ≤ 300) :
    Calls Try.prog 24 #[.pointer (some ⟨g, 0, none⟩), .pointer (some ⟨gw, 0, none⟩), .agg cs] w fun e w' => e = .returned (.tuple #[]) ∧ Again w0 g k gw xs c a w' := by
  have hb : Below w.heap.size w (w.alloc (.cells cs 35)) := (Below.refl _ _).alloc (Nat.le_refl _) _
  have hl := Lies.new w cs 35
  have c0 := hl.cell 0 hV.what
  have c1 := hl.cell 1 hV.num
  have hpk := pick_any n0 (w.alloc (.cells cs 35))
  rw [hd] at hpk
  have hh := h.below hb
  have HC := Lib.hid (raw_rst _ g k xs c (some a) n1 hh.r)
  have HP := Lib.hid hpk
  have HH := Lib.hid hh
  have HX := Lib.hid hx
  clear hpk hb hh hl hd h hx hV
  go_enter Try.func24, Try.ntmps24
  go_wp2_with fail
  refine HP.out.mono ?_
  rintro e w1 ⟨rfl, rfl⟩
  go_wp2_with fail
  refine HC.out.mono ?_
  rintro e w2 ⟨u, rfl, hown2, hr2, ho2⟩
  obtain ⟨A, cc, rfl⟩ := own_slice hown2
  have h2 := HH.out.ask hr2 ho2
  have hp := raw_in w2 gw gw v _ (some (xs.take a)) (rawV xs (some a) n1) h2.p (raw_of_own hown2) h2.size (fun l e => by have := take_le e; have := rawV_most xs (some a) n1; have := HX.out; omega)
  have H2 := Lib.hid h2
  have HPU := Lib.hid hp
  clear hown2 hr2 ho2 h2 hp
  go_wp2_with fail
  refine HPU.out.mono ?_
  rintro e w3 ⟨rfl, hm⟩
  obtain ⟨v3, h3⟩ := H2.out.put hm
  have H3 := Lib.hid h3
  clear hm h3 HPU H2 HC HH
  go_wp2_with fail
  go_end0
  exact ⟨rfl, v3, _, _, H3.out, fun b hb => raw_sync hb⟩
set_option maxRecDepth 100000 in
set_option maxHeartbeats 2000000 in
theorem again_7 (w0 w : World) (g k gw : Nat) (xs : List UInt8) (c a : Nat) (v : Value) (cs : Array Value) (n0 n1 : Int) (n2 : Nat) (hs : List UInt8) (bv : Value) (s : ByteArray) (hV : PutV cs n0 n1 n2 hs bv s) (hd : n0 % 10 = 7) (h : Rw w0 g k gw xs c v (some a) (some (xs.take a)) w) (hx : xs.length ≤ 300) :
    Calls Try.prog 24 #[.pointer (some ⟨g, 0, none⟩), .pointer (some ⟨gw, 0, none⟩), .agg cs] w fun e w' => e = .returned (.tuple #[]) ∧ Again w0 g k gw xs c a w' := by
  have hb : Below w.heap.size w (w.alloc (.cells cs 35)) := (Below.refl _ _).alloc (Nat.le_refl _) _
  have hl := Lies.new w cs 35
  have c0 := hl.cell 0 hV.what
  have c1 := hl.cell 1 hV.num
  have hpk := pick_any n0 (w.alloc (.cells cs 35))
  rw [hd] at hpk
  have hh := h.below hb
  have HC := Lib.hid (text_rst _ g k xs c (some a) n1 hh.r)
  have HP := Lib.hid hpk
  have HH := Lib.hid hh
  have HX := Lib.hid hx
  clear hpk hb hh hl hd h hx hV
  go_enter Try.func24, Try.ntmps24
  go_wp2_with fail
  refine HP.out.mono ?_
  rintro e w1 ⟨rfl, rfl⟩
  go_wp2_with fail
  refine HC.out.mono ?_
  rintro e w2 ⟨rfl, hr2, ho2⟩
  have h2 := HH.out.ask hr2 ho2
  have hp := text_of w2 gw gw v (some (xs.take a)) ⟨(textV xs (some a) n1).toArray⟩ h2.p h2.size (fun l e => by have := take_le e; have := HX.out; omega) (by have := textV_le xs (some a) n1; have := HX.out; show (textV xs (some a) n1).toArray.size < _; rw [List.size_toArray]; omega)
  have H2 := Lib.hid h2
  have HPU := Lib.hid hp
  clear hr2 ho2 h2 hp
  go_wp2_with fail
  refine HPU.out.mono ?_
  rintro e w3 ⟨rfl, hm⟩
  obtain ⟨v3, h3⟩ := H2.out.put hm
  have H3 := Lib.hid h3
  clear hm h3 HPU H2 HC HH
  go_wp2_with fail
  go_end0
  exact ⟨rfl, v3, _, _, H3.out, fun b hb => text_sync hb⟩
set_option maxRecDepth 100000 in
set_option maxHeartbeats 2000000 in
theorem again_8 (w0 w : World) (g k gw : Nat) (xs : List UInt8) (c a : Nat) (v : Value) (cs : Array Value) (n0 n1 : Int) (n2 : Nat) (hs : List UInt8) (bv : Value) (s : ByteArray) (hV : PutV cs n0 n1 n2 hs bv s) (hd : n0 % 10 = 8) (h : Rw w0 g k gw xs c v (some a) (some (xs.take a)) w) (hx : xs.length ≤ 300) :
    Calls Try.prog 24 #[.pointer (some ⟨g, 0, none⟩), .pointer (some ⟨gw, 0, none⟩), .agg cs] w fun e w' => e = .returned (.tuple #[]) ∧ Again w0 g k gw xs c a w' := by
  have hb : Below w.heap.size w (w.alloc (.cells cs 35)) := (Below.refl _ _).alloc (Nat.le_refl _) _
  have hl := Lies.new w cs 35
  have c0 := hl.cell 0 hV.what
  have c1 := hl.cell 1 hV.num
  have hpk := pick_any n0 (w.alloc (.cells cs 35))
  rw [hd] at hpk
  have hh := h.below hb
  have HC := Lib.hid (flag_rst _ g k xs c (some a) hh.r)
  have HP := Lib.hid hpk
  have HH := Lib.hid hh
  have HX := Lib.hid hx
  clear hpk hb hh hl hd h hx hV
  go_enter Try.func24, Try.ntmps24
  go_wp2_with fail
  refine HP.out.mono ?_
  rintro e w1 ⟨rfl, rfl⟩
  go_wp2_with fail
  refine HC.out.mono ?_
  rintro e w2 ⟨rfl, hr2, ho2⟩
  have h2 := HH.out.ask hr2 ho2
  have hp := flag_st w2 gw gw v (some (xs.take a)) (flagV xs (some a)) h2.p h2.size (fun l e => by have := take_le e; have := HX.out; omega)
  have H2 := Lib.hid h2
  have HPU := Lib.hid hp
  clear hr2 ho2 h2 hp
  go_wp2_with fail
  refine HPU.out.mono ?_
  rintro e w3 ⟨rfl, hm⟩
  obtain ⟨v3, h3⟩ := H2.out.put hm
  have H3 := Lib.hid h3
  clear hm h3 HPU H2 HC HH
  go_wp2_with fail
  go_end0
  exact ⟨rfl, v3, _, _, H3.out, fun b hb => flag_sync hb⟩
set_option maxRecDepth 100000 in
set_option maxHeartbeats 2000000 in
theorem again_9 (w0 w : World) (g k gw : Nat) (xs : List UInt8) (c a : Nat) (v : Value) (cs : Array Value) (n0 n1 : Int) (n2 : Nat) (hs : List UInt8) (bv : Value) (s : ByteArray) (hV : PutV cs n0 n1 n2 hs bv s) (hd : n0 % 10 = 9) (h : Rw w0 g k gw xs c v (some a) (some (xs.take a)) w) (hx : xs.length ≤ 300) :
    Calls Try.prog 24 #[.pointer (some ⟨g, 0, none⟩), .pointer (some ⟨gw, 0, none⟩), .agg cs] w fun e w' => e = .returned (.tuple #[]) ∧ Again w0 g k gw xs c a w' := by
  have hb : Below w.heap.size w (w.alloc (.cells cs 35)) := (Below.refl _ _).alloc (Nat.le_refl _) _
  have hl := Lies.new w cs 35
  have c0 := hl.cell 0 hV.what
  have c1 := hl.cell 1 hV.num
  have hpk := pick_any n0 (w.alloc (.cells cs 35))
  rw [hd] at hpk
  have hh := h.below hb
  have HC := Lib.hid (count_rst _ g k xs c (some a) n1 hh.r)
  have HP := Lib.hid hpk
  have HH := Lib.hid hh
  have HX := Lib.hid hx
  clear hpk hb hh hl hd h hx hV
  go_enter Try.func24, Try.ntmps24
  go_wp2_with fail
  refine HP.out.mono ?_
  rintro e w1 ⟨rfl, rfl⟩
  go_wp2_with fail
  refine HC.out.mono ?_
  rintro e w2 ⟨rfl, hr2, ho2⟩
  have h2 := HH.out.ask hr2 ho2
  have hp := u16_st w2 gw gw v (some (xs.take a)) (countV xs (some a) n1 : Nat) (countV xs (some a) n1) h2.p h2.size (fun l e => by have := take_le e; have := HX.out; omega) (to_nat _ (countV_fits _ _ _))
  have H2 := Lib.hid h2
  have HPU := Lib.hid hp
  clear hr2 ho2 h2 hp
  go_wp2_with fail
  refine HPU.out.mono ?_
  rintro e w3 ⟨rfl, hm⟩
  obtain ⟨v3, h3⟩ := H2.out.put hm
  have H3 := Lib.hid h3
  clear hm h3 HPU H2 HC HH
  go_wp2_with fail
  go_end0
  exact ⟨rfl, v3, _, _, H3.out, fun b hb => count_sync hb⟩
/-- again, at any Put. -/
theorem again_any (w0 w : World) (g k gw : Nat) (xs : List UInt8) (c a : Nat) (v : Value) (p : PutD) (hok : p.Ok w) (h : Rw w0 g k gw xs c v (some a) (some (xs.take a)) w) (hx : xs.length ≤ 300) :
    Calls Try.prog 24 #[.pointer (some ⟨g, 0, none⟩), .pointer (some ⟨gw, 0, none⟩), .agg p.cells] w fun e w' => e = .returned (.tuple #[]) ∧ Again w0 g k gw xs c a w' := by
  have hV := PutD.v hok
  by_cases hd : p.n0 % 10 = 0
  · exact again_0 w0 w g k gw xs c a v _ _ _ _ _ _ _ hV hd h hx
  by_cases hd : p.n0 % 10 = 1
  · exact again_1 w0 w g k gw xs c a v _ _ _ _ _ _ _ hV hd h hx
  by_cases hd : p.n0 % 10 = 2
  · exact again_2 w0 w g k gw xs c a v _ _ _ _ _ _ _ hV hd h hx
  by_cases hd : p.n0 % 10 = 3
  · exact again_3 w0 w g k gw xs c a v _ _ _ _ _ _ _ hV hd h hx
  by_cases hd : p.n0 % 10 = 4
  · exact again_4 w0 w g k gw xs c a v _ _ _ _ _ _ _ hV hd h hx
  by_cases hd : p.n0 % 10 = 5
  · exact again_5 w0 w g k gw xs c a v _ _ _ _ _ _ _ hV hd h hx
  by_cases hd : p.n0 % 10 = 6
  · exact again_6 w0 w g k gw xs c a v _ _ _ _ _ _ _ hV hd h hx
  by_cases hd : p.n0 % 10 = 7
  · exact again_7 w0 w g k gw xs c a v _ _ _ _ _ _ _ hV hd h hx
  by_cases hd : p.n0 % 10 = 8
  · exact again_8 w0 w g k gw xs c a v _ _ _ _ _ _ _ hV hd h hx
  exact again_9 w0 w g k gw xs c a v _ _ _ _ _ _ _ hV (by omega) h hx
end Go.Proofs.Ytjbjagdpemnhiaa
namespace Go.Proofs.Ytjbjagdpemnhiaa
open Go.RowKit

theorem rest_sync {xs : List UInt8} {a : Nat} (h : a ≤ xs.length) : rawV xs (some a) ((leftV xs (some a) : Nat) : Int) = xs.drop a ∧ rawS xs (some a) ((leftV xs (some a) : Nat) : Int) = some xs.length ∧ stepB (some (xs.take a)) (xs.drop a) = some xs := by
  have e : leftV xs (some a) = xs.length - a := rfl
  have hr : RawOk xs a ((xs.length - a : Nat) : Int) := by unfold RawOk; omega
  have h2 : ((xs.drop a).take (xs.length - a)) = xs.drop a := by
    rw [List.take_of_length_le]
    rw [List.length_drop]
    exact Nat.le_refl _
  have h3 : a + (xs.length - a) = xs.length := by omega
  rw [e]
  simp only [rawV, rawS, if_pos hr, Int.toNat_natCast, stepB, Option.map_some, List.take_append_drop, h2, h3, and_self]
attribute [-go_sem] loadCellsFrom
set_option maxRecDepth 1000000 in
set_option maxHeartbeats 4000000 in
theorem one_any (w : World) (bv : Value) (xs : List UInt8) (va : Option Addr) (ps : List PutD) (cap : Nat) (hb : Bs w bv xs) (hxs : xs.length ≤ 140737488355328) (hc : ps.length ≤ cap) (hm : cap ≤ 140737488355328)
    (hrow : 0 < ps.length → ∃ g off, va = some ⟨g, off, none⟩ ∧ g < w.heap.size ∧ PRow w g off ps) :
    Calls Try.prog 7 #[bv, .slice va ps.length cap] w fun e w' => e = .returned (.bool true) ∧ Below w.heap.size w w' := by
  obtain ⟨A, cb, rfl⟩ := hb.form
  have HROW0 := Lib.hid hrow
  have HBS0 := Lib.hid hb
  clear hrow hb
  go_enter Try.func7, Try.ntmps7
  go_wp2_with fail
  refine (awake_more w).mono ?_
  rintro e w1 ⟨rfl, hb1, hp1⟩
  have hrow1 : 0 < ps.length → ∃ g off, va = some ⟨g, off, none⟩ ∧ g < w1.heap.size ∧ PRow w1 g off ps := fun h => by
    obtain ⟨g, off, h1, h2, h3⟩ := HROW0.out h
    exact ⟨g, off, h1, Nat.lt_of_lt_of_le h2 hb1.size, h3.below (Nat.le_refl _) hb1⟩
  have HG := Lib.hid (great_any w1 va ps cap A xs.length cb hc hm hxs hrow1)
  have HROW := Lib.hid hrow1
  have HBS := Lib.hid (HBS0.out.below hb1)
  have HB1 := Lib.hid hb1
  have HP1 := Lib.hid hp1
  clear hrow1 hb1 hp1 HBS0 HROW0
  go_wp2_with fail
  refine HG.out.mono ?_
  rintro e w' ⟨rfl, r, rfl, hr⟩
  clear HG
  cases r
  case true =>
    clear hr
    go_wp2_with fail
    go_ret
    exact ⟨rfl, HB1.out⟩
  case false =>
    obtain ⟨hsum, _⟩ := hr rfl
    have hx300 : xs.length ≤ 300 := by omega
    have HX := Lib.hid hx300
    have HN := Lib.hid (newreader_in w1 _ xs HBS.out.raw (by omega) HP1.out)
    clear hsum hr hx300
    go_wp2_with fail
    refine HN.out.mono ?_
    rintro e w2 ⟨g, k, c, rfl, hg2, hk2, hr2, hb2⟩
    have H2 := Lib.hid (And.intro hg2 (And.intro hr2 hb2))
    clear hg2 hk2 hr2 hb2 HN
    go_wp2_with fail
    refine (newwriter_any w2).mono ?_
    rintro e w3 ⟨rfl, hw3, hb3⟩
    obtain ⟨v3, hw3⟩ := hw3.wrv
    have hrw : Rw w1 g k w2.heap.size xs c v3 (some 0) (some (xs.take 0)) w3 := ⟨RSt.below (w := w2) ⟨Nat.zero_le _, H2.out.2.1⟩ hb3, hw3, fun x hx => own_block hw3.2.1 x hx, H2.out.2.2.trans (hb3.mono H2.out.2.2.size), H2.out.1, H2.out.2.1.1.lt, H2.out.2.1.2.2.2.1⟩
    have H3 := Lib.hid hrw
    clear hw3 hb3 hrw
    obtain ⟨gw, hgw⟩ : ∃ gw, gw = w2.heap.size := ⟨_, rfl⟩
    rw [← hgw] at H3 ⊢
    clear hgw H2
    go_wp2_with fail
    go_loopw [7] (fun i W => ∃ j : Nat, j ≤ ps.length ∧ i = .int .i64 j ∧ ∃ a v, Rw w1 g k gw xs c v (some a) (some (xs.take a)) W) (fun i _ => ps.length - (intOf i).toNat)
    case atStart => exact ⟨0, Nat.zero_le _, rfl, 0, v3, H3.out⟩
    case round =>
      obtain ⟨j, hj, rfl, a, v, hrw⟩ := hrel
      have H4 := Lib.hid hrw
      clear hrw H3
      by_cases hlt : j < ps.length
      · obtain ⟨g0, off, rfl, hg0, hr0⟩ := HROW.out (by omega)
        obtain ⟨p, hp⟩ : ∃ p, ps[j]? = some p := ⟨_, List.getElem?_eq_getElem hlt⟩
        have hleft := left_rst wr g k xs c (some a) H4.out.r
        have HL := Lib.hid hleft
        have HR0 := Lib.hid hr0
        have HP := Lib.hid hp
        clear hleft hr0 hp
        go_wp2_with fail
        refine HL.out.mono ?_
        rintro e W5 ⟨rfl, hb5⟩
        have h5 := H4.out.below hb5
        have hr5 : PRow W5 g0 off ps := HR0.out.below (Nat.le_refl _) h5.bel
        have H5 := Lib.hid h5
        have HR := Lib.hid hr5
        have HA := Lib.hid (again_any w1 W5 g k gw xs c a v p (hr5 j p HP.out).1 h5 HX.out)
        clear h5 hr5 hb5 HL HR0 H4
        go_wp2_with (refine wpList_load_put rfl _ rfl g0 off j ps p HR.out HP.out rfl ?_)
        refine HA.out.mono ?_
        rintro e W6 ⟨rfl, v6, st6, sw6, h6, hs6⟩
        have H6 := Lib.hid h6
        have HS6 := Lib.hid hs6
        clear h6 hs6 HA H5 HR
        cases st6 with
        | none =>
          have herr := err_rst W6 g k xs c none H6.out.r
          have HE := Lib.hid herr
          clear herr
          go_wp2_with fail
          refine HE.out.mono ?_
          rintro e W7 ⟨rfl, rfl⟩
          have HL := Lib.hid (left_rst W6 g k xs c none H6.out.r)
          clear HE
          go_wp2_with fail
          refine HL.out.mono ?_
          rintro e W7 ⟨rfl, hb7⟩
          have H7 := Lib.hid (H6.out.below hb7)
          have HL := Lib.hid (end_rst W7 g k xs c none H7.out.r)
          clear hb7 H6
          go_wp2_with fail
          refine HL.out.mono ?_
          rintro e W8 ⟨rfl, hb8⟩
          have H8 := Lib.hid (H7.out.below hb8)
          have HL := Lib.hid (ask25_st W8 g k xs c none H8.out.r)
          clear hb8 H7
          go_wp2_with fail
          refine HL.out.mono ?_
          rintro e W9 ⟨rfl, hr9, ho9⟩
          have H9 := Lib.hid (H8.out.ask hr9 ho9)
          have HL := Lib.hid (raw_rst W9 g k xs c none 0 H9.out.r)
          clear hr9 ho9 H8
          go_wp2_with fail
          refine HL.out.mono ?_
          rintro e W10 ⟨u, rfl, hown, hr10, ho10⟩
          obtain ⟨A', cc, rfl⟩ := own_slice hown
          have H10 := Lib.hid (H9.out.ask hr10 ho10)
          clear hr10 ho10 hown H9
          go_wp2_with fail
          go_ret
          exact ⟨rfl, HB1.out.trans (H10.out.bel.mono HB1.out.size)⟩
        | some b =>
          obtain ⟨hab, rfl⟩ := HS6.out b rfl
          have HAB := Lib.hid hab
          have herr := err_rst W6 g k xs c (some b) H6.out.r
          have HE := Lib.hid herr
          clear herr hab
          go_wp2_with fail
          refine HE.out.mono ?_
          rintro e W7 ⟨rfl, rfl⟩
          have HL := Lib.hid (left_rst W6 g k xs c (some b) H6.out.r)
          have hle : leftV xs (some b) ≤ leftV xs (some a) := by have := HAB.out; simp only [leftV]; omega
          have i1 : ¬ ((leftV xs (some a) : Nat) : Int) < ((leftV xs (some b) : Nat) : Int) := by omega
          generalize leftV xs (some a) = la at *
          generalize leftV xs (some b) = lb at *
          clear HE hle
          go_wp2_with fail
          refine HL.out.mono ?_
          rintro e W7 ⟨rfl, hb7⟩
          have H7 := Lib.hid (H6.out.below hb7)
          clear hb7 H6
          go_wp2_with fail
          refine ⟨⟨j + 1, by omega, by go_num, b, v6, H7.out⟩, ?_⟩
          simp [intOf]; omega
      · obtain rfl : j = ps.length := by omega
        have ha : a ≤ xs.length := H4.out.r.1
        obtain ⟨hs1, hs2, hs3⟩ := rest_sync ha
        have HL := Lib.hid (left_rst wr g k xs c (some a) H4.out.r)
        have hyl : (xs.drop a).length ≤ xs.length := by rw [List.length_drop]; omega
        generalize xs.drop a = ys at hs1 hs3 hyl
        have HS := Lib.hid (And.intro hs1 (And.intro hs2 (And.intro hs3 hyl)))
        clear hs1 hs2 hs3 ha hyl
        go_wp2_with fail
        refine HL.out.mono ?_
        rintro e W5 ⟨rfl, hb5⟩
        have h5 := H4.out.below hb5
        have hraw := raw_rst W5 g k xs c (some a) ((leftV xs (some a) : Nat) : Int) h5.r
        rw [HS.out.1, HS.out.2.1] at hraw
        have HRA := Lib.hid hraw
        have H5 := Lib.hid h5
        clear h5 hb5 HL hraw H4
        go_wp2_with fail
        refine HRA.out.mono ?_
        rintro e W6 ⟨u, rfl, hown, hr6, ho6⟩
        obtain ⟨A', cc, rfl⟩ := own_slice hown
        have h6 := H5.out.ask hr6 ho6
        have hput := raw_in W6 gw gw v _ (some (xs.take a)) ys h6.p (raw_of_own hown) h6.size (fun l e => by have := take_le e; have := HX.out; have := HS.out.2.2.2; omega)
        rw [HS.out.2.2.1] at hput
        have HPU := Lib.hid hput
        have H6 := Lib.hid h6
        clear h6 hown hr6 ho6 hput HRA H5
        go_wp2_with fail
        refine HPU.out.mono ?_
        rintro e W7 ⟨rfl, hm7⟩
        obtain ⟨v7, h7⟩ := H6.out.put hm7
        have HW := Lib.hid (wbytes_good W7 gw gw v7 xs h7.p (by have := HX.out; omega))
        have H7 := Lib.hid h7
        clear hm7 h7 HPU H6
        go_wp2_with fail
        refine HW.out.mono ?_
        rintro e W8 ⟨u8, rfl, hown8, hb8⟩
        obtain ⟨A8, c8, rfl⟩ := own_slice hown8
        have h8 := H7.out.below hb8
        have hend := end_rst W8 g k xs c (some xs.length) h8.r
        rw [show endV xs (some xs.length) = true by simp [endV]] at hend
        have HE := Lib.hid hend
        have H8 := Lib.hid h8
        obtain ⟨B8', hown8⟩ : ∃ B', W8.ownsRow B' 5 1 (.slice A8 xs.length c8) xs.length (B8 xs).toList := ⟨_, hown8⟩
        have HO8 := Lib.hid hown8
        clear h8 hb8 hown8 hend HW H7
        go_wp2_with fail
        refine HE.out.mono ?_
        rintro e W9 ⟨rfl, hb9⟩
        have h9 := H8.out.below hb9
        have hown9 := own_kept HO8.out (grown_below hb9 none) (fun _ _ => by simp)
        have t1 := own_text hown9
        have t2 := raw_text (HBS.out.below h9.bel).raw
        have HB9 := Lib.hid (HB1.out.trans (h9.bel.mono HB1.out.size))
        clear h9 hown9 hb9 HE H8 HO8
        go_wp2_with fail
        go_ret
        exact ⟨rfl, HB9.out⟩
end Go.Proofs.Ytjbjagdpemnhiaa
