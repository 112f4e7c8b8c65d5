/-
  number, upTo: numbers that a reader takes.
-/
import Derived.Test.YtilbbemdinpjcaaGreatJWStr
namespace Go.Proofs.YtilbbemdinpjcaaGreat.W
open Go.RowKit
theorem WrV.below {w w' : World} {B g : Nat} {v : Value} {l : List UInt8} (h : WrV w B g v l) (hb : Below w.heap.size w w') : WrV w' B g v l :=
 ⟨h.1.below hb h.1.lt, own_kept h.2.1 (grown_below hb none) (fun _ _ => by simp), h.2.2.1, h.2.2.2⟩
theorem WSt.below {w w' : World} {B g : Nat} {v : Value} {st : Option (List UInt8)} (h : WSt w B g v st) (hb : Below w.heap.size w w') : WSt w' B g v st := by
 cases st with
 | none => exact ⟨h.1.below hb h.1.lt, h.2⟩
 | some l => exact WrV.below h hb
theorem MoreO.after {w w1 w2 : World} {B g : Nat} {v : Value} {st : Option (List UInt8)} (hb : Below w.heap.size w w1) (h : MoreO w1 B g v st w2) : MoreO w B g v st w2 := by
 obtain ⟨v', h1, h2, h3⟩ := h
 refine ⟨v', h1, Only.trans ((only_below hb).weak _) h2 (.inl rfl), ?_⟩
 rcases h3 with h3 | ⟨k, h3, h4⟩
 ·
  exact .inl h3
 ·
  exact .inr ⟨k, h3, Nat.le_trans hb.size h4.1, h4.2⟩
theorem MoreO.trans {w w1 w2 : World} {B g : Nat} {v v1 : Value} {st : Option (List UInt8)} (ho : Only g w w1 v.ownBlock) (hat : v1.ownBlock = v.ownBlock ∨ ∃ k, v1.ownBlock = some k ∧ w.heap.size ≤ k ∧ k < w1.heap.size) (h : MoreO w1 B g v1 st w2) : MoreO w B g v st w2 := by
 obtain ⟨v', h1, h2, h3⟩ := h
 refine ⟨v', h1, Only.trans ho h2 (hat.imp id fun ⟨k, e, h, _⟩ => ⟨k, e, h⟩), ?_⟩
 rcases h3 with h3 | ⟨k, h3, h4⟩
 ·
  exact hat.imp (fun h => h3.trans h) (fun ⟨k, hk, h4, h5⟩ => ⟨k, h3.trans hk, h4, Nat.lt_of_lt_of_le h5 h2.size⟩)
 ·
  exact .inr ⟨k, h3, Nat.le_trans ho.size h4.1, h4.2⟩
def stepB (st : Option (List UInt8)) (xs : List UInt8) : Option (List UInt8) := st.map (· ++ xs)
theorem raw_st (w : World) (B g : Nat) (v : Value) (st : Option (List UInt8)) (xs : List UInt8) (gx off c : Nat) (h : WSt w B g v st) (hs : Src w gx off xs) (hB : B ≤ w.heap.size) (hx : ∀ l, st = some l → l.length + xs.length ≤ 2000000) :
    Calls Tryz.prog 267 #[.pointer (some ⟨g, 0, none⟩), .slice (some ⟨gx, off, none⟩) xs.length c] w fun e w' => e = .returned (.tuple #[]) ∧ MoreO w B g v (stepB st xs) w' := by
  cases st with
  | none =>
    refine (raw_idle w _ _ h.idle).mono ?_
    rintro e w' ⟨rfl, rfl⟩
    exact ⟨rfl, MoreO.same h⟩
  | some l =>
    refine (raw_any w B g v l xs gx off c h hs hB (hx l rfl)).mono ?_
    rintro e w' ⟨rfl, v', h1, h2, h3⟩
    exact ⟨rfl, v', h1, h2, h3⟩
theorem flag_st (w : World) (B g : Nat) (v : Value) (st : Option (List UInt8)) (b : Bool) (h : WSt w B g v st) (hB : B ≤ w.heap.size) (hx : ∀ l, st = some l → l.length ≤ 1000000) :
    Calls Tryz.prog 266 #[.pointer (some ⟨g, 0, none⟩), .bool b] w fun e w' => e = .returned (.tuple #[]) ∧ MoreO w B g v (stepB st [if b then 1 else 0]) w' := by
  cases st with
  | none =>
    refine (flag_idle w _ b h.idle).mono ?_
    rintro e w' ⟨rfl, rfl⟩
    exact ⟨rfl, MoreO.same h⟩
  | some l =>
    refine (flag_any w B g v l b h hB (hx l rfl)).mono ?_
    rintro e w' ⟨rfl, v', h1, h2, h3⟩
    exact ⟨rfl, v', h1, h2, h3⟩
set_option maxRecDepth 100000 in
theorem hash_st (w : World) (B g : Nat) (v : Value) (st : Option (List UInt8)) (xs : List UInt8) (h : WSt w B g v st) (hl : xs.length = 32) (hB : B ≤ w.heap.size) (hx : ∀ l, st = some l → l.length ≤ 1000000) :
  Calls Tryz.prog 212 #[.pointer (some ⟨g, 0, none⟩), .agg (B8 xs)] w fun e w' => e = .returned (.tuple #[]) ∧ MoreO w B g v (stepB st xs) w' := by
 have hb : Below w.heap.size w (w.alloc (.cells (B8 xs) 30)) := (Below.refl _ _).alloc (Nat.le_refl _) _
 have hsrc : Src (w.alloc (.cells (B8 xs) 30)) w.heap.size 0 xs := fun j hj => by
  have := (Lies.new w (B8 xs) 30).cell j (B8_get xs j hj)
  rwa [Nat.zero_add]
 have he := raw_st (w.alloc (.cells (B8 xs) 30)) B g v st xs w.heap.size 0 32 (h.below hb) hsrc (by simp; omega) (fun l e => by have := hx l e; omega)
 rw [hl] at he
 have HE := Lib.hid he
 have HB := Lib.hid hb
 clear he hb hsrc h hx
 go_enter Tryz.func212, Tryz.ntmps212
 go_wp2_with fail
 refine HE.out.mono ?_
 rintro e w1 ⟨rfl, hm⟩
 have HM := Lib.hid hm
 clear hm HE
 go_wp2_with fail
 go_end0
 exact ⟨rfl, HM.out.after HB.out⟩
set_option maxRecDepth 100000 in
theorem text_big (w : World) (B g : Nat) (v : Value) (st : Option (List UInt8)) (s : ByteArray) (h : WSt w B g v st) (hB : B ≤ w.heap.size) (hx : ∀ l, st = some l → l.length ≤ 900000) (hs : 65536 ≤ s.size) (hs2 : s.size < 9223372036854775808) :
  Calls Tryz.prog 237 #[.pointer (some ⟨g, 0, none⟩), .string s] w fun e w' => e = .returned (.tuple #[]) ∧ MoreO w B g v none w' := by
 have hu := u16_st w B g v st s.size s.size h hB (fun l e => by have := hx l e; omega) (by omega)
 have e1 : stepN st s.size 2 = none := by
  have : ¬ s.size / 2 ^ (8 * 2) = 0 := by
   have : 1 ≤ s.size / 65536 := (Nat.le_div_iff_mul_le (by omega)).2 (by omega)
   omega
  cases st with
  | none => rfl
  | some l => simp only [stepN, Option.bind_some, if_neg this]
 rw [e1] at hu
 have HU := Lib.hid hu
 clear hu h hx e1
 go_enter Tryz.func237, Tryz.ntmps237
 go_wp2_with fail
 refine HU.out.mono ?_
 rintro e w1 ⟨rfl, v1, hw1, ho1, ha1⟩
 have ht := takes_idle w1 _ hw1.idle
 have HW := Lib.hid (show MoreO w B g v none w1 from ⟨v1, hw1, ho1, ha1⟩)
 clear hw1 ho1 ha1 HU
 go_wp2_with fail
 refine ht.mono ?_
 rintro e w2 ⟨rfl, rfl⟩
 clear ht
 go_wp2_with fail
 first
  | go_end0
  | refine bodyPost_ret (results_none rfl _ _ _) rfl ?_
 exact ⟨rfl, HW.out⟩
theorem text_st (w : World) (B g : Nat) (v : Value) (st : Option (List UInt8)) (s : ByteArray) (h : WSt w B g v st) (hB : B ≤ w.heap.size) (hx : ∀ l, st = some l → l.length ≤ 900000) (hs2 : s.size < 9223372036854775808) :
    Calls Tryz.prog 237 #[.pointer (some ⟨g, 0, none⟩), .string s] w fun e w' => e = .returned (.tuple #[]) ∧ MoreO w B g v (if s.size < 65536 then stepB st (beN s.size 2 ++ s.data.toList) else none) w' := by
  by_cases hs : s.size < 65536
  · rw [if_pos hs]
    cases st with
    | none =>
      refine (text_idle w _ s h.idle).mono ?_
      rintro e w' ⟨rfl, rfl⟩
      exact ⟨rfl, MoreO.same h⟩
    | some l =>
      refine (text_any w B g v l s h hB (hx l rfl) hs).mono ?_
      rintro e w' ⟨rfl, v', h1, h2, h3⟩
      exact ⟨rfl, v', h1, h2, h3⟩
  · rw [if_neg hs]
    exact text_big w B g v st s h hB hx (by omega) hs2
end Go.Proofs.YtilbbemdinpjcaaGreat.W
namespace Go.Proofs.YtilbbemdinpjcaaGreat.W
open Go.RowKit
theorem MoreO.again {w : World} {B g : Nat} {v : Value} {l : List UInt8} (h : WrV w B g v l) : MoreO w B g v (some l) (w.setCell ⟨g, 2, none⟩ v) := by
 refine ⟨v, ⟨?_, own_set h.2.1 h.2.2.1, h.2.2.1, h.2.2.2⟩, (only_set g 2 w v).weak _, .inl rfl⟩
 have := h.1.set 2 v
 exact this
def RawIn (w : World) (v : Value) (xs : List UInt8) : Prop := (v = .slice none 0 0 ∧ xs = []) ∨ ∃ ad c, v = .slice (some ad) xs.length c ∧ SrcA w ad xs
set_option maxRecDepth 100000 in
theorem spoil_st (w : World) (B g : Nat) (v : Value) (st : Option (List UInt8)) (h : WSt w B g v st) : Calls Tryz.prog 193 #[.pointer (some ⟨g, 0, none⟩)] w fun e w' => e = .returned (.tuple #[]) ∧ MoreO w B g v none w' := by
  cases st with
  | none =>
    refine (spoil_idle w _ h.idle).mono ?_
    rintro e w' ⟨rfl, rfl⟩
    exact ⟨rfl, MoreO.same h⟩
  | some l =>
    have ht := takes_self w g false (h.1.cell 0 rfl) (h.1.cell 1 rfl)
    have hsp := spoil_any w g (.bool false) (h.1.cell 1 rfl) (h.1.free 1) rfl
    have hm := MoreO.spoilt h
    have HM := Lib.hid hm
    have HS := Lib.hid hsp
    clear hm hsp h
    go_enter Tryz.func193, Tryz.ntmps193
    go_wp2_with fail
    refine ht.mono ?_
    rintro e w1 ⟨rfl, rfl⟩
    clear ht
    go_wp2_with fail
    refine HS.out.mono ?_
    rintro e w2 ⟨rfl, hw2⟩
    have HW2 := Lib.hid hw2
    clear hw2
    go_wp2_with fail
    first
      | go_end0
      | refine bodyPost_ret (results_none rfl _ _ _) rfl ?_
    exact ⟨rfl, by rw [HW2.out]; exact HM.out⟩
end Go.Proofs.YtilbbemdinpjcaaGreat.W
namespace Go.Proofs.YtilbbemdinpjcaaGreat.W
open Go.RowKit
def beVal (l : List UInt8) : Nat := l.foldl (fun n b => n * 256 + b.toNat) 0
theorem beVal_snoc (l : List UInt8) (b : UInt8) : beVal (l ++ [b]) = beVal l * 256 + b.toNat := by
 unfold beVal
 rw [List.foldl_append]; rfl
theorem foldl_lt (l : List UInt8) : ∀ acc, l.foldl (fun n b => n * 256 + b.toNat) acc < (acc + 1) * 256 ^ l.length := by
  induction l with
  | nil => intro acc; simp
  | cons b l ih =>
    intro acc
    rw [List.foldl_cons, List.length_cons, Nat.pow_succ]
    have h1 := ih (acc * 256 + b.toNat)
    have h2 : (acc * 256 + b.toNat + 1) * 256 ^ l.length ≤ ((acc + 1) * 256) * 256 ^ l.length := Nat.mul_le_mul_right _ (by have := b.toNat_lt; omega)
    rw [Nat.mul_comm (256 ^ l.length) 256, ← Nat.mul_assoc]
    omega
theorem beVal_lt (l : List UInt8) : beVal l < 256 ^ l.length := by
 have := foldl_lt l 0
 rwa [Nat.zero_add, Nat.one_mul] at this
theorem or_byte (n b : Nat) (hn : n < 2 ^ 56) (hb : b < 256) : bits .or .u64 ((n : Int) * 256) (b : Int) = ((n * 256 + b : Nat) : Int) := by
 unfold bits
 show IntKind.u64.wrap ((((BitVec.ofInt 64 ((n : Int) * 256)) ||| (BitVec.ofInt 64 (b : Int)) : BitVec 64).toNat : Nat) : Int) = _
 have e : ∀ x : Nat, BitVec.ofInt 64 (x : Int) = BitVec.ofNat 64 x := fun x => by
  apply BitVec.eq_of_toNat_eq
  simp
 rw [show (n : Int) * 256 = ((n * 256 : Nat) : Int) by omega, e, e, BitVec.toNat_or, BitVec.toNat_ofNat, BitVec.toNat_ofNat, Nat.mod_eq_of_lt (by omega), Nat.mod_eq_of_lt (by omega)]
 have h : n * 256 ||| b = n * 256 + b := by
  have := Nat.shiftLeft_add_eq_or_of_lt (i := 8) (b := b) (by omega) n
  rw [Nat.shiftLeft_eq] at this
  exact this.symm
 rw [h, IntKind.wrap_u64]
 omega
theorem number_bad (w : World) (g k : Nat) (xs : List UInt8) (c a : Nat) (h : Rdr w g k xs c a false) (ha : a ≤ xs.length) (s : Nat) (hs : xs.length < a + s) :
  Calls Tryz.prog 260 #[.pointer (some ⟨g, 0, none⟩), .int .i64 s] w fun e w' => Unmet e ∧ Below w.heap.size w w' := by
 have hq := next_bad w g k xs c a h ha s (.inr (by omega))
 have HQ := Lib.hid hq
 clear hq h
 go_enter Tryz.func260, Tryz.ntmps260
 go_wp2_with fail
 refine HQ.out.mono ?_
 rintro e w1 ⟨⟨v, rfl⟩, hb⟩
 have HB := Lib.hid hb
 clear hb
 go_wp2_with fail
 exact ⟨rfl, ⟨_, rfl⟩, HB.out⟩
set_option maxRecDepth 100000 in
theorem number_good (w : World) (g k : Nat) (xs : List UInt8) (c a : Nat) (h : Rdr w g k xs c a false) (s : Nat) (hs : s ≤ 8) (hn : a + s ≤ xs.length) (h0 : 0 < s := by omega) :
  Calls Tryz.prog 260 #[.pointer (some ⟨g, 0, none⟩), .int .i64 s] w fun e w' => e = .returned (.int .u64 (beVal ((xs.drop a).take s))) ∧ Rdr w' g k xs c (a + s) false ∧ Only g w w' none := by
 have hq := next_good w g k xs c a h s hn (h.notNil (by omega))
 have HQ := Lib.hid hq
 clear hq h
 have hl : ((xs.drop a).take s).length = s := by rw [List.length_take, List.length_drop]; omega
 generalize (xs.drop a).take s = ys at HQ hl ⊢
 go_enter Tryz.func260, Tryz.ntmps260
 go_wp2_with fail
 refine HQ.out.mono ?_
 rintro e w1 ⟨off, c', rfl, hsrc, hr, ho⟩
 have HS := Lib.hid hsrc
 have HR := Lib.hid (And.intro hr ho)
 have HL := Lib.hid hl
 clear hsrc hr ho hl HQ
 go_wp2_with fail
 go_loop [5, 12] (fun v i => ∃ t : Nat, t ≤ s ∧ i = .int .i64 t ∧ v = .int .u64 (beVal (ys.take t))) (fun _ i => s - (intOf i).toNat)
 case atStart => exact ⟨0, by omega, rfl, rfl⟩
 case round =>
  obtain ⟨t, ht, rfl, rfl⟩ := hrel
  by_cases hlt : t < s
  ·
   have hty : t < ys.length := by have := HL.out; omega
   have hc := HS.out t hty
   have hval : beVal (ys.take (t + 1)) = beVal (ys.take t) * 256 + (ys.getD t 0).toNat := by
    rw [List.take_succ_eq_append_getElem hty, beVal_snoc]
    simp [hty]
   have hbd : beVal (ys.take t) < 2 ^ 56 := by
    have h1 := beVal_lt (ys.take t)
    rw [List.length_take, Nat.min_eq_left (by omega)] at h1
    have h2 : 256 ^ t ≤ 256 ^ 7 := Nat.pow_le_pow_right (by decide) (by omega)
    have h3 : 256 ^ 7 = 2 ^ 56 := by decide
    omega
   have hby := (ys.getD t 0).toNat_lt
   generalize ys.getD t 0 = y at hc hval hby
   generalize beVal (ys.take t) = n at hval hbd ⊢
   have hor := or_byte n y.toNat hbd hby
   have hsh : IntKind.u64.wrap ((n : Int) * 256) = ((n * 256 : Nat) : Int) := by rw [IntKind.wrap_u64]; omega
   have HV := Lib.hid hval
   clear hval hty
   go_wp2_with fail
   refine ⟨⟨t + 1, by omega, by go_num, ?_⟩, by simp [intOf]; omega⟩
   rw [HV.out]
   exact congrArg (Value.int .u64) (by omega)
  ·
   obtain rfl : t = s := by omega
   have hd : decide (t < t) = false := by simp
   have hlast : ys.take t = ys := List.take_of_length_le (by have := HL.out; omega)
   rw [hlast]
   clear hlast
   go_wp2_with fail
   go_ret
   exact ⟨rfl, HR.out⟩
/-! ## upTo -/
theorem upto_short (w : World) (g k : Nat) (xs : List UInt8) (c a : Nat) (h : Rdr w g k xs c a false) (ha : a ≤ xs.length) (m : Int) (s : Nat) (hs : xs.length < a + s) :
  Calls Tryz.prog 269 #[.pointer (some ⟨g, 0, none⟩), .int .i64 m, .int .i64 s] w fun e w' => Unmet e ∧ Below w.heap.size w w' := by
 have HQ := Lib.hid (number_bad w g k xs c a h ha s hs)
 clear h
 go_enter Tryz.func269, Tryz.ntmps269
 go_wp2_with fail
 refine HQ.out.mono ?_
 rintro e w1 ⟨⟨v, rfl⟩, hb⟩
 have HB := Lib.hid hb
 clear hb
 go_wp2_with fail
 exact ⟨rfl, ⟨_, rfl⟩, HB.out⟩
set_option maxRecDepth 100000 in
theorem upto_great (w : World) (g k : Nat) (xs : List UInt8) (c a : Nat) (h : Rdr w g k xs c a false) (m : Int) (s : Nat) (hs : s ≤ 7) (hn : a + s ≤ xs.length) (hm : m < beVal ((xs.drop a).take s)) (h0 : 0 < s := by omega) :
  Calls Tryz.prog 269 #[.pointer (some ⟨g, 0, none⟩), .int .i64 m, .int .i64 s] w fun e w' => Unmet e ∧ Rdr w' g k xs c (a + s) false ∧ Only g w w' none := by
 have HQ := Lib.hid (number_good w g k xs c a h s (by omega) hn h0)
 have hv := beVal_lt ((xs.drop a).take s)
 have hl : ((xs.drop a).take s).length = s := by rw [List.length_take, List.length_drop]; omega
 rw [hl] at hv
 clear h hl
 have h2 : 256 ^ s ≤ 256 ^ 7 := Nat.pow_le_pow_right (by decide) hs
 have h3 : 256 ^ 7 = 2 ^ 56 := by decide
 have hv2 : beVal ((xs.drop a).take s) < 2 ^ 56 := by omega
 clear hv h2 h3
 generalize beVal ((xs.drop a).take s) = v at HQ hm hv2
 have hc : IntKind.i64.wrap (v : Int) = (v : Int) := by rw [IntKind.wrap_i64]; omega
 go_enter Tryz.func269, Tryz.ntmps269
 go_wp2_with fail
 refine HQ.out.mono ?_
 rintro e w1 ⟨rfl, hr⟩
 have HR := Lib.hid hr
 clear hr
 go_wp2_with fail
 exact ⟨rfl, ⟨_, rfl⟩, HR.out⟩
set_option maxRecDepth 100000 in
theorem upto_good (w : World) (g k : Nat) (xs : List UInt8) (c a : Nat) (h : Rdr w g k xs c a false) (m : Int) (s : Nat) (hs : s ≤ 7) (hn : a + s ≤ xs.length) (hm : (beVal ((xs.drop a).take s) : Int) ≤ m) (h0 : 0 < s := by omega) :
  Calls Tryz.prog 269 #[.pointer (some ⟨g, 0, none⟩), .int .i64 m, .int .i64 s] w fun e w' => e = .returned (.int .i64 (beVal ((xs.drop a).take s))) ∧ Rdr w' g k xs c (a + s) false ∧ Only g w w' none := by
 have HQ := Lib.hid (number_good w g k xs c a h s (by omega) hn h0)
 have hv := beVal_lt ((xs.drop a).take s)
 have hl : ((xs.drop a).take s).length = s := by rw [List.length_take, List.length_drop]; omega
 rw [hl] at hv
 clear h hl
 have h2 : 256 ^ s ≤ 256 ^ 7 := Nat.pow_le_pow_right (by decide) hs
 have h3 : 256 ^ 7 = 2 ^ 56 := by decide
 have hv2 : beVal ((xs.drop a).take s) < 2 ^ 56 := by omega
 clear hv h2 h3
 generalize beVal ((xs.drop a).take s) = v at HQ hm hv2 ⊢
 have hc : IntKind.i64.wrap (v : Int) = (v : Int) := by rw [IntKind.wrap_i64]; omega
 have hm2 : ¬ m < v := by omega
 go_enter Tryz.func269, Tryz.ntmps269
 go_wp2_with fail
 refine HQ.out.mono ?_
 rintro e w1 ⟨rfl, hr⟩
 have HR := Lib.hid hr
 clear hr
 go_wp2_with fail
 go_ret
 exact ⟨rfl, HR.out⟩
end Go.Proofs.YtilbbemdinpjcaaGreat.W
