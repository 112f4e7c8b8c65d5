/-
  put, at a writer that takes or is spoilt.
-/
import Derived.Test.YtjbjagdpemnhiaaGreatRawNil
import Derived.Test.YtjbjagdpemnhiaaGreatPutNil
namespace Go.Proofs.YtjbjagdpemnhiaaGreat
open Go.RowKit

/-- What a Put is made of. -/
structure PutV (cs : Array Value) (n0 n1 : Int) (n2 : Nat) (hs : List UInt8) (bv : Value) (s : ByteArray) : Prop where
  size : cs.size = 37
  what : cs[0]? = some (.int .i64 n0)
  num : cs[1]? = some (.int .i64 n1)
  wide : cs[2]? = some (.int .u64 n2)
  wlt : n2 < 18446744073709551616
  hash : (cs.toList.drop 3).take 32 = (B8 hs).toList
  hlen : hs.length = 32
  raw : cs[35]? = some bv
  text : cs[36]? = some (.string s)
  slen : s.size < 9223372036854775808
def stepText (st : Option (List UInt8)) (s : ByteArray) : Option (List UInt8) := if s.size < 65536 then stepB st (beN s.size 2 ++ s.data.toList) else none
def stepFlag (st : Option (List UInt8)) (n : Int) : Option (List UInt8) := stepB st [if n = 1 then 1 else 0]
theorem text_of (w : World) (B g : Nat) (v : Value) (st : Option (List UInt8)) (s : ByteArray) (h : WSt w B g v st) (hB : B ≤ w.heap.size) (hx : ∀ l, st = some l → l.length ≤ 900000) (hs2 : s.size < 9223372036854775808) :
    Calls Tryz.prog 17 #[.pointer (some ⟨g, 0, none⟩), .string s] w fun e w' => e = .returned (.tuple #[]) ∧ MoreO w B g v (stepText st s) w' := text_st w B g v st s h hB hx hs2
theorem flag_of (w : World) (B g : Nat) (v : Value) (st : Option (List UInt8)) (n : Int) (h : WSt w B g v st) (hB : B ≤ w.heap.size) (hx : ∀ l, st = some l → l.length ≤ 1000000) :
    Calls Tryz.prog 18 #[.pointer (some ⟨g, 0, none⟩), .bool (n == 1)] w fun e w' => e = .returned (.tuple #[]) ∧ MoreO w B g v (stepFlag st n) w' := by
  have := flag_st w B g v st (n == 1) h hB hx
  have e : (if (n == 1) = true then (1 : UInt8) else 0) = if n = 1 then 1 else 0 := by by_cases h1 : n = 1 <;> simp [h1]
  rw [e] at this
  exact this
def low64 (n : Int) : Nat := (n % 18446744073709551616).toNat
theorem low64_eq (n : Int) : ((low64 n : Nat) : Int) = n % 18446744073709551616 := by unfold low64; omega
theorem low64_of (n : Nat) (h : n < 18446744073709551616) (z : Int) (hz : IntKind.i64.wrap (n : Int) = z) : (n : Int) = z % 18446744073709551616 := by
  rw [← hz, IntKind.wrap_i64]; omega
theorem Src.below {w w' : World} {g off : Nat} {xs : List UInt8} (h : Src w g off xs) (hb : Below w.heap.size w w') (hg : g < w.heap.size) : Src w' g off xs := fun j hj => (hb.cell (p := ⟨g, off + j, none⟩) hg).trans (h j hj)
theorem RawIn.below {w w' : World} {bv : Value} {xs : List UInt8} (h : RawIn w bv xs) (hb : Below w.heap.size w w') : RawIn w' bv xs := by
  rcases h with h | ⟨ad, c, rfl, hs⟩
  · exact .inl h
  · exact .inr ⟨ad, c, rfl, hs.below hb hs.lt⟩
set_option maxRecDepth 100000 in
theorem put_st0 (w : World) (B g : Nat) (v : Value) (st : Option (List UInt8)) (cs : Array Value) (n0 n1 : Int) (n2 : Nat) (hs xs : List UInt8) (bv : Value) (s : ByteArray) (hV : PutV cs n0 n1 n2 hs bv s) (_hraw : RawIn w bv xs) (hd : n0 % 10 = 0) (h : WSt w B g v st) (hB : B ≤ w.heap.size) (hx : ∀ l, st = some l → l.length + xs.length ≤ 900000) :
    Calls Tryz.prog 9 #[.pointer (some ⟨g, 0, none⟩), .agg cs] w fun e w' => e = .returned (.tuple #[]) ∧ MoreO w B g v (stepN st (low64 n1) 1) w' := by
  have hb : Below w.heap.size w (w.alloc (.cells cs 28)) := (Below.refl _ _).alloc (Nat.le_refl _) _
  have hi := h.below hb
  have hB1 : B ≤ (w.alloc (.cells cs 28)).heap.size := by simp; omega
  have hx0 : ∀ l, st = some l → l.length ≤ 900000 := fun l e => by have := hx l e; omega
  have hx1 : ∀ l, st = some l → l.length ≤ 1000000 := fun l e => by have := hx l e; omega
  have hx2 : ∀ l, st = some l → l.length + xs.length ≤ 2000000 := fun l e => by have := hx l e; omega
  have hl := Lies.new w cs 28
  have c0 := hl.cell 0 hV.what
  have c1 := hl.cell 1 hV.num
  have c2 := hl.cell 2 hV.wide
  have c35 := hl.cell 35 hV.raw
  have c36 := hl.cell 36 hV.text
  have hpk := pick_any n0 (w.alloc (.cells cs 28))
  rw [hd] at hpk
  have hcon := u8_st _ B g v st n1 (low64 n1) hi hB1 hx1 (low64_eq n1)
  have HC := Lib.hid hcon
  have HP := Lib.hid hpk
  have HB := Lib.hid hb
  clear hcon hpk hb hi hB1 hx0 hx1 hx2 hl hd h hx hV
  go_enter Tryz.func9, Tryz.ntmps9
  go_wp2_with fail
  refine HP.out.mono ?_
  rintro e w1 ⟨rfl, rfl⟩
  go_wp2_with fail
  refine (HC.out).mono ?_
  rintro e w2 ⟨rfl, hm⟩
  have HM := Lib.hid hm
  clear hm
  go_wp2_with fail
  go_end0
  exact ⟨rfl, HM.out.after HB.out⟩
set_option maxRecDepth 100000 in
theorem put_st1 (w : World) (B g : Nat) (v : Value) (st : Option (List UInt8)) (cs : Array Value) (n0 n1 : Int) (n2 : Nat) (hs xs : List UInt8) (bv : Value) (s : ByteArray) (hV : PutV cs n0 n1 n2 hs bv s) (_hraw : RawIn w bv xs) (hd : n0 % 10 = 1) (h : WSt w B g v st) (hB : B ≤ w.heap.size) (hx : ∀ l, st = some l → l.length + xs.length ≤ 900000) :
    Calls Tryz.prog 9 #[.pointer (some ⟨g, 0, none⟩), .agg cs] w fun e w' => e = .returned (.tuple #[]) ∧ MoreO w B g v (stepN st (low64 n1) 2) w' := by
  have hb : Below w.heap.size w (w.alloc (.cells cs 28)) := (Below.refl _ _).alloc (Nat.le_refl _) _
  have hi := h.below hb
  have hB1 : B ≤ (w.alloc (.cells cs 28)).heap.size := by simp; omega
  have hx0 : ∀ l, st = some l → l.length ≤ 900000 := fun l e => by have := hx l e; omega
  have hx1 : ∀ l, st = some l → l.length ≤ 1000000 := fun l e => by have := hx l e; omega
  have hx2 : ∀ l, st = some l → l.length + xs.length ≤ 2000000 := fun l e => by have := hx l e; omega
  have hl := Lies.new w cs 28
  have c0 := hl.cell 0 hV.what
  have c1 := hl.cell 1 hV.num
  have c2 := hl.cell 2 hV.wide
  have c35 := hl.cell 35 hV.raw
  have c36 := hl.cell 36 hV.text
  have hpk := pick_any n0 (w.alloc (.cells cs 28))
  rw [hd] at hpk
  have hcon := u16_st _ B g v st n1 (low64 n1) hi hB1 hx1 (low64_eq n1)
  have HC := Lib.hid hcon
  have HP := Lib.hid hpk
  have HB := Lib.hid hb
  clear hcon hpk hb hi hB1 hx0 hx1 hx2 hl hd h hx hV
  go_enter Tryz.func9, Tryz.ntmps9
  go_wp2_with fail
  refine HP.out.mono ?_
  rintro e w1 ⟨rfl, rfl⟩
  go_wp2_with fail
  refine (HC.out).mono ?_
  rintro e w2 ⟨rfl, hm⟩
  have HM := Lib.hid hm
  clear hm
  go_wp2_with fail
  go_end0
  exact ⟨rfl, HM.out.after HB.out⟩
set_option maxRecDepth 100000 in
theorem put_st2 (w : World) (B g : Nat) (v : Value) (st : Option (List UInt8)) (cs : Array Value) (n0 n1 : Int) (n2 : Nat) (hs xs : List UInt8) (bv : Value) (s : ByteArray) (hV : PutV cs n0 n1 n2 hs bv s) (_hraw : RawIn w bv xs) (hd : n0 % 10 = 2) (h : WSt w B g v st) (hB : B ≤ w.heap.size) (hx : ∀ l, st = some l → l.length + xs.length ≤ 900000) :
    Calls Tryz.prog 9 #[.pointer (some ⟨g, 0, none⟩), .agg cs] w fun e w' => e = .returned (.tuple #[]) ∧ MoreO w B g v (stepN st (low64 n1) 4) w' := by
  have hb : Below w.heap.size w (w.alloc (.cells cs 28)) := (Below.refl _ _).alloc (Nat.le_refl _) _
  have hi := h.below hb
  have hB1 : B ≤ (w.alloc (.cells cs 28)).heap.size := by simp; omega
  have hx0 : ∀ l, st = some l → l.length ≤ 900000 := fun l e => by have := hx l e; omega
  have hx1 : ∀ l, st = some l → l.length ≤ 1000000 := fun l e => by have := hx l e; omega
  have hx2 : ∀ l, st = some l → l.length + xs.length ≤ 2000000 := fun l e => by have := hx l e; omega
  have hl := Lies.new w cs 28
  have c0 := hl.cell 0 hV.what
  have c1 := hl.cell 1 hV.num
  have c2 := hl.cell 2 hV.wide
  have c35 := hl.cell 35 hV.raw
  have c36 := hl.cell 36 hV.text
  have hpk := pick_any n0 (w.alloc (.cells cs 28))
  rw [hd] at hpk
  have hcon := u32_st _ B g v st n1 (low64 n1) hi hB1 hx1 (low64_eq n1)
  have HC := Lib.hid hcon
  have HP := Lib.hid hpk
  have HB := Lib.hid hb
  clear hcon hpk hb hi hB1 hx0 hx1 hx2 hl hd h hx hV
  go_enter Tryz.func9, Tryz.ntmps9
  go_wp2_with fail
  refine HP.out.mono ?_
  rintro e w1 ⟨rfl, rfl⟩
  go_wp2_with fail
  refine (HC.out).mono ?_
  rintro e w2 ⟨rfl, hm⟩
  have HM := Lib.hid hm
  clear hm
  go_wp2_with fail
  go_end0
  exact ⟨rfl, HM.out.after HB.out⟩
set_option maxRecDepth 100000 in
theorem put_st3 (w : World) (B g : Nat) (v : Value) (st : Option (List UInt8)) (cs : Array Value) (n0 n1 : Int) (n2 : Nat) (hs xs : List UInt8) (bv : Value) (s : ByteArray) (hV : PutV cs n0 n1 n2 hs bv s) (_hraw : RawIn w bv xs) (hd : n0 % 10 = 3) (h : WSt w B g v st) (hB : B ≤ w.heap.size) (hx : ∀ l, st = some l → l.length + xs.length ≤ 900000) :
    Calls Tryz.prog 9 #[.pointer (some ⟨g, 0, none⟩), .agg cs] w fun e w' => e = .returned (.tuple #[]) ∧ MoreO w B g v (stepN st n2 8) w' := by
  have hb : Below w.heap.size w (w.alloc (.cells cs 28)) := (Below.refl _ _).alloc (Nat.le_refl _) _
  have hi := h.below hb
  have hB1 : B ≤ (w.alloc (.cells cs 28)).heap.size := by simp; omega
  have hx0 : ∀ l, st = some l → l.length ≤ 900000 := fun l e => by have := hx l e; omega
  have hx1 : ∀ l, st = some l → l.length ≤ 1000000 := fun l e => by have := hx l e; omega
  have hx2 : ∀ l, st = some l → l.length + xs.length ≤ 2000000 := fun l e => by have := hx l e; omega
  have hl := Lies.new w cs 28
  have c0 := hl.cell 0 hV.what
  have c1 := hl.cell 1 hV.num
  have c2 := hl.cell 2 hV.wide
  have c35 := hl.cell 35 hV.raw
  have c36 := hl.cell 36 hV.text
  have hpk := pick_any n0 (w.alloc (.cells cs 28))
  rw [hd] at hpk
  have hcon := u64_st _ B g v st n2 hi hB1 hx1 hV.wlt
  have HC := Lib.hid hcon
  have HP := Lib.hid hpk
  have HB := Lib.hid hb
  clear hcon hpk hb hi hB1 hx0 hx1 hx2 hl hd h hx hV
  go_enter Tryz.func9, Tryz.ntmps9
  go_wp2_with fail
  refine HP.out.mono ?_
  rintro e w1 ⟨rfl, rfl⟩
  go_wp2_with fail
  refine (HC.out).mono ?_
  rintro e w2 ⟨rfl, hm⟩
  have HM := Lib.hid hm
  clear hm
  go_wp2_with fail
  go_end0
  exact ⟨rfl, HM.out.after HB.out⟩
set_option maxRecDepth 100000 in
theorem put_st4 (w : World) (B g : Nat) (v : Value) (st : Option (List UInt8)) (cs : Array Value) (n0 n1 : Int) (n2 : Nat) (hs xs : List UInt8) (bv : Value) (s : ByteArray) (hV : PutV cs n0 n1 n2 hs bv s) (_hraw : RawIn w bv xs) (hd : n0 % 10 = 4) (h : WSt w B g v st) (hB : B ≤ w.heap.size) (hx : ∀ l, st = some l → l.length + xs.length ≤ 900000) :
    Calls Tryz.prog 9 #[.pointer (some ⟨g, 0, none⟩), .agg cs] w fun e w' => e = .returned (.tuple #[]) ∧ MoreO w B g v (stepN st n2 8) w' := by
  have hb : Below w.heap.size w (w.alloc (.cells cs 28)) := (Below.refl _ _).alloc (Nat.le_refl _) _
  have hi := h.below hb
  have hB1 : B ≤ (w.alloc (.cells cs 28)).heap.size := by simp; omega
  have hx0 : ∀ l, st = some l → l.length ≤ 900000 := fun l e => by have := hx l e; omega
  have hx1 : ∀ l, st = some l → l.length ≤ 1000000 := fun l e => by have := hx l e; omega
  have hx2 : ∀ l, st = some l → l.length + xs.length ≤ 2000000 := fun l e => by have := hx l e; omega
  have hl := Lies.new w cs 28
  have c0 := hl.cell 0 hV.what
  have c1 := hl.cell 1 hV.num
  have c2 := hl.cell 2 hV.wide
  have c35 := hl.cell 35 hV.raw
  have c36 := hl.cell 36 hV.text
  have hpk := pick_any n0 (w.alloc (.cells cs 28))
  rw [hd] at hpk
  obtain ⟨z, hz⟩ : ∃ z, IntKind.i64.wrap (n2 : Int) = z := ⟨_, rfl⟩
  have hcon := i64_st _ B g v st z n2 hi hB1 hx1 (low64_of n2 hV.wlt z hz)
  have HC := Lib.hid hcon
  have HP := Lib.hid hpk
  have HB := Lib.hid hb
  clear hcon hpk hb hi hB1 hx0 hx1 hx2 hl hd h hx hV
  go_enter Tryz.func9, Tryz.ntmps9
  go_wp2_with fail
  refine HP.out.mono ?_
  rintro e w1 ⟨rfl, rfl⟩
  go_wp2_with fail
  refine (HC.out).mono ?_
  rintro e w2 ⟨rfl, hm⟩
  have HM := Lib.hid hm
  clear hm
  go_wp2_with fail
  go_end0
  exact ⟨rfl, HM.out.after HB.out⟩
set_option maxRecDepth 100000 in
theorem put_st5 (w : World) (B g : Nat) (v : Value) (st : Option (List UInt8)) (cs : Array Value) (n0 n1 : Int) (n2 : Nat) (hs xs : List UInt8) (bv : Value) (s : ByteArray) (hV : PutV cs n0 n1 n2 hs bv s) (_hraw : RawIn w bv xs) (hd : n0 % 10 = 5) (h : WSt w B g v st) (hB : B ≤ w.heap.size) (hx : ∀ l, st = some l → l.length + xs.length ≤ 900000) :
    Calls Tryz.prog 9 #[.pointer (some ⟨g, 0, none⟩), .agg cs] w fun e w' => e = .returned (.tuple #[]) ∧ MoreO w B g v (stepB st hs) w' := by
  have hb : Below w.heap.size w (w.alloc (.cells cs 28)) := (Below.refl _ _).alloc (Nat.le_refl _) _
  have hi := h.below hb
  have hB1 : B ≤ (w.alloc (.cells cs 28)).heap.size := by simp; omega
  have hx0 : ∀ l, st = some l → l.length ≤ 900000 := fun l e => by have := hx l e; omega
  have hx1 : ∀ l, st = some l → l.length ≤ 1000000 := fun l e => by have := hx l e; omega
  have hx2 : ∀ l, st = some l → l.length + xs.length ≤ 2000000 := fun l e => by have := hx l e; omega
  have hl := Lies.new w cs 28
  have c0 := hl.cell 0 hV.what
  have c1 := hl.cell 1 hV.num
  have c2 := hl.cell 2 hV.wide
  have c35 := hl.cell 35 hV.raw
  have c36 := hl.cell 36 hV.text
  have hpk := pick_any n0 (w.alloc (.cells cs 28))
  rw [hd] at hpk
  have hcon := hash_st _ B g v st hs hi hV.hlen hB1 hx1
  have HC := Lib.hid hcon
  have HP := Lib.hid hpk
  have HB := Lib.hid hb
  have hrg := range_of (w := w) hV.size
  rw [hV.hash] at hrg
  have HR := Lib.hid hrg
  have hlen := hV.hlen
  have size33 : (Tryz.prog.info? 25).map (·.size) = some (B8 hs).toList.length := by
    rw [Array.length_toList, B8_size, hV.hlen]; kernel_rfl
  clear hrg
  clear hcon hpk hb hi hB1 hx0 hx1 hx2 hl hd h hx hV
  go_enter Tryz.func9, Tryz.ntmps9
  go_wp2_with fail
  refine HP.out.mono ?_
  rintro e w1 ⟨rfl, rfl⟩
  go_wp2_with (refine wpList_load_mid rfl 25 _ rfl w.heap.size 3 rfl (B8 hs).toList (.array 32 5) HR.out Tryz.underlying25 rfl size33 ?_)
  refine (HC.out).mono ?_
  rintro e w2 ⟨rfl, hm⟩
  have HM := Lib.hid hm
  clear hm
  go_wp2_with fail
  go_end0
  exact ⟨rfl, HM.out.after HB.out⟩
set_option maxRecDepth 100000 in
theorem put_st6 (w : World) (B g : Nat) (v : Value) (st : Option (List UInt8)) (cs : Array Value) (n0 n1 : Int) (n2 : Nat) (hs xs : List UInt8) (bv : Value) (s : ByteArray) (hV : PutV cs n0 n1 n2 hs bv s) (hraw : RawIn w bv xs) (hd : n0 % 10 = 6) (h : WSt w B g v st) (hB : B ≤ w.heap.size) (hx : ∀ l, st = some l → l.length + xs.length ≤ 900000) :
    Calls Tryz.prog 9 #[.pointer (some ⟨g, 0, none⟩), .agg cs] w fun e w' => e = .returned (.tuple #[]) ∧ MoreO w B g v (stepB st xs) w' := by
  have hb : Below w.heap.size w (w.alloc (.cells cs 28)) := (Below.refl _ _).alloc (Nat.le_refl _) _
  have hi := h.below hb
  have hB1 : B ≤ (w.alloc (.cells cs 28)).heap.size := by simp; omega
  have hx0 : ∀ l, st = some l → l.length ≤ 900000 := fun l e => by have := hx l e; omega
  have hx1 : ∀ l, st = some l → l.length ≤ 1000000 := fun l e => by have := hx l e; omega
  have hx2 : ∀ l, st = some l → l.length + xs.length ≤ 2000000 := fun l e => by have := hx l e; omega
  have hl := Lies.new w cs 28
  have c0 := hl.cell 0 hV.what
  have c1 := hl.cell 1 hV.num
  have c2 := hl.cell 2 hV.wide
  have c35 := hl.cell 35 hV.raw
  have c36 := hl.cell 36 hV.text
  have hpk := pick_any n0 (w.alloc (.cells cs 28))
  rw [hd] at hpk
  have hcon := raw_in _ B g v bv st xs hi (hraw.below hb) hB1 hx2
  have HC := Lib.hid hcon
  have HP := Lib.hid hpk
  have HB := Lib.hid hb
  clear hcon hpk hb hi hB1 hx0 hx1 hx2 hl hd h hraw hx hV
  go_enter Tryz.func9, Tryz.ntmps9
  go_wp2_with fail
  refine HP.out.mono ?_
  rintro e w1 ⟨rfl, rfl⟩
  go_wp2_with fail
  refine (HC.out).mono ?_
  rintro e w2 ⟨rfl, hm⟩
  have HM := Lib.hid hm
  clear hm
  go_wp2_with fail
  go_end0
  exact ⟨rfl, HM.out.after HB.out⟩
set_option maxRecDepth 100000 in
theorem put_st7 (w : World) (B g : Nat) (v : Value) (st : Option (List UInt8)) (cs : Array Value) (n0 n1 : Int) (n2 : Nat) (hs xs : List UInt8) (bv : Value) (s : ByteArray) (hV : PutV cs n0 n1 n2 hs bv s) (_hraw : RawIn w bv xs) (hd : n0 % 10 = 7) (h : WSt w B g v st) (hB : B ≤ w.heap.size) (hx : ∀ l, st = some l → l.length + xs.length ≤ 900000) :
    Calls Tryz.prog 9 #[.pointer (some ⟨g, 0, none⟩), .agg cs] w fun e w' => e = .returned (.tuple #[]) ∧ MoreO w B g v (stepText st s) w' := by
  have hb : Below w.heap.size w (w.alloc (.cells cs 28)) := (Below.refl _ _).alloc (Nat.le_refl _) _
  have hi := h.below hb
  have hB1 : B ≤ (w.alloc (.cells cs 28)).heap.size := by simp; omega
  have hx0 : ∀ l, st = some l → l.length ≤ 900000 := fun l e => by have := hx l e; omega
  have hx1 : ∀ l, st = some l → l.length ≤ 1000000 := fun l e => by have := hx l e; omega
  have hx2 : ∀ l, st = some l → l.length + xs.length ≤ 2000000 := fun l e => by have := hx l e; omega
  have hl := Lies.new w cs 28
  have c0 := hl.cell 0 hV.what
  have c1 := hl.cell 1 hV.num
  have c2 := hl.cell 2 hV.wide
  have c35 := hl.cell 35 hV.raw
  have c36 := hl.cell 36 hV.text
  have hpk := pick_any n0 (w.alloc (.cells cs 28))
  rw [hd] at hpk
  have hcon := text_of _ B g v st s hi hB1 hx0 hV.slen
  have HC := Lib.hid hcon
  have HP := Lib.hid hpk
  have HB := Lib.hid hb
  clear hcon hpk hb hi hB1 hx0 hx1 hx2 hl hd h hx hV
  go_enter Tryz.func9, Tryz.ntmps9
  go_wp2_with fail
  refine HP.out.mono ?_
  rintro e w1 ⟨rfl, rfl⟩
  go_wp2_with fail
  refine (HC.out).mono ?_
  rintro e w2 ⟨rfl, hm⟩
  have HM := Lib.hid hm
  clear hm
  go_wp2_with fail
  go_end0
  exact ⟨rfl, HM.out.after HB.out⟩
set_option maxRecDepth 100000 in
theorem put_st8 (w : World) (B g : Nat) (v : Value) (st : Option (List UInt8)) (cs : Array Value) (n0 n1 : Int) (n2 : Nat) (hs xs : List UInt8) (bv : Value) (s : ByteArray) (hV : PutV cs n0 n1 n2 hs bv s) (_hraw : RawIn w bv xs) (hd : n0 % 10 = 8) (h : WSt w B g v st) (hB : B ≤ w.heap.size) (hx : ∀ l, st = some l → l.length + xs.length ≤ 900000) :
    Calls Tryz.prog 9 #[.pointer (some ⟨g, 0, none⟩), .agg cs] w fun e w' => e = .returned (.tuple #[]) ∧ MoreO w B g v (stepFlag st n1) w' := by
  have hb : Below w.heap.size w (w.alloc (.cells cs 28)) := (Below.refl _ _).alloc (Nat.le_refl _) _
  have hi := h.below hb
  have hB1 : B ≤ (w.alloc (.cells cs 28)).heap.size := by simp; omega
  have hx0 : ∀ l, st = some l → l.length ≤ 900000 := fun l e => by have := hx l e; omega
  have hx1 : ∀ l, st = some l → l.length ≤ 1000000 := fun l e => by have := hx l e; omega
  have hx2 : ∀ l, st = some l → l.length + xs.length ≤ 2000000 := fun l e => by have := hx l e; omega
  have hl := Lies.new w cs 28
  have c0 := hl.cell 0 hV.what
  have c1 := hl.cell 1 hV.num
  have c2 := hl.cell 2 hV.wide
  have c35 := hl.cell 35 hV.raw
  have c36 := hl.cell 36 hV.text
  have hpk := pick_any n0 (w.alloc (.cells cs 28))
  rw [hd] at hpk
  have hcon := flag_of _ B g v st n1 hi hB1 hx1
  have HC := Lib.hid hcon
  have HP := Lib.hid hpk
  have HB := Lib.hid hb
  clear hcon hpk hb hi hB1 hx0 hx1 hx2 hl hd h hx hV
  go_enter Tryz.func9, Tryz.ntmps9
  go_wp2_with fail
  refine HP.out.mono ?_
  rintro e w1 ⟨rfl, rfl⟩
  go_wp2_with fail
  refine (HC.out).mono ?_
  rintro e w2 ⟨rfl, hm⟩
  have HM := Lib.hid hm
  clear hm
  go_wp2_with fail
  go_end0
  exact ⟨rfl, HM.out.after HB.out⟩
set_option maxRecDepth 100000 in
theorem put_st9 (w : World) (B g : Nat) (v : Value) (st : Option (List UInt8)) (cs : Array Value) (n0 n1 : Int) (n2 : Nat) (hs xs : List UInt8) (bv : Value) (s : ByteArray) (hV : PutV cs n0 n1 n2 hs bv s) (_hraw : RawIn w bv xs) (hd : n0 % 10 = 9) (h : WSt w B g v st) (hB : B ≤ w.heap.size) (hx : ∀ l, st = some l → l.length + xs.length ≤ 900000) :
    Calls Tryz.prog 9 #[.pointer (some ⟨g, 0, none⟩), .agg cs] w fun e w' => e = .returned (.tuple #[]) ∧ MoreO w B g v (if n1 = 7 then none else st) w' := by
  have hb : Below w.heap.size w (w.alloc (.cells cs 28)) := (Below.refl _ _).alloc (Nat.le_refl _) _
  have hi := h.below hb
  have hB1 : B ≤ (w.alloc (.cells cs 28)).heap.size := by simp; omega
  have hx0 : ∀ l, st = some l → l.length ≤ 900000 := fun l e => by have := hx l e; omega
  have hx1 : ∀ l, st = some l → l.length ≤ 1000000 := fun l e => by have := hx l e; omega
  have hx2 : ∀ l, st = some l → l.length + xs.length ≤ 2000000 := fun l e => by have := hx l e; omega
  have hl := Lies.new w cs 28
  have c0 := hl.cell 0 hV.what
  have c1 := hl.cell 1 hV.num
  have c2 := hl.cell 2 hV.wide
  have c35 := hl.cell 35 hV.raw
  have c36 := hl.cell 36 hV.text
  have hpk := pick_any n0 (w.alloc (.cells cs 28))
  rw [hd] at hpk
  have hcon := spoil_st _ B g v st hi
  have HC := Lib.hid hcon
  have HI := Lib.hid hi
  have HP := Lib.hid hpk
  have HB := Lib.hid hb
  clear hcon hpk hb hi hB1 hx0 hx1 hx2 hl hd h hx hV
  by_cases h7 : n1 = 7
  · rw [if_pos h7]
    subst h7
    go_enter Tryz.func9, Tryz.ntmps9
    go_wp2_with fail
    refine HP.out.mono ?_
    rintro e w1 ⟨rfl, rfl⟩
    go_wp2_with fail
    refine HC.out.mono ?_
    rintro e w2 ⟨rfl, hm⟩
    have HM := Lib.hid hm
    clear hm
    go_wp2_with fail
    go_end0
    exact ⟨rfl, HM.out.after HB.out⟩
  · rw [if_neg h7]
    go_enter Tryz.func9, Tryz.ntmps9
    go_wp2_with fail
    refine HP.out.mono ?_
    rintro e w1 ⟨rfl, rfl⟩
    go_wp2_with fail
    go_end0
    exact ⟨rfl, (MoreO.same HI.out).after HB.out⟩
def stepPut (st : Option (List UInt8)) (n0 n1 : Int) (n2 : Nat) (hs xs : List UInt8) (s : ByteArray) : Option (List UInt8) :=
  if n0 % 10 = 0 then stepN st (low64 n1) 1 else
  if n0 % 10 = 1 then stepN st (low64 n1) 2 else
  if n0 % 10 = 2 then stepN st (low64 n1) 4 else
  if n0 % 10 = 3 then stepN st n2 8 else
  if n0 % 10 = 4 then stepN st n2 8 else
  if n0 % 10 = 5 then stepB st hs else
  if n0 % 10 = 6 then stepB st xs else
  if n0 % 10 = 7 then stepText st s else
  if n0 % 10 = 8 then stepFlag st n1 else
  if n1 = 7 then none else st
theorem put_st (w : World) (B g : Nat) (v : Value) (st : Option (List UInt8)) (cs : Array Value) (n0 n1 : Int) (n2 : Nat) (hs xs : List UInt8) (bv : Value) (s : ByteArray) (hV : PutV cs n0 n1 n2 hs bv s) (hraw : RawIn w bv xs) (h : WSt w B g v st) (hB : B ≤ w.heap.size) (hx : ∀ l, st = some l → l.length + xs.length ≤ 900000) :
    Calls Tryz.prog 9 #[.pointer (some ⟨g, 0, none⟩), .agg cs] w fun e w' => e = .returned (.tuple #[]) ∧ MoreO w B g v (stepPut st n0 n1 n2 hs xs s) w' := by
  have hd : n0 % 10 = 0 ∨ n0 % 10 = 1 ∨ n0 % 10 = 2 ∨ n0 % 10 = 3 ∨ n0 % 10 = 4 ∨ n0 % 10 = 5 ∨ n0 % 10 = 6 ∨ n0 % 10 = 7 ∨ n0 % 10 = 8 ∨ n0 % 10 = 9 := by omega
  rcases hd with hd | hd | hd | hd | hd | hd | hd | hd | hd | hd
  · have := put_st0 w B g v st cs n0 n1 n2 hs xs bv s hV hraw hd h hB hx
    rwa [show stepPut st n0 n1 n2 hs xs s = stepN st (low64 n1) 1 by simp [stepPut, hd]]
  · have := put_st1 w B g v st cs n0 n1 n2 hs xs bv s hV hraw hd h hB hx
    rwa [show stepPut st n0 n1 n2 hs xs s = stepN st (low64 n1) 2 by simp [stepPut, hd]]
  · have := put_st2 w B g v st cs n0 n1 n2 hs xs bv s hV hraw hd h hB hx
    rwa [show stepPut st n0 n1 n2 hs xs s = stepN st (low64 n1) 4 by simp [stepPut, hd]]
  · have := put_st3 w B g v st cs n0 n1 n2 hs xs bv s hV hraw hd h hB hx
    rwa [show stepPut st n0 n1 n2 hs xs s = stepN st n2 8 by simp [stepPut, hd]]
  · have := put_st4 w B g v st cs n0 n1 n2 hs xs bv s hV hraw hd h hB hx
    rwa [show stepPut st n0 n1 n2 hs xs s = stepN st n2 8 by simp [stepPut, hd]]
  · have := put_st5 w B g v st cs n0 n1 n2 hs xs bv s hV hraw hd h hB hx
    rwa [show stepPut st n0 n1 n2 hs xs s = stepB st hs by simp [stepPut, hd]]
  · have := put_st6 w B g v st cs n0 n1 n2 hs xs bv s hV hraw hd h hB hx
    rwa [show stepPut st n0 n1 n2 hs xs s = stepB st xs by simp [stepPut, hd]]
  · have := put_st7 w B g v st cs n0 n1 n2 hs xs bv s hV hraw hd h hB hx
    rwa [show stepPut st n0 n1 n2 hs xs s = stepText st s by simp [stepPut, hd]]
  · have := put_st8 w B g v st cs n0 n1 n2 hs xs bv s hV hraw hd h hB hx
    rwa [show stepPut st n0 n1 n2 hs xs s = stepFlag st n1 by simp [stepPut, hd]]
  · have := put_st9 w B g v st cs n0 n1 n2 hs xs bv s hV hraw hd h hB hx
    rwa [show stepPut st n0 n1 n2 hs xs s = (if n1 = 7 then none else st) by simp [stepPut, hd]]
end Go.Proofs.YtjbjagdpemnhiaaGreat
