/-
  wanted: the same, at the document's own writer.
-/
import Derived.Test.YtjbjagdpemnhiaaGreatRef4
namespace Go.Proofs.YtjbjagdpemnhiaaGreat
open Go.RowKit

set_option maxRecDepth 100000 in
theorem want_st0 (w : World) (B g : Nat) (v : Value) (st : Option (List UInt8)) (cs : Array Value) (n0 n1 : Int) (n2 : Nat) (hs xs : List UInt8) (bv : Value) (s : ByteArray) (hV : PutV cs n0 n1 n2 hs bv s) (_hraw : RawIn w bv xs) (hd : n0 % 10 = 0) (h : RfS w B g v st) (hB : B ≤ w.heap.size) (hlo : -9223372036854775808 ≤ n1) (hhi : n1 < 9223372036854775808) (hx : ∀ l, st = some l → l.length + xs.length ≤ 900000) (_hs3 : ∀ l, st = some l → l.length + s.size ≤ 1000000) :
    Calls Tryz.prog 10 #[.pointer (some ⟨g, 0, none⟩), .agg cs] w fun e w' => e = .returned (.tuple #[]) ∧ RMoreO w B g v (stepN st (low64 n1) 1) w' := by
  have hb : Below w.heap.size w (w.alloc (.cells cs 28)) := (Below.refl _ _).alloc (Nat.le_refl _) _
  have hi := h.below hb
  have hB1 : B ≤ (w.alloc (.cells cs 28)).heap.size := by simp; omega
  have hx0 : ∀ l, st = some l → l.length ≤ 900000 := fun l e => by have := hx l e; omega
  have hx1 : ∀ l, st = some l → l.length ≤ 1000000 := fun l e => by have := hx l e; omega
  have hx2 : ∀ l, st = some l → l.length + xs.length ≤ 2000000 := fun l e => by have := hx l e; omega
  have hl := Lies.new w cs 28
  have c0 := hl.cell 0 hV.what
  have c1 := hl.cell 1 hV.num
  have c2 := hl.cell 2 hV.wide
  have c35 := hl.cell 35 hV.raw
  have c36 := hl.cell 36 hV.text
  have hpk := pick_any n0 (w.alloc (.cells cs 28))
  rw [hd] at hpk
  have hcon := ru8_st _ B g v st n1 hlo hhi hi hB1 hx1
  have HC := Lib.hid hcon
  have HP := Lib.hid hpk
  have HB := Lib.hid hb
  clear hcon hpk hb hi hB1 hx0 hx1 hx2 hl hd h hx hlo hhi hV
  go_enter Tryz.func10, Tryz.ntmps10
  go_wp2_with fail
  refine HP.out.mono ?_
  rintro e w1 ⟨rfl, rfl⟩
  go_wp2_with fail
  refine (HC.out).mono ?_
  rintro e w2 ⟨rfl, hm⟩
  have HM := Lib.hid hm
  clear hm
  go_wp2_with fail
  go_end0
  exact ⟨rfl, HM.out.after HB.out⟩
set_option maxRecDepth 100000 in
theorem want_st1 (w : World) (B g : Nat) (v : Value) (st : Option (List UInt8)) (cs : Array Value) (n0 n1 : Int) (n2 : Nat) (hs xs : List UInt8) (bv : Value) (s : ByteArray) (hV : PutV cs n0 n1 n2 hs bv s) (_hraw : RawIn w bv xs) (hd : n0 % 10 = 1) (h : RfS w B g v st) (hB : B ≤ w.heap.size) (hlo : -9223372036854775808 ≤ n1) (hhi : n1 < 9223372036854775808) (hx : ∀ l, st = some l → l.length + xs.length ≤ 900000) (_hs3 : ∀ l, st = some l → l.length + s.size ≤ 1000000) :
    Calls Tryz.prog 10 #[.pointer (some ⟨g, 0, none⟩), .agg cs] w fun e w' => e = .returned (.tuple #[]) ∧ RMoreO w B g v (stepN st (low64 n1) 2) w' := by
  have hb : Below w.heap.size w (w.alloc (.cells cs 28)) := (Below.refl _ _).alloc (Nat.le_refl _) _
  have hi := h.below hb
  have hB1 : B ≤ (w.alloc (.cells cs 28)).heap.size := by simp; omega
  have hx0 : ∀ l, st = some l → l.length ≤ 900000 := fun l e => by have := hx l e; omega
  have hx1 : ∀ l, st = some l → l.length ≤ 1000000 := fun l e => by have := hx l e; omega
  have hx2 : ∀ l, st = some l → l.length + xs.length ≤ 2000000 := fun l e => by have := hx l e; omega
  have hl := Lies.new w cs 28
  have c0 := hl.cell 0 hV.what
  have c1 := hl.cell 1 hV.num
  have c2 := hl.cell 2 hV.wide
  have c35 := hl.cell 35 hV.raw
  have c36 := hl.cell 36 hV.text
  have hpk := pick_any n0 (w.alloc (.cells cs 28))
  rw [hd] at hpk
  have hcon := ru16_st _ B g v st n1 hlo hhi hi hB1 hx1
  have HC := Lib.hid hcon
  have HP := Lib.hid hpk
  have HB := Lib.hid hb
  clear hcon hpk hb hi hB1 hx0 hx1 hx2 hl hd h hx hlo hhi hV
  go_enter Tryz.func10, Tryz.ntmps10
  go_wp2_with fail
  refine HP.out.mono ?_
  rintro e w1 ⟨rfl, rfl⟩
  go_wp2_with fail
  refine (HC.out).mono ?_
  rintro e w2 ⟨rfl, hm⟩
  have HM := Lib.hid hm
  clear hm
  go_wp2_with fail
  go_end0
  exact ⟨rfl, HM.out.after HB.out⟩
set_option maxRecDepth 100000 in
theorem want_st2 (w : World) (B g : Nat) (v : Value) (st : Option (List UInt8)) (cs : Array Value) (n0 n1 : Int) (n2 : Nat) (hs xs : List UInt8) (bv : Value) (s : ByteArray) (hV : PutV cs n0 n1 n2 hs bv s) (_hraw : RawIn w bv xs) (hd : n0 % 10 = 2) (h : RfS w B g v st) (hB : B ≤ w.heap.size) (hlo : -9223372036854775808 ≤ n1) (hhi : n1 < 9223372036854775808) (hx : ∀ l, st = some l → l.length + xs.length ≤ 900000) (_hs3 : ∀ l, st = some l → l.length + s.size ≤ 1000000) :
    Calls Tryz.prog 10 #[.pointer (some ⟨g, 0, none⟩), .agg cs] w fun e w' => e = .returned (.tuple #[]) ∧ RMoreO w B g v (stepN st (low64 n1) 4) w' := by
  have hb : Below w.heap.size w (w.alloc (.cells cs 28)) := (Below.refl _ _).alloc (Nat.le_refl _) _
  have hi := h.below hb
  have hB1 : B ≤ (w.alloc (.cells cs 28)).heap.size := by simp; omega
  have hx0 : ∀ l, st = some l → l.length ≤ 900000 := fun l e => by have := hx l e; omega
  have hx1 : ∀ l, st = some l → l.length ≤ 1000000 := fun l e => by have := hx l e; omega
  have hx2 : ∀ l, st = some l → l.length + xs.length ≤ 2000000 := fun l e => by have := hx l e; omega
  have hl := Lies.new w cs 28
  have c0 := hl.cell 0 hV.what
  have c1 := hl.cell 1 hV.num
  have c2 := hl.cell 2 hV.wide
  have c35 := hl.cell 35 hV.raw
  have c36 := hl.cell 36 hV.text
  have hpk := pick_any n0 (w.alloc (.cells cs 28))
  rw [hd] at hpk
  have hcon := ru32_st _ B g v st n1 hlo hhi hi hB1 hx1
  have HC := Lib.hid hcon
  have HP := Lib.hid hpk
  have HB := Lib.hid hb
  clear hcon hpk hb hi hB1 hx0 hx1 hx2 hl hd h hx hlo hhi hV
  go_enter Tryz.func10, Tryz.ntmps10
  go_wp2_with fail
  refine HP.out.mono ?_
  rintro e w1 ⟨rfl, rfl⟩
  go_wp2_with fail
  refine (HC.out).mono ?_
  rintro e w2 ⟨rfl, hm⟩
  have HM := Lib.hid hm
  clear hm
  go_wp2_with fail
  go_end0
  exact ⟨rfl, HM.out.after HB.out⟩
set_option maxRecDepth 100000 in
theorem want_st3 (w : World) (B g : Nat) (v : Value) (st : Option (List UInt8)) (cs : Array Value) (n0 n1 : Int) (n2 : Nat) (hs xs : List UInt8) (bv : Value) (s : ByteArray) (hV : PutV cs n0 n1 n2 hs bv s) (_hraw : RawIn w bv xs) (hd : n0 % 10 = 3) (h : RfS w B g v st) (hB : B ≤ w.heap.size) (_hlo : -9223372036854775808 ≤ n1) (_hhi : n1 < 9223372036854775808) (hx : ∀ l, st = some l → l.length + xs.length ≤ 900000) (_hs3 : ∀ l, st = some l → l.length + s.size ≤ 1000000) :
    Calls Tryz.prog 10 #[.pointer (some ⟨g, 0, none⟩), .agg cs] w fun e w' => e = .returned (.tuple #[]) ∧ RMoreO w B g v (stepN st n2 8) w' := by
  have hb : Below w.heap.size w (w.alloc (.cells cs 28)) := (Below.refl _ _).alloc (Nat.le_refl _) _
  have hi := h.below hb
  have hB1 : B ≤ (w.alloc (.cells cs 28)).heap.size := by simp; omega
  have hx0 : ∀ l, st = some l → l.length ≤ 900000 := fun l e => by have := hx l e; omega
  have hx1 : ∀ l, st = some l → l.length ≤ 1000000 := fun l e => by have := hx l e; omega
  have hx2 : ∀ l, st = some l → l.length + xs.length ≤ 2000000 := fun l e => by have := hx l e; omega
  have hl := Lies.new w cs 28
  have c0 := hl.cell 0 hV.what
  have c1 := hl.cell 1 hV.num
  have c2 := hl.cell 2 hV.wide
  have c35 := hl.cell 35 hV.raw
  have c36 := hl.cell 36 hV.text
  have hpk := pick_any n0 (w.alloc (.cells cs 28))
  rw [hd] at hpk
  have hcon := ru64_st _ B g v st n2 hi hB1 hx1 hV.wlt
  have HC := Lib.hid hcon
  have HP := Lib.hid hpk
  have HB := Lib.hid hb
  clear hcon hpk hb hi hB1 hx0 hx1 hx2 hl hd h hx hV
  go_enter Tryz.func10, Tryz.ntmps10
  go_wp2_with fail
  refine HP.out.mono ?_
  rintro e w1 ⟨rfl, rfl⟩
  go_wp2_with fail
  refine (HC.out).mono ?_
  rintro e w2 ⟨rfl, hm⟩
  have HM := Lib.hid hm
  clear hm
  go_wp2_with fail
  go_end0
  exact ⟨rfl, HM.out.after HB.out⟩
set_option maxRecDepth 100000 in
theorem want_st4 (w : World) (B g : Nat) (v : Value) (st : Option (List UInt8)) (cs : Array Value) (n0 n1 : Int) (n2 : Nat) (hs xs : List UInt8) (bv : Value) (s : ByteArray) (hV : PutV cs n0 n1 n2 hs bv s) (_hraw : RawIn w bv xs) (hd : n0 % 10 = 4) (h : RfS w B g v st) (hB : B ≤ w.heap.size) (_hlo : -9223372036854775808 ≤ n1) (_hhi : n1 < 9223372036854775808) (hx : ∀ l, st = some l → l.length + xs.length ≤ 900000) (_hs3 : ∀ l, st = some l → l.length + s.size ≤ 1000000) :
    Calls Tryz.prog 10 #[.pointer (some ⟨g, 0, none⟩), .agg cs] w fun e w' => e = .returned (.tuple #[]) ∧ RMoreO w B g v (stepN st n2 8) w' := by
  have hb : Below w.heap.size w (w.alloc (.cells cs 28)) := (Below.refl _ _).alloc (Nat.le_refl _) _
  have hi := h.below hb
  have hB1 : B ≤ (w.alloc (.cells cs 28)).heap.size := by simp; omega
  have hx0 : ∀ l, st = some l → l.length ≤ 900000 := fun l e => by have := hx l e; omega
  have hx1 : ∀ l, st = some l → l.length ≤ 1000000 := fun l e => by have := hx l e; omega
  have hx2 : ∀ l, st = some l → l.length + xs.length ≤ 2000000 := fun l e => by have := hx l e; omega
  have hl := Lies.new w cs 28
  have c0 := hl.cell 0 hV.what
  have c1 := hl.cell 1 hV.num
  have c2 := hl.cell 2 hV.wide
  have c35 := hl.cell 35 hV.raw
  have c36 := hl.cell 36 hV.text
  have hpk := pick_any n0 (w.alloc (.cells cs 28))
  rw [hd] at hpk
  obtain ⟨z, hz⟩ : ∃ z, IntKind.i64.wrap (n2 : Int) = z := ⟨_, rfl⟩
  have hcon := ri64_st _ B g v st z n2 hi hB1 hx1 (low64_of n2 hV.wlt z hz)
  have HC := Lib.hid hcon
  have HP := Lib.hid hpk
  have HB := Lib.hid hb
  clear hcon hpk hb hi hB1 hx0 hx1 hx2 hl hd h hx hV
  go_enter Tryz.func10, Tryz.ntmps10
  go_wp2_with fail
  refine HP.out.mono ?_
  rintro e w1 ⟨rfl, rfl⟩
  go_wp2_with fail
  refine (HC.out).mono ?_
  rintro e w2 ⟨rfl, hm⟩
  have HM := Lib.hid hm
  clear hm
  go_wp2_with fail
  go_end0
  exact ⟨rfl, HM.out.after HB.out⟩
set_option maxRecDepth 100000 in
theorem want_st5 (w : World) (B g : Nat) (v : Value) (st : Option (List UInt8)) (cs : Array Value) (n0 n1 : Int) (n2 : Nat) (hs xs : List UInt8) (bv : Value) (s : ByteArray) (hV : PutV cs n0 n1 n2 hs bv s) (_hraw : RawIn w bv xs) (hd : n0 % 10 = 5) (h : RfS w B g v st) (hB : B ≤ w.heap.size) (_hlo : -9223372036854775808 ≤ n1) (_hhi : n1 < 9223372036854775808) (hx : ∀ l, st = some l → l.length + xs.length ≤ 900000) (_hs3 : ∀ l, st = some l → l.length + s.size ≤ 1000000) :
    Calls Tryz.prog 10 #[.pointer (some ⟨g, 0, none⟩), .agg cs] w fun e w' => e = .returned (.tuple #[]) ∧ RMoreO w B g v (stepB st hs) w' := by
  have hb : Below w.heap.size w (w.alloc (.cells cs 28)) := (Below.refl _ _).alloc (Nat.le_refl _) _
  have hi := h.below hb
  have hB1 : B ≤ (w.alloc (.cells cs 28)).heap.size := by simp; omega
  have hx0 : ∀ l, st = some l → l.length ≤ 900000 := fun l e => by have := hx l e; omega
  have hx1 : ∀ l, st = some l → l.length ≤ 1000000 := fun l e => by have := hx l e; omega
  have hx2 : ∀ l, st = some l → l.length + xs.length ≤ 2000000 := fun l e => by have := hx l e; omega
  have hl := Lies.new w cs 28
  have c0 := hl.cell 0 hV.what
  have c1 := hl.cell 1 hV.num
  have c2 := hl.cell 2 hV.wide
  have c35 := hl.cell 35 hV.raw
  have c36 := hl.cell 36 hV.text
  have hpk := pick_any n0 (w.alloc (.cells cs 28))
  rw [hd] at hpk
  have hcon := rhash_st _ B g v st hs hi hV.hlen hB1 hx1
  have HC := Lib.hid hcon
  have HP := Lib.hid hpk
  have HB := Lib.hid hb
  have hrg := range_of (w := w) hV.size
  rw [hV.hash] at hrg
  have HR := Lib.hid hrg
  have hlen := hV.hlen
  have size33 : (Tryz.prog.info? 25).map (·.size) = some (B8 hs).toList.length := by
    rw [Array.length_toList, B8_size, hV.hlen]; kernel_rfl
  clear hrg
  clear hcon hpk hb hi hB1 hx0 hx1 hx2 hl hd h hx hV
  go_enter Tryz.func10, Tryz.ntmps10
  go_wp2_with fail
  refine HP.out.mono ?_
  rintro e w1 ⟨rfl, rfl⟩
  go_wp2_with (refine wpList_load_mid rfl 25 _ rfl w.heap.size 3 rfl (B8 hs).toList (.array 32 5) HR.out Tryz.underlying25 rfl size33 ?_)
  refine (HC.out).mono ?_
  rintro e w2 ⟨rfl, hm⟩
  have HM := Lib.hid hm
  clear hm
  go_wp2_with fail
  go_end0
  exact ⟨rfl, HM.out.after HB.out⟩
set_option maxRecDepth 100000 in
theorem want_st6 (w : World) (B g : Nat) (v : Value) (st : Option (List UInt8)) (cs : Array Value) (n0 n1 : Int) (n2 : Nat) (hs xs : List UInt8) (bv : Value) (s : ByteArray) (hV : PutV cs n0 n1 n2 hs bv s) (hraw : RawIn w bv xs) (hd : n0 % 10 = 6) (h : RfS w B g v st) (hB : B ≤ w.heap.size) (_hlo : -9223372036854775808 ≤ n1) (_hhi : n1 < 9223372036854775808) (hx : ∀ l, st = some l → l.length + xs.length ≤ 900000) (_hs3 : ∀ l, st = some l → l.length + s.size ≤ 1000000) :
    Calls Tryz.prog 10 #[.pointer (some ⟨g, 0, none⟩), .agg cs] w fun e w' => e = .returned (.tuple #[]) ∧ RMoreO w B g v (stepB st xs) w' := by
  have hb : Below w.heap.size w (w.alloc (.cells cs 28)) := (Below.refl _ _).alloc (Nat.le_refl _) _
  have hi := h.below hb
  have hB1 : B ≤ (w.alloc (.cells cs 28)).heap.size := by simp; omega
  have hx0 : ∀ l, st = some l → l.length ≤ 900000 := fun l e => by have := hx l e; omega
  have hx1 : ∀ l, st = some l → l.length ≤ 1000000 := fun l e => by have := hx l e; omega
  have hx2 : ∀ l, st = some l → l.length + xs.length ≤ 2000000 := fun l e => by have := hx l e; omega
  have hl := Lies.new w cs 28
  have c0 := hl.cell 0 hV.what
  have c1 := hl.cell 1 hV.num
  have c2 := hl.cell 2 hV.wide
  have c35 := hl.cell 35 hV.raw
  have c36 := hl.cell 36 hV.text
  have hpk := pick_any n0 (w.alloc (.cells cs 28))
  rw [hd] at hpk
  have hcon := rraw_in _ B g v bv st xs hi (hraw.below hb) hB1 hx2
  have HC := Lib.hid hcon
  have HP := Lib.hid hpk
  have HB := Lib.hid hb
  clear hcon hpk hb hi hB1 hx0 hx1 hx2 hl hd h hraw hx hV
  go_enter Tryz.func10, Tryz.ntmps10
  go_wp2_with fail
  refine HP.out.mono ?_
  rintro e w1 ⟨rfl, rfl⟩
  go_wp2_with fail
  refine (HC.out).mono ?_
  rintro e w2 ⟨rfl, hm⟩
  have HM := Lib.hid hm
  clear hm
  go_wp2_with fail
  go_end0
  exact ⟨rfl, HM.out.after HB.out⟩
set_option maxRecDepth 100000 in
theorem want_st7 (w : World) (B g : Nat) (v : Value) (st : Option (List UInt8)) (cs : Array Value) (n0 n1 : Int) (n2 : Nat) (hs xs : List UInt8) (bv : Value) (s : ByteArray) (hV : PutV cs n0 n1 n2 hs bv s) (_hraw : RawIn w bv xs) (hd : n0 % 10 = 7) (h : RfS w B g v st) (hB : B ≤ w.heap.size) (_hlo : -9223372036854775808 ≤ n1) (_hhi : n1 < 9223372036854775808) (hx : ∀ l, st = some l → l.length + xs.length ≤ 900000) (hs3 : ∀ l, st = some l → l.length + s.size ≤ 1000000) :
    Calls Tryz.prog 10 #[.pointer (some ⟨g, 0, none⟩), .agg cs] w fun e w' => e = .returned (.tuple #[]) ∧ RMoreO w B g v (stepText st s) w' := by
  have hb : Below w.heap.size w (w.alloc (.cells cs 28)) := (Below.refl _ _).alloc (Nat.le_refl _) _
  have hi := h.below hb
  have hB1 : B ≤ (w.alloc (.cells cs 28)).heap.size := by simp; omega
  have hx0 : ∀ l, st = some l → l.length ≤ 900000 := fun l e => by have := hx l e; omega
  have hx1 : ∀ l, st = some l → l.length ≤ 1000000 := fun l e => by have := hx l e; omega
  have hx2 : ∀ l, st = some l → l.length + xs.length ≤ 2000000 := fun l e => by have := hx l e; omega
  have hl := Lies.new w cs 28
  have c0 := hl.cell 0 hV.what
  have c1 := hl.cell 1 hV.num
  have c2 := hl.cell 2 hV.wide
  have c35 := hl.cell 35 hV.raw
  have c36 := hl.cell 36 hV.text
  have hpk := pick_any n0 (w.alloc (.cells cs 28))
  rw [hd] at hpk
  have hcon := rtext_st _ B g v st s hi hB1 hx0 hV.slen hs3
  have HC := Lib.hid hcon
  have HP := Lib.hid hpk
  have HB := Lib.hid hb
  clear hcon hpk hb hi hB1 hx0 hx1 hx2 hl hd h hx hs3 hV
  go_enter Tryz.func10, Tryz.ntmps10
  go_wp2_with fail
  refine HP.out.mono ?_
  rintro e w1 ⟨rfl, rfl⟩
  go_wp2_with fail
  refine (HC.out).mono ?_
  rintro e w2 ⟨rfl, hm⟩
  have HM := Lib.hid hm
  clear hm
  go_wp2_with fail
  go_end0
  exact ⟨rfl, HM.out.after HB.out⟩
set_option maxRecDepth 100000 in
theorem want_st8 (w : World) (B g : Nat) (v : Value) (st : Option (List UInt8)) (cs : Array Value) (n0 n1 : Int) (n2 : Nat) (hs xs : List UInt8) (bv : Value) (s : ByteArray) (hV : PutV cs n0 n1 n2 hs bv s) (_hraw : RawIn w bv xs) (hd : n0 % 10 = 8) (h : RfS w B g v st) (hB : B ≤ w.heap.size) (_hlo : -9223372036854775808 ≤ n1) (_hhi : n1 < 9223372036854775808) (hx : ∀ l, st = some l → l.length + xs.length ≤ 900000) (_hs3 : ∀ l, st = some l → l.length + s.size ≤ 1000000) :
    Calls Tryz.prog 10 #[.pointer (some ⟨g, 0, none⟩), .agg cs] w fun e w' => e = .returned (.tuple #[]) ∧ RMoreO w B g v (stepFlag st n1) w' := by
  have hb : Below w.heap.size w (w.alloc (.cells cs 28)) := (Below.refl _ _).alloc (Nat.le_refl _) _
  have hi := h.below hb
  have hB1 : B ≤ (w.alloc (.cells cs 28)).heap.size := by simp; omega
  have hx0 : ∀ l, st = some l → l.length ≤ 900000 := fun l e => by have := hx l e; omega
  have hx1 : ∀ l, st = some l → l.length ≤ 1000000 := fun l e => by have := hx l e; omega
  have hx2 : ∀ l, st = some l → l.length + xs.length ≤ 2000000 := fun l e => by have := hx l e; omega
  have hl := Lies.new w cs 28
  have c0 := hl.cell 0 hV.what
  have c1 := hl.cell 1 hV.num
  have c2 := hl.cell 2 hV.wide
  have c35 := hl.cell 35 hV.raw
  have c36 := hl.cell 36 hV.text
  have hpk := pick_any n0 (w.alloc (.cells cs 28))
  rw [hd] at hpk
  have hcon := rflag_st _ B g v st n1 hi hB1 hx1
  have HC := Lib.hid hcon
  have HP := Lib.hid hpk
  have HB := Lib.hid hb
  clear hcon hpk hb hi hB1 hx0 hx1 hx2 hl hd h hx hV
  go_enter Tryz.func10, Tryz.ntmps10
  go_wp2_with fail
  refine HP.out.mono ?_
  rintro e w1 ⟨rfl, rfl⟩
  go_wp2_with fail
  refine (HC.out).mono ?_
  rintro e w2 ⟨rfl, hm⟩
  have HM := Lib.hid hm
  clear hm
  go_wp2_with fail
  go_end0
  exact ⟨rfl, HM.out.after HB.out⟩
set_option maxRecDepth 100000 in
theorem want_st9 (w : World) (B g : Nat) (v : Value) (st : Option (List UInt8)) (cs : Array Value) (n0 n1 : Int) (n2 : Nat) (hs xs : List UInt8) (bv : Value) (s : ByteArray) (hV : PutV cs n0 n1 n2 hs bv s) (_hraw : RawIn w bv xs) (hd : n0 % 10 = 9) (h : RfS w B g v st) (hB : B ≤ w.heap.size) (_hlo : -9223372036854775808 ≤ n1) (_hhi : n1 < 9223372036854775808) (hx : ∀ l, st = some l → l.length + xs.length ≤ 900000) (_hs3 : ∀ l, st = some l → l.length + s.size ≤ 1000000) :
    Calls Tryz.prog 10 #[.pointer (some ⟨g, 0, none⟩), .agg cs] w fun e w' => e = .returned (.tuple #[]) ∧ RMoreO w B g v (if n1 = 7 then none else st) w' := by
  have hb : Below w.heap.size w (w.alloc (.cells cs 28)) := (Below.refl _ _).alloc (Nat.le_refl _) _
  have hi := h.below hb
  have hB1 : B ≤ (w.alloc (.cells cs 28)).heap.size := by simp; omega
  have hx0 : ∀ l, st = some l → l.length ≤ 900000 := fun l e => by have := hx l e; omega
  have hx1 : ∀ l, st = some l → l.length ≤ 1000000 := fun l e => by have := hx l e; omega
  have hx2 : ∀ l, st = some l → l.length + xs.length ≤ 2000000 := fun l e => by have := hx l e; omega
  have hl := Lies.new w cs 28
  have c0 := hl.cell 0 hV.what
  have c1 := hl.cell 1 hV.num
  have c2 := hl.cell 2 hV.wide
  have c35 := hl.cell 35 hV.raw
  have c36 := hl.cell 36 hV.text
  have hpk := pick_any n0 (w.alloc (.cells cs 28))
  rw [hd] at hpk
  have hcon := rspoil_st _ B g v st hi
  have HC := Lib.hid hcon
  have HI := Lib.hid hi
  have HP := Lib.hid hpk
  have HB := Lib.hid hb
  clear hcon hpk hb hi hB1 hx0 hx1 hx2 hl hd h hx hV
  by_cases h7 : n1 = 7
  · rw [if_pos h7]
    subst h7
    go_enter Tryz.func10, Tryz.ntmps10
    go_wp2_with fail
    refine HP.out.mono ?_
    rintro e w1 ⟨rfl, rfl⟩
    go_wp2_with fail
    refine HC.out.mono ?_
    rintro e w2 ⟨rfl, hm⟩
    have HM := Lib.hid hm
    clear hm
    go_wp2_with fail
    go_end0
    exact ⟨rfl, HM.out.after HB.out⟩
  · rw [if_neg h7]
    go_enter Tryz.func10, Tryz.ntmps10
    go_wp2_with fail
    refine HP.out.mono ?_
    rintro e w1 ⟨rfl, rfl⟩
    go_wp2_with fail
    go_end0
    exact ⟨rfl, (RMoreO.same HI.out).after HB.out⟩
theorem want_st (w : World) (B g : Nat) (v : Value) (st : Option (List UInt8)) (cs : Array Value) (n0 n1 : Int) (n2 : Nat) (hs xs : List UInt8) (bv : Value) (s : ByteArray) (hV : PutV cs n0 n1 n2 hs bv s) (hraw : RawIn w bv xs) (h : RfS w B g v st) (hB : B ≤ w.heap.size) (hlo : -9223372036854775808 ≤ n1) (hhi : n1 < 9223372036854775808) (hx : ∀ l, st = some l → l.length + xs.length ≤ 900000) (hs3 : ∀ l, st = some l → l.length + s.size ≤ 1000000) :
    Calls Tryz.prog 10 #[.pointer (some ⟨g, 0, none⟩), .agg cs] w fun e w' => e = .returned (.tuple #[]) ∧ RMoreO w B g v (stepPut st n0 n1 n2 hs xs s) w' := by
  have hd : n0 % 10 = 0 ∨ n0 % 10 = 1 ∨ n0 % 10 = 2 ∨ n0 % 10 = 3 ∨ n0 % 10 = 4 ∨ n0 % 10 = 5 ∨ n0 % 10 = 6 ∨ n0 % 10 = 7 ∨ n0 % 10 = 8 ∨ n0 % 10 = 9 := by omega
  rcases hd with hd | hd | hd | hd | hd | hd | hd | hd | hd | hd
  · have := want_st0 w B g v st cs n0 n1 n2 hs xs bv s hV hraw hd h hB hlo hhi hx hs3
    rwa [show stepPut st n0 n1 n2 hs xs s = stepN st (low64 n1) 1 by simp [stepPut, hd]]
  · have := want_st1 w B g v st cs n0 n1 n2 hs xs bv s hV hraw hd h hB hlo hhi hx hs3
    rwa [show stepPut st n0 n1 n2 hs xs s = stepN st (low64 n1) 2 by simp [stepPut, hd]]
  · have := want_st2 w B g v st cs n0 n1 n2 hs xs bv s hV hraw hd h hB hlo hhi hx hs3
    rwa [show stepPut st n0 n1 n2 hs xs s = stepN st (low64 n1) 4 by simp [stepPut, hd]]
  · have := want_st3 w B g v st cs n0 n1 n2 hs xs bv s hV hraw hd h hB hlo hhi hx hs3
    rwa [show stepPut st n0 n1 n2 hs xs s = stepN st n2 8 by simp [stepPut, hd]]
  · have := want_st4 w B g v st cs n0 n1 n2 hs xs bv s hV hraw hd h hB hlo hhi hx hs3
    rwa [show stepPut st n0 n1 n2 hs xs s = stepN st n2 8 by simp [stepPut, hd]]
  · have := want_st5 w B g v st cs n0 n1 n2 hs xs bv s hV hraw hd h hB hlo hhi hx hs3
    rwa [show stepPut st n0 n1 n2 hs xs s = stepB st hs by simp [stepPut, hd]]
  · have := want_st6 w B g v st cs n0 n1 n2 hs xs bv s hV hraw hd h hB hlo hhi hx hs3
    rwa [show stepPut st n0 n1 n2 hs xs s = stepB st xs by simp [stepPut, hd]]
  · have := want_st7 w B g v st cs n0 n1 n2 hs xs bv s hV hraw hd h hB hlo hhi hx hs3
    rwa [show stepPut st n0 n1 n2 hs xs s = stepText st s by simp [stepPut, hd]]
  · have := want_st8 w B g v st cs n0 n1 n2 hs xs bv s hV hraw hd h hB hlo hhi hx hs3
    rwa [show stepPut st n0 n1 n2 hs xs s = stepFlag st n1 by simp [stepPut, hd]]
  · have := want_st9 w B g v st cs n0 n1 n2 hs xs bv s hV hraw hd h hB hlo hhi hx hs3
    rwa [show stepPut st n0 n1 n2 hs xs s = (if n1 = 7 then none else st) by simp [stepPut, hd]]
end Go.Proofs.YtjbjagdpemnhiaaGreat
