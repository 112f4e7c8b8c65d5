/-
  What the hash is, over 32-bit words and lists of bytes: plain mathematics, without the program. No condition.
-/
import Derived.KernelRfl
namespace Go.Proofs.YtgempifedhiknaaGreatDoor
set_option maxRecDepth 100000
namespace Sha

def rotr (x : BitVec 32) (n : Nat) : BitVec 32 := (x >>> n) ||| (x <<< (32 - n))
def s0 (x : BitVec 32) : BitVec 32 := rotr x 7 ^^^ rotr x 18 ^^^ (x >>> 3)
def s1 (y : BitVec 32) : BitVec 32 := rotr y 17 ^^^ rotr y 19 ^^^ (y >>> 10)
def S0 (a : BitVec 32) : BitVec 32 := rotr a 2 ^^^ rotr a 13 ^^^ rotr a 22
def S1 (e : BitVec 32) : BitVec 32 := rotr e 6 ^^^ rotr e 11 ^^^ rotr e 25
def ch (e f g : BitVec 32) : BitVec 32 := (e &&& f) ^^^ (~~~e &&& g)
def maj (a b c : BitVec 32) : BitVec 32 := (a &&& b) ^^^ (a &&& c) ^^^ (b &&& c)

/-- Eight numbers. -/
structure Eight where
  a : BitVec 32
  b : BitVec 32
  c : BitVec 32
  d : BitVec 32
  e : BitVec 32
  f : BitVec 32
  g : BitVec 32
  h : BitVec 32
  deriving DecidableEq

def Eight.t1 (s : Eight) (k w : BitVec 32) : BitVec 32 := s.h + S1 s.e + ch s.e s.f s.g + k + w
def Eight.t2 (s : Eight) : BitVec 32 := S0 s.a + maj s.a s.b s.c
def Eight.step (s : Eight) (k w : BitVec 32) : Eight :=
  { a := s.t1 k w + s.t2, b := s.a, c := s.b, d := s.c, e := s.d + s.t1 k w, f := s.e, g := s.f, h := s.g }
def Eight.add (s t : Eight) : Eight :=
  { a := s.a + t.a, b := s.b + t.b, c := s.c + t.c, d := s.d + t.d, e := s.e + t.e, f := s.f + t.f, g := s.g + t.g, h := s.h + t.h }
def Eight.list (s : Eight) : List (BitVec 32) := [s.a, s.b, s.c, s.d, s.e, s.f, s.g, s.h]

def start : Eight := ⟨1779033703, 3144134277, 1013904242, 2773480762, 1359893119, 2600822924, 528734635, 1541459225⟩
def cubes : List (BitVec 32) := [1116352408, 1899447441, 3049323471, 3921009573, 961987163, 1508970993, 2453635748, 2870763221, 3624381080, 310598401, 607225278, 1426881987, 1925078388, 2162078206, 2614888103, 3248222580, 3835390401, 4022224774, 264347078, 604807628, 770255983, 1249150122, 1555081692, 1996064986, 2554220882, 2821834349, 2952996808, 3210313671, 3336571891, 3584528711, 113926993, 338241895, 666307205, 773529912, 1294757372, 1396182291, 1695183700, 1986661051, 2177026350, 2456956037, 2730485921, 2820302411, 3259730800, 3345764771, 3516065817, 3600352804, 4094571909, 275423344, 430227734, 506948616, 659060556, 883997877, 958139571, 1322822218, 1537002063, 1747873779, 1955562222, 2024104815, 2227730452, 2361852424, 2428436474, 2756734187, 3204031479, 3329325298]

/-- Four bytes as a number. -/
def word (a b c d : UInt8) : BitVec 32 := BitVec.ofNat 32 (a.toNat * 16777216 + b.toNat * 65536 + c.toNat * 256 + d.toNat)
/-- The first n numbers of a row of bytes. -/
def words (r : List UInt8) (n : Nat) : List (BitVec 32) := (List.range n).map fun i => word (r.getD (4 * i) 0) (r.getD (4 * i + 1) 0) (r.getD (4 * i + 2) 0) (r.getD (4 * i + 3) 0)
/-- One number more. -/
def next (l : List (BitVec 32)) : BitVec 32 :=
  l.getD (l.length - 16) 0 + s0 (l.getD (l.length - 15) 0) + l.getD (l.length - 7) 0 + s1 (l.getD (l.length - 2) 0)
def sched (m : List (BitVec 32)) : Nat → List (BitVec 32)
  | 0 => m
  | n + 1 => sched m n ++ [next (sched m n)]
def wide (r : List UInt8) : List (BitVec 32) := sched (words r 16) 48
def rounds (w : List (BitVec 32)) (s : Eight) : Nat → Eight
  | 0 => s
  | n + 1 => (rounds w s n).step (cubes.getD n 0) (w.getD n 0)
/-- What a row of 64 bytes makes of the numbers. -/
def mix (s : Eight) (r : List UInt8) : Eight := s.add (rounds (wide r) s 64)

/-- n rows of 64 bytes, one behind the other. -/
def fold : Nat → Eight → List UInt8 → Eight
  | 0, s, _ => s
  | n + 1, s, l => fold n (mix s (l.take 64)) (l.drop 64)

/-- A number's eight bytes, the highest first. -/
def be64 (n : Nat) : List UInt8 :=
  [UInt8.ofNat (n / 2 ^ 56), UInt8.ofNat (n / 2 ^ 48), UInt8.ofNat (n / 2 ^ 40), UInt8.ofNat (n / 2 ^ 32), UInt8.ofNat (n / 2 ^ 24), UInt8.ofNat (n / 2 ^ 16), UInt8.ofNat (n / 2 ^ 8), UInt8.ofNat n]
/-- How many zeros stand between the mark and the length. -/
def gap (n : Nat) : Nat := (119 - n % 64) % 64
def pad (l : List UInt8) : List UInt8 := l ++ 128 :: (List.replicate (gap l.length) 0 ++ be64 (l.length * 8))

def four (x : BitVec 32) : List UInt8 := [UInt8.ofNat (x.toNat / 2 ^ 24), UInt8.ofNat (x.toNat / 2 ^ 16), UInt8.ofNat (x.toNat / 2 ^ 8), UInt8.ofNat x.toNat]
def Eight.bytes (s : Eight) : List UInt8 := four s.a ++ four s.b ++ four s.c ++ four s.d ++ four s.e ++ four s.f ++ four s.g ++ four s.h

/-- The hash of a list of bytes. -/
def sha (l : List UInt8) : List UInt8 := (fold ((pad l).length / 64) start (pad l)).bytes

theorem sha_nil : sha [] = [227, 176, 196, 66, 152, 252, 28, 20, 154, 251, 244, 200, 153, 111, 185, 36, 39, 174, 65, 228, 100, 155, 147, 76, 164, 149, 153, 27, 120, 82, 184, 85] := by decide +kernel
theorem sha_abc : sha [97, 98, 99] = [186, 120, 22, 191, 143, 1, 207, 234, 65, 65, 64, 222, 93, 174, 34, 35, 176, 3, 97, 163, 150, 23, 122, 156, 180, 16, 255, 97, 242, 0, 21, 173] := by decide +kernel
end Sha
end Go.Proofs.YtgempifedhiknaaGreatDoor
