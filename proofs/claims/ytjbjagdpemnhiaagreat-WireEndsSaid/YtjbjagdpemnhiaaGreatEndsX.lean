/-
  Rows of Puts that the program itself makes: WireWrites and WireReads of them, by what they answer of any row.
  WireEnds: a text of 65536 bytes, made, and all of it but its first byte.
  WireEnds' walk: what its regions want.
  WireEnds: an append of bytes that came in, in a region that draws its order.
-/
import Derived.Test.YtjbjagdpemnhiaaGreatWritesW
import Derived.Test.YtjbjagdpemnhiaaGreatReads
import Derived.Test.YtjbjagdpemnhiaaGreatRText
import Derived.Laws.OwnMore
import Derived.Test.YtjbjagdpemnhiaaGreatAwake
import Derived.Deep.RegionHeld3
import Derived.Deep.AppendLies
namespace Go.Proofs.YtjbjagdpemnhiaaGreat
open Go.RowKit

/-- The cells of a row of Puts. -/
def rowC (ps : List PutD) : Array Value := (ps.flatMap fun p => p.cells.toList).toArray
theorem flat_get : ∀ (ps : List PutD), (∀ p ∈ ps, p.cells.size = 37) → ∀ i p j v, ps[i]? = some p → p.cells[j]? = some v → (ps.flatMap fun p => p.cells.toList)[i * 37 + j]? = some v
  | [], _, i, p, j, v, h, _ => by simp at h
  | q :: qs, hs, 0, p, j, v, h, hv => by
    obtain rfl : q = p := by simpa using h
    have hj := (Array.getElem?_eq_some_iff.1 hv).1
    rw [List.flatMap_cons, List.getElem?_append_left (by rw [Array.length_toList]; omega)]
    simpa using hv
  | q :: qs, hs, i + 1, p, j, v, h, hv => by
    have h37 : q.cells.size = 37 := hs q (List.mem_cons_self ..)
    rw [List.flatMap_cons, List.getElem?_append_right (by rw [Array.length_toList, h37]; omega), Array.length_toList, h37, show (i + 1) * 37 + j - 37 = i * 37 + j by omega]
    exact flat_get qs (fun p hp => hs p (List.mem_cons_of_mem _ hp)) i p j v (by simpa using h) hv
theorem row_of {w : World} {g : Nat} {ps : List PutD} (h : Lies w g (rowC ps) 28) (hok : ∀ p ∈ ps, p.Ok w) : PRow w g 0 ps := by
  intro i p hp
  refine ⟨hok p (List.mem_of_getElem? hp), fun j v hv => ?_⟩
  rw [Nat.zero_add]
  refine h.cell _ ?_
  have := flat_get ps (fun p hp => PutD.size (hok p hp)) i p j v hp hv
  unfold rowC
  rw [List.getElem?_toArray]
  exact this
theorem writes_row (w : World) (g : Nat) (ps : List PutD) (h : Lies w g (rowC ps) 28) (hok : ∀ p ∈ ps, p.Ok w) (hn : ps.length ≤ 1000) :
    Calls Tryz.prog 4 #[.slice (some ⟨g, 0, none⟩) ps.length ps.length] w fun e w' => e = .returned (.bool true) ∧ Below w.heap.size w w' :=
  writes_any w _ ps ps.length (Nat.le_refl _) (by omega) fun _ => ⟨g, 0, rfl, (Array.getElem?_eq_some_iff.1 h).1, row_of h hok⟩
theorem reads_row (w : World) (bv : Value) (xs : List UInt8) (hb : Bs w bv xs) (hx : xs.length ≤ 1000) (g : Nat) (ps : List PutD) (h : Lies w g (rowC ps) 28) (hok : ∀ p ∈ ps, p.Ok w) (hn : ps.length ≤ 1000) :
    Calls Tryz.prog 5 #[bv, .slice (some ⟨g, 0, none⟩) ps.length ps.length] w fun e w' => e = .returned (.bool true) ∧ Below w.heap.size w w' :=
  reads_any w bv xs _ ps ps.length hb (by omega) (Nat.le_refl _) (by omega) fun _ => ⟨g, 0, rfl, (Array.getElem?_eq_some_iff.1 h).1, row_of h hok⟩
/-- The Put whose fields the closed statement names, one by one. -/
def z32B : List UInt8 := List.replicate 32 0
def h32B : List UInt8 := [1, 2, 255] ++ List.replicate 29 0
def putX (k n : Int) (u : Nat) (bv : Value) : PutD := ⟨k, n, u, h32B, bv, [5, 6], ⟨#[116, 101, 120, 116]⟩⟩
def putN (k n : Int) : PutD := ⟨k, n, 0, z32B, .slice none 0 0, [], ⟨#[]⟩⟩
def putS (s : ByteArray) : PutD := ⟨7, 0, 0, z32B, .slice none 0 0, [], s⟩
theorem putN_ok (k n : Int) (h1 : -9223372036854775808 ≤ n) (h2 : n < 9223372036854775808) (w : World) : (putN k n).Ok w :=
  ⟨rfl, (by show (0 : Nat) < 18446744073709551616; omega), h1, h2, (by show (0 : Nat) ≤ maxLen; exact Nat.zero_le _), .inl ⟨rfl, rfl⟩, (by show (0 : Nat) ≤ _; exact Nat.zero_le _)⟩
theorem putS_ok (s : ByteArray) (h : s.size ≤ 70000) (w : World) : (putS s).Ok w :=
  ⟨rfl, (by show (0 : Nat) < 18446744073709551616; omega), (by show (-9223372036854775808 : Int) ≤ 0; omega), (by show (0 : Int) < 9223372036854775808; omega), (by show s.size ≤ maxLen; unfold maxLen; omega), .inl ⟨rfl, rfl⟩, (by show (0 : Nat) ≤ _; exact Nat.zero_le _)⟩
theorem putX_ok (k n : Int) (u g c : Nat) (h1 : -9223372036854775808 ≤ n) (h2 : n < 9223372036854775808) (h3 : u < 18446744073709551616) (w : World) (hs : SrcA w ⟨g, 0, none⟩ [5, 6]) : (putX k n u (.slice (some ⟨g, 0, none⟩) 2 c)).Ok w :=
  ⟨rfl, h3, h1, h2, (by show (4 : Nat) ≤ maxLen; unfold maxLen; omega), .inr ⟨⟨g, 0, none⟩, c, rfl, hs⟩, (by show (2 : Nat) ≤ _; omega)⟩
theorem built_putN1 (k : Int) : Tryz.prog.built 28 [(0, .int .i64 k)] = some (putN k 0).cells := by kernel_rfl
theorem built_putN (k n : Int) : Tryz.prog.built 28 [(0, .int .i64 k), (1, .int .i64 n)] = some (putN k n).cells := by kernel_rfl
theorem built_putS (s : ByteArray) : Tryz.prog.built 28 [(0, .int .i64 7), (5, .string s)] = some (putS s).cells := by kernel_rfl
theorem built_h : Tryz.prog.built 25 [(0, .int .u8 1), (1, .int .u8 2), (2, .int .u8 255)] = some (B8 h32B) := by kernel_rfl
theorem built_putX (k n : Int) (u : Nat) (A : Option Addr) (m c : Nat) : Tryz.prog.built 28 [(0, .int .i64 k), (1, .int .i64 n), (2, .int .u64 u), (3, .agg (B8 h32B)), (4, .slice A m c), (5, .string ⟨#[116, 101, 120, 116]⟩)] = some (putX k n u (.slice A m c)).cells := by kernel_rfl
theorem src_of {w : World} {g : Nat} {bs : List UInt8} (h : Lies w g (B8 bs) 5) : SrcA w ⟨g, 0, none⟩ bs := by
  intro j u hj
  show w.cell? (Addr.add ⟨g, 0, none⟩ j) = some u
  rw [Addr.add_mid, Nat.zero_add]
  exact h.cell j (by simpa using hj)
/-- WireReads of bytes and of a row that were made one behind the other. -/
theorem reads_made (W : World) (bs : List UInt8) (ps : List PutD) (hok : ∀ p ∈ ps, ∀ w, p.Ok w) (hb : bs.length ≤ 1000) (hn : ps.length ≤ 1000) :
    Calls Tryz.prog 5 #[.slice (some ⟨W.heap.size, 0, none⟩) bs.length bs.length, .slice (some ⟨W.heap.size + 1, 0, none⟩) ps.length ps.length] ((W.alloc (.cells (B8 bs) 5)).alloc (.cells (rowC ps) 28))
      fun e w' => e = .returned (.bool true) ∧ Below W.heap.size W w' := by
  have h1 : Lies ((W.alloc (.cells (B8 bs) 5)).alloc (.cells (rowC ps) 28)) W.heap.size (B8 bs) 5 := (Lies.new W _ 5).alloc _
  have h2 : Lies ((W.alloc (.cells (B8 bs) 5)).alloc (.cells (rowC ps) 28)) (W.heap.size + 1) (rowC ps) 28 := by
    have := Lies.new (W.alloc (.cells (B8 bs) 5)) (rowC ps) 28
    simpa using this
  have hB : Below W.heap.size W ((W.alloc (.cells (B8 bs) 5)).alloc (.cells (rowC ps) 28)) := ((Below.refl _ _).alloc (Nat.le_refl _) _).alloc (by simp) _
  refine (reads_row _ _ bs (.inr ⟨_, _, rfl, Nat.le_refl _, by unfold maxLen; omega, fun _ => rfl, src_of h1⟩) hb _ ps h2 (fun p hp => hok p hp _) hn).mono fun e w' h => ⟨h.1, hB.trans (h.2.mono hB.size)⟩
theorem writes_made (W : World) (ps : List PutD) (hok : ∀ p ∈ ps, ∀ w, p.Ok w) (hn : ps.length ≤ 1000) :
    Calls Tryz.prog 4 #[.slice (some ⟨W.heap.size, 0, none⟩) ps.length ps.length] (W.alloc (.cells (rowC ps) 28)) fun e w' => e = .returned (.bool true) ∧ Below W.heap.size W w' := by
  have hB : Below W.heap.size W (W.alloc (.cells (rowC ps) 28)) := (Below.refl _ _).alloc (Nat.le_refl _) _
  exact (writes_row _ _ ps (Lies.new W _ 28) (fun p hp => hok p hp _) hn).mono fun e w' h => ⟨h.1, hB.trans (h.2.mono hB.size)⟩
end Go.Proofs.YtjbjagdpemnhiaaGreat
namespace Go.Proofs.YtjbjagdpemnhiaaGreat
open Go.RowKit

theorem made_zero (n : Nat) : (madeCells (Value.int .u8 0).cells n).toList = (B8 (List.replicate n 0)).toList := by
  rw [show (Value.int .u8 0).cells = #[.int .u8 0] from rfl, toList_madeCells_one]
  simp [B8]
theorem made64 (w : World) : ∃ W zs, zs.length = 65536 ∧ (Instr.makeSlice 26 (.int .i64 65536) (.int .i64 65536)).run Tryz.prog w = .ok (.slice (some ⟨w.heap.size, 0, none⟩) 65536 65536) W ∧
    W.ownsRow w.heap.size 5 1 (.slice (some ⟨w.heap.size, 0, none⟩) 65536 65536) 65536 (B8 zs).toList ∧ w.grownBy W none := by
  obtain ⟨i0, hi0, hz0, hz1, hz2⟩ := info_parts info5
  obtain ⟨K, hK⟩ : ∃ K, K = 65536 := ⟨_, rfl⟩
  obtain ⟨W, h1, h2, h3⟩ := run_makeSlice_full (P := Tryz.prog) (w := w) w.heap.size 26 5 i0 (.int .u8 0) 1 Tryz.underlying26 hi0 hz0 hz1 .i64 .i64 K (by omega) (by rw [hz2]; omega) (by unfold maxLen; omega) (Nat.le_refl _)
  rw [made_zero, Nat.mul_one] at h2
  refine ⟨W, List.replicate K 0, by rw [List.length_replicate, hK], ?_, ?_, h3⟩
  · have e : ((K : Nat) : Int) = 65536 := by rw [hK]; rfl
    rw [e] at h1
    rw [h1, hK]
  · rw [hK] at h2 ⊢
    exact h2
theorem text64 {W : World} {B g : Nat} {zs : List UInt8} (h : W.ownsRow B 5 1 (.slice (some ⟨g, 0, none⟩) 65536 65536) 65536 (B8 zs).toList) (hz : zs.length = 65536) :
    (convert 26 9 (.slice (some ⟨g, 0, none⟩) 65536 65536)).run Tryz.prog W = .ok (.string ⟨zs.toArray⟩) W ∧ (convert 26 9 (.slice (some ⟨g, 1, none⟩) 65535 65535)).run Tryz.prog W = .ok (.string ⟨(zs.drop 1).toArray⟩) W := by
  rw [← hz] at h
  have hs := own_src h
  have h1 := str_of_src (c := 65536) hs
  have hd : Src W g 1 (zs.drop 1) := by
    intro j hj
    have := hs (1 + j) (by rw [List.length_drop] at hj; omega)
    rw [Nat.zero_add] at this
    rw [this]
    simp [Nat.add_comm]
  have h2 := str_of_src (c := 65535) hd
  rw [List.length_drop, hz] at h2
  rw [hz] at h1
  exact ⟨h1, h2⟩
def rowS (s : ByteArray) : Array Value := #[.int .i64 7, .int .i64 0, .int .u64 0, .int .u8 0, .int .u8 0, .int .u8 0, .int .u8 0, .int .u8 0, .int .u8 0, .int .u8 0, .int .u8 0, .int .u8 0, .int .u8 0, .int .u8 0, .int .u8 0, .int .u8 0, .int .u8 0, .int .u8 0, .int .u8 0, .int .u8 0, .int .u8 0, .int .u8 0, .int .u8 0, .int .u8 0, .int .u8 0, .int .u8 0, .int .u8 0, .int .u8 0, .int .u8 0, .int .u8 0, .int .u8 0, .int .u8 0, .int .u8 0, .int .u8 0, .int .u8 0, .slice none 0 0, .string s]
theorem rowS_eq (s : ByteArray) : rowC [putS s] = rowS s := by kernel_rfl
theorem writesS (W : World) (s : ByteArray) (hs : s.size ≤ 70000) : Calls Tryz.prog 4 #[.slice (some ⟨W.heap.size, 0, none⟩) 1 1] (W.alloc (.cells (rowS s) 28)) fun e w' => e = .returned (.bool true) ∧ Below W.heap.size W w' := by
  rw [← rowS_eq]
  exact writes_made W [putS s] (fun p hp w => by obtain rfl : p = _ := by simpa using hp
                                                 exact putS_ok s hs w) (by simp)
end Go.Proofs.YtjbjagdpemnhiaaGreat
namespace Go.Proofs.YtjbjagdpemnhiaaGreat
open Go.RowKit

theorem two_ok (a b c d : Int) (h1 : -9223372036854775808 ≤ b) (h2 : b < 9223372036854775808) (h3 : -9223372036854775808 ≤ d) (h4 : d < 9223372036854775808) : ∀ p ∈ [putN a b, putN c d], ∀ w, p.Ok w := by
  intro p hp w
  rcases List.mem_cons.1 hp with rfl | hp
  · exact putN_ok _ _ h1 h2 w
  · obtain rfl : p = _ := by simpa using hp
    exact putN_ok _ _ h3 h4 w
theorem asks3 (W : World) (b : UInt8) : Calls Tryz.prog 5 #[.slice (some ⟨W.heap.size, 0, none⟩) 3 3, .slice (some ⟨W.heap.size + 1, 0, none⟩) 2 2]
    ((W.alloc (.cells #[.int .u8 b.toNat, .int .u8 1, .int .u8 2] 5)).alloc (.cells (rowC [putN 8 0, putN 8 0]) 28)) fun e w' => e = .returned (.bool true) ∧ Below W.heap.size W w' :=
  reads_made W [b, 1, 2] [putN 8 0, putN 8 0] (two_ok _ _ _ _ (by omega) (by omega) (by omega) (by omega)) (by simp) (by decide)
theorem asks4 (W : World) (b : UInt8) (k n : Int) (h1 : -9223372036854775808 ≤ n) (h2 : n < 9223372036854775808) : Calls Tryz.prog 5 #[.slice (some ⟨W.heap.size, 0, none⟩) 4 4, .slice (some ⟨W.heap.size + 1, 0, none⟩) 2 2]
    ((W.alloc (.cells #[.int .u8 0, .int .u8 b.toNat, .int .u8 1, .int .u8 2] 5)).alloc (.cells (rowC [putN k n, putN 0 0]) 28)) fun e w' => e = .returned (.bool true) ∧ Below W.heap.size W w' :=
  reads_made W [0, b, 1, 2] [putN k n, putN 0 0] (two_ok _ _ _ _ h1 h2 (by omega) (by omega)) (by simp) (by simp)
/-- The Put of the first loop, its cells one by one. -/
def cellsX (k : Int) (n : Int) (u : Int) (gb : Nat) : Array Value := #[.int .i64 k, .int .i64 n, .int .u64 u, .int .u8 1, .int .u8 2, .int .u8 255, .int .u8 0, .int .u8 0, .int .u8 0, .int .u8 0, .int .u8 0, .int .u8 0, .int .u8 0, .int .u8 0, .int .u8 0, .int .u8 0, .int .u8 0, .int .u8 0, .int .u8 0, .int .u8 0, .int .u8 0, .int .u8 0, .int .u8 0, .int .u8 0, .int .u8 0, .int .u8 0, .int .u8 0, .int .u8 0, .int .u8 0, .int .u8 0, .int .u8 0, .int .u8 0, .int .u8 0, .int .u8 0, .int .u8 0, .slice (some ⟨gb, 0, none⟩) 2 2, .string ⟨#[116, 101, 120, 116]⟩]
def zero28 : Array Value := #[.int .i64 0, .int .i64 0, .int .u64 0, .int .u8 0, .int .u8 0, .int .u8 0, .int .u8 0, .int .u8 0, .int .u8 0, .int .u8 0, .int .u8 0, .int .u8 0, .int .u8 0, .int .u8 0, .int .u8 0, .int .u8 0, .int .u8 0, .int .u8 0, .int .u8 0, .int .u8 0, .int .u8 0, .int .u8 0, .int .u8 0, .int .u8 0, .int .u8 0, .int .u8 0, .int .u8 0, .int .u8 0, .int .u8 0, .int .u8 0, .int .u8 0, .int .u8 0, .int .u8 0, .int .u8 0, .int .u8 0, .slice none 0 0, .string ⟨#[]⟩]
theorem cellsX_eq (k : Nat) (n : Int) (u gb : Nat) : cellsX k n u gb = (putX k n u (.slice (some ⟨gb, 0, none⟩) 2 2)).cells := by kernel_rfl
theorem info28 (k n u : Int) (gb : Nat) : (Tryz.prog.info? 28).map (·.size) = some (cellsX k n u gb).size := by kernel_rfl
theorem one28 (k n u : Int) (gb : Nat) : (cellsX k n u gb).all (·.oneCell') = true := by simp [cellsX, Value.oneCell']
theorem storeX_new (W : World) (k n u : Int) (gb : Nat) : (storeCells ⟨W.heap.size, 0, none⟩ (cellsX k n u gb).toList 0).run Tryz.prog (W.alloc (.cells zero28 28)) = .ok () (W.alloc (.cells (cellsX k n u gb) 28)) :=
  run_storeCells_new W 28 zero28 (cellsX k n u gb) (info28 k n u gb) rfl (one28 k n u gb)
theorem storeX_old (W : World) (g : Nat) (h : Lies W g zero28 28) (k n u : Int) (gb : Nat) : (storeCells ⟨g, 0, none⟩ (cellsX k n u gb).toList 0).run Tryz.prog W = .ok () (W.setRow g (cellsX k n u gb)) :=
  run_storeCells_from (P := Tryz.prog) g 28 (cellsX k n u gb).toList 0 zero28 W h (by rfl) (fun v hv => (Array.all_eq_true_iff_forall_mem.1 (one28 k n u gb)) v (by simpa using hv))
theorem storeX_newD (W : World) (k n u : Int) (gb : Nat) : (storeCells ⟨W.heap.size, 0, none⟩ (cellsX k n u gb).toList 0).run Tryz.prog (W.alloc (.cells zero28 28)).drew = .ok () (W.alloc (.cells (cellsX k n u gb) 28)).drew :=
  storeX_new W.drew k n u gb
/-- The Put of the first loop. -/
abbrev pX (k : Nat) (n : Int) (u gb : Nat) : PutD := putX k n u (.slice (some ⟨gb, 0, none⟩) 2 2)
def row3 (k n u : Int) (gb : Nat) : Array Value := #[.int .i64 0, .int .i64 3, .int .u64 0, .int .u8 0, .int .u8 0, .int .u8 0, .int .u8 0, .int .u8 0, .int .u8 0, .int .u8 0, .int .u8 0, .int .u8 0, .int .u8 0, .int .u8 0, .int .u8 0, .int .u8 0, .int .u8 0, .int .u8 0, .int .u8 0, .int .u8 0, .int .u8 0, .int .u8 0, .int .u8 0, .int .u8 0, .int .u8 0, .int .u8 0, .int .u8 0, .int .u8 0, .int .u8 0, .int .u8 0, .int .u8 0, .int .u8 0, .int .u8 0, .int .u8 0, .int .u8 0, .slice none 0 0, .string ⟨#[]⟩, .int .i64 k, .int .i64 n, .int .u64 u, .int .u8 1, .int .u8 2, .int .u8 255, .int .u8 0, .int .u8 0, .int .u8 0, .int .u8 0, .int .u8 0, .int .u8 0, .int .u8 0, .int .u8 0, .int .u8 0, .int .u8 0, .int .u8 0, .int .u8 0, .int .u8 0, .int .u8 0, .int .u8 0, .int .u8 0, .int .u8 0, .int .u8 0, .int .u8 0, .int .u8 0, .int .u8 0, .int .u8 0, .int .u8 0, .int .u8 0, .int .u8 0, .int .u8 0, .int .u8 0, .int .u8 0, .int .u8 0, .slice (some ⟨gb, 0, none⟩) 2 2, .string ⟨#[116, 101, 120, 116]⟩, .int .i64 0, .int .i64 4, .int .u64 0, .int .u8 0, .int .u8 0, .int .u8 0, .int .u8 0, .int .u8 0, .int .u8 0, .int .u8 0, .int .u8 0, .int .u8 0, .int .u8 0, .int .u8 0, .int .u8 0, .int .u8 0, .int .u8 0, .int .u8 0, .int .u8 0, .int .u8 0, .int .u8 0, .int .u8 0, .int .u8 0, .int .u8 0, .int .u8 0, .int .u8 0, .int .u8 0, .int .u8 0, .int .u8 0, .int .u8 0, .int .u8 0, .int .u8 0, .int .u8 0, .int .u8 0, .int .u8 0, .slice none 0 0, .string ⟨#[]⟩]
def row4 (k n u : Int) (gb : Nat) : Array Value := #[.int .i64 k, .int .i64 n, .int .u64 u, .int .u8 1, .int .u8 2, .int .u8 255, .int .u8 0, .int .u8 0, .int .u8 0, .int .u8 0, .int .u8 0, .int .u8 0, .int .u8 0, .int .u8 0, .int .u8 0, .int .u8 0, .int .u8 0, .int .u8 0, .int .u8 0, .int .u8 0, .int .u8 0, .int .u8 0, .int .u8 0, .int .u8 0, .int .u8 0, .int .u8 0, .int .u8 0, .int .u8 0, .int .u8 0, .int .u8 0, .int .u8 0, .int .u8 0, .int .u8 0, .int .u8 0, .int .u8 0, .slice (some ⟨gb, 0, none⟩) 2 2, .string ⟨#[116, 101, 120, 116]⟩, .int .i64 k, .int .i64 2, .int .u64 0, .int .u8 0, .int .u8 0, .int .u8 0, .int .u8 0, .int .u8 0, .int .u8 0, .int .u8 0, .int .u8 0, .int .u8 0, .int .u8 0, .int .u8 0, .int .u8 0, .int .u8 0, .int .u8 0, .int .u8 0, .int .u8 0, .int .u8 0, .int .u8 0, .int .u8 0, .int .u8 0, .int .u8 0, .int .u8 0, .int .u8 0, .int .u8 0, .int .u8 0, .int .u8 0, .int .u8 0, .int .u8 0, .int .u8 0, .int .u8 0, .int .u8 0, .int .u8 0, .slice none 0 0, .string ⟨#[]⟩, .int .i64 0, .int .i64 0, .int .u64 0, .int .u8 0, .int .u8 0, .int .u8 0, .int .u8 0, .int .u8 0, .int .u8 0, .int .u8 0, .int .u8 0, .int .u8 0, .int .u8 0, .int .u8 0, .int .u8 0, .int .u8 0, .int .u8 0, .int .u8 0, .int .u8 0, .int .u8 0, .int .u8 0, .int .u8 0, .int .u8 0, .int .u8 0, .int .u8 0, .int .u8 0, .int .u8 0, .int .u8 0, .int .u8 0, .int .u8 0, .int .u8 0, .int .u8 0, .int .u8 0, .int .u8 0, .int .u8 0, .slice none 0 0, .string ⟨#[]⟩, .int .i64 k, .int .i64 n, .int .u64 u, .int .u8 1, .int .u8 2, .int .u8 255, .int .u8 0, .int .u8 0, .int .u8 0, .int .u8 0, .int .u8 0, .int .u8 0, .int .u8 0, .int .u8 0, .int .u8 0, .int .u8 0, .int .u8 0, .int .u8 0, .int .u8 0, .int .u8 0, .int .u8 0, .int .u8 0, .int .u8 0, .int .u8 0, .int .u8 0, .int .u8 0, .int .u8 0, .int .u8 0, .int .u8 0, .int .u8 0, .int .u8 0, .int .u8 0, .int .u8 0, .int .u8 0, .int .u8 0, .slice (some ⟨gb, 0, none⟩) 2 2, .string ⟨#[116, 101, 120, 116]⟩]
def row2 (k n u : Int) (gb : Nat) : Array Value := #[.int .i64 k, .int .i64 n, .int .u64 u, .int .u8 1, .int .u8 2, .int .u8 255, .int .u8 0, .int .u8 0, .int .u8 0, .int .u8 0, .int .u8 0, .int .u8 0, .int .u8 0, .int .u8 0, .int .u8 0, .int .u8 0, .int .u8 0, .int .u8 0, .int .u8 0, .int .u8 0, .int .u8 0, .int .u8 0, .int .u8 0, .int .u8 0, .int .u8 0, .int .u8 0, .int .u8 0, .int .u8 0, .int .u8 0, .int .u8 0, .int .u8 0, .int .u8 0, .int .u8 0, .int .u8 0, .int .u8 0, .slice (some ⟨gb, 0, none⟩) 2 2, .string ⟨#[116, 101, 120, 116]⟩, .int .i64 k, .int .i64 n, .int .u64 u, .int .u8 1, .int .u8 2, .int .u8 255, .int .u8 0, .int .u8 0, .int .u8 0, .int .u8 0, .int .u8 0, .int .u8 0, .int .u8 0, .int .u8 0, .int .u8 0, .int .u8 0, .int .u8 0, .int .u8 0, .int .u8 0, .int .u8 0, .int .u8 0, .int .u8 0, .int .u8 0, .int .u8 0, .int .u8 0, .int .u8 0, .int .u8 0, .int .u8 0, .int .u8 0, .int .u8 0, .int .u8 0, .int .u8 0, .int .u8 0, .int .u8 0, .int .u8 0, .slice (some ⟨gb, 0, none⟩) 2 2, .string ⟨#[116, 101, 120, 116]⟩]
theorem row1_eq (k : Nat) (n : Int) (u gb : Nat) : rowC [pX k n u gb] = cellsX k n u gb := by kernel_rfl
theorem row3_eq (k : Nat) (n : Int) (u gb : Nat) : rowC [putN 0 3, pX k n u gb, putN 0 4] = row3 k n u gb := by kernel_rfl
theorem row4_eq (k : Nat) (n : Int) (u gb : Nat) : rowC [pX k n u gb, putN k 2, putN 0 0, pX k n u gb] = row4 k n u gb := by kernel_rfl
theorem row2_eq (k : Nat) (n : Int) (u gb : Nat) : rowC [pX k n u gb, pX k n u gb] = row2 k n u gb := by kernel_rfl
theorem okX (k : Nat) (n : Int) (u gb : Nat) (h1 : -9223372036854775808 ≤ n) (h2 : n < 9223372036854775808) (h3 : u < 18446744073709551616) (w : World) (h : Lies w gb (B8 [5, 6]) 5) : (pX k n u gb).Ok w :=
  putX_ok k n u gb 2 h1 h2 h3 w (src_of h)
/-- What region 8 leaves: the Put in block gx, its two bytes in block gb. -/
structure XW (k : Nat) (n : Int) (u gx gb : Nat) (W : World) : Prop where
  row : Lies W gx (cellsX k n u gb) 28
  two : Lies W gb (B8 [5, 6]) 5
theorem XW.on {k : Nat} {n : Int} {u gx gb m : Nat} {W W' : World} (h : XW k n u gx gb W) (hb : Below m W W') (h1 : gx < m) (h2 : gb < m) : XW k n u gx gb W' := ⟨h.row.below hb h1, h.two.below hb h2⟩
theorem XW.load {k : Nat} {n : Int} {u gx gb : Nat} {W : World} (h : XW k n u gx gb W) : (loadCellsFrom ⟨gx, 0, none⟩ 0 37 #[]).run Tryz.prog W = .ok (cellsX k n u gb) W := by
  have := run_loadCells_list (P := Tryz.prog) W ⟨gx, 0, none⟩ (cellsX k n u gb).toList (fun j v hv => by
    have hadd : (⟨gx, 0, none⟩ : Addr).add j = ⟨gx, j, none⟩ := by unfold Addr.add; split <;> simp_all
    rw [hadd, cell_of_row _ _ j (cellsX k n u gb) 28 (0, 0) h.row]
    simpa using hv)
  exact this
theorem writesX (W : World) (gb : Nat) (h : Lies W gb (B8 [5, 6]) 5) (ps : List PutD) (hok : ∀ p ∈ ps, ∀ w, Lies w gb (B8 [5, 6]) 5 → p.Ok w) (hn : ps.length ≤ 1000) :
    Calls Tryz.prog 4 #[.slice (some ⟨W.heap.size, 0, none⟩) ps.length ps.length] (W.alloc (.cells (rowC ps) 28)) fun e w' => e = .returned (.bool true) ∧ Below W.heap.size W w' := by
  have hB : Below W.heap.size W (W.alloc (.cells (rowC ps) 28)) := (Below.refl _ _).alloc (Nat.le_refl _) _
  exact (writes_row _ _ ps (Lies.new W _ 28) (fun p hp => hok p hp _ (h.alloc _)) hn).mono fun e w' h => ⟨h.1, hB.trans (h.2.mono hB.size)⟩
theorem allX1 (k : Nat) (n : Int) (u gb : Nat) (h1 : -9223372036854775808 ≤ n) (h2 : n < 9223372036854775808) (h3 : u < 18446744073709551616) : ∀ p ∈ [pX k n u gb], ∀ w, Lies w gb (B8 [5, 6]) 5 → p.Ok w := by
  intro p hp w hw
  obtain rfl : p = _ := by simpa using hp
  exact okX k n u gb h1 h2 h3 w hw
theorem allX3 (k : Nat) (n : Int) (u gb : Nat) (h1 : -9223372036854775808 ≤ n) (h2 : n < 9223372036854775808) (h3 : u < 18446744073709551616) : ∀ p ∈ [putN 0 3, pX k n u gb, putN 0 4], ∀ w, Lies w gb (B8 [5, 6]) 5 → p.Ok w := by
  intro p hp w hw
  have : p = putN 0 3 ∨ p = pX k n u gb ∨ p = putN 0 4 := by simpa using hp
  rcases this with rfl | rfl | rfl
  · exact putN_ok _ _ (by omega) (by omega) w
  · exact okX k n u gb h1 h2 h3 w hw
  · exact putN_ok _ _ (by omega) (by omega) w
theorem allX4 (k : Nat) (n : Int) (u gb : Nat) (h1 : -9223372036854775808 ≤ n) (h2 : n < 9223372036854775808) (h3 : u < 18446744073709551616) : ∀ p ∈ [pX k n u gb, putN k 2, putN 0 0, pX k n u gb], ∀ w, Lies w gb (B8 [5, 6]) 5 → p.Ok w := by
  intro p hp w hw
  have : p = pX k n u gb ∨ p = putN k 2 ∨ p = putN 0 0 := by
    have := hp; simp at this; rcases this with h | h | h | h <;> simp [h]
  rcases this with rfl | rfl | rfl
  · exact okX k n u gb h1 h2 h3 w hw
  · exact putN_ok _ _ (by omega) (by omega) w
  · exact putN_ok _ _ (by omega) (by omega) w
theorem allX2 (k : Nat) (n : Int) (u gb : Nat) (h1 : -9223372036854775808 ≤ n) (h2 : n < 9223372036854775808) (h3 : u < 18446744073709551616) : ∀ p ∈ [pX k n u gb, pX k n u gb], ∀ w, Lies w gb (B8 [5, 6]) 5 → p.Ok w := by
  intro p hp w hw
  have : p = pX k n u gb := by have := hp; simp at this; exact this
  subst this
  exact okX k n u gb h1 h2 h3 w hw
theorem writesX1 (k : Nat) (n : Int) (u gb : Nat) (h1 : -9223372036854775808 ≤ n) (h2 : n < 9223372036854775808) (h3 : u < 18446744073709551616) (W : World) (h : Lies W gb (B8 [5, 6]) 5) :
    Calls Tryz.prog 4 #[.slice (some ⟨W.heap.size, 0, none⟩) 1 1] (W.alloc (.cells (cellsX k n u gb) 28)) fun e w' => e = .returned (.bool true) ∧ Below W.heap.size W w' := by
  rw [← row1_eq]
  exact writesX W gb h [pX k n u gb] (allX1 k n u gb h1 h2 h3) (by simp)
theorem writesX3 (k : Nat) (n : Int) (u gb : Nat) (h1 : -9223372036854775808 ≤ n) (h2 : n < 9223372036854775808) (h3 : u < 18446744073709551616) (W : World) (h : Lies W gb (B8 [5, 6]) 5) :
    Calls Tryz.prog 4 #[.slice (some ⟨W.heap.size, 0, none⟩) 3 3] (W.alloc (.cells (row3 k n u gb) 28)) fun e w' => e = .returned (.bool true) ∧ Below W.heap.size W w' := by
  rw [← row3_eq]
  exact writesX W gb h [putN 0 3, pX k n u gb, putN 0 4] (allX3 k n u gb h1 h2 h3) (by simp)
/-- WireReads of bytes and of a row, wherever they lie. -/
theorem readsX (W : World) (gb : Nat) (h : Lies W gb (B8 [5, 6]) 5) (bv : Value) (xs : List UInt8) (hb : Bs W bv xs) (hx : xs.length ≤ 1000) (g : Nat) (ps : List PutD) (hr : Lies W g (rowC ps) 28) (hok : ∀ p ∈ ps, ∀ w, Lies w gb (B8 [5, 6]) 5 → p.Ok w) (hn : ps.length ≤ 1000) :
    Calls Tryz.prog 5 #[bv, .slice (some ⟨g, 0, none⟩) ps.length ps.length] W fun e w' => e = .returned (.bool true) ∧ Below W.heap.size W w' :=
  reads_row W bv xs hb hx g ps hr (fun p hp => hok p hp _ h) hn
theorem readsX4 (k : Nat) (n : Int) (u gb : Nat) (h1 : -9223372036854775808 ≤ n) (h2 : n < 9223372036854775808) (h3 : u < 18446744073709551616) (W : World) (h : Lies W gb (B8 [5, 6]) 5) (bv : Value) (xs : List UInt8) (hb : Bs W bv xs) (hx : xs.length ≤ 1000) (g : Nat) (hr : Lies W g (row4 k n u gb) 28) :
    Calls Tryz.prog 5 #[bv, .slice (some ⟨g, 0, none⟩) 4 4] W fun e w' => e = .returned (.bool true) ∧ Below W.heap.size W w' := by
  rw [← row4_eq] at hr
  exact readsX W gb h bv xs hb hx g [pX k n u gb, putN k 2, putN 0 0, pX k n u gb] hr (allX4 k n u gb h1 h2 h3) (by simp)
theorem readsX2 (k : Nat) (n : Int) (u gb : Nat) (h1 : -9223372036854775808 ≤ n) (h2 : n < 9223372036854775808) (h3 : u < 18446744073709551616) (W : World) (h : Lies W gb (B8 [5, 6]) 5) (bv : Value) (xs : List UInt8) (hb : Bs W bv xs) (hx : xs.length ≤ 1000) (g : Nat) (hr : Lies W g (row2 k n u gb) 28) :
    Calls Tryz.prog 5 #[bv, .slice (some ⟨g, 0, none⟩) 2 2] W fun e w' => e = .returned (.bool true) ∧ Below W.heap.size W w' := by
  rw [← row2_eq] at hr
  exact readsX W gb h bv xs hb hx g [pX k n u gb, pX k n u gb] hr (allX2 k n u gb h1 h2 h3) (by simp)
/-- What region 8 leaves, in whatever order. -/
def End8 (w1 : World) (k : Nat) (n : Int) (u gx gb : Nat) (V : World) : Prop := XW k n u gx gb V ∧ gx < V.heap.size ∧ gb < V.heap.size ∧ Below w1.heap.size w1 V
theorem new8 {w1 wr : World} (hb : Below w1.heap.size w1 wr) (k : Nat) (n : Int) (u : Nat) : End8 w1 k n u (wr.heap.size + 1) wr.heap.size ((wr.alloc (.cells (B8 [5, 6]) 5)).alloc (.cells (cellsX k n u wr.heap.size) 28)).drew := by
  refine ⟨⟨?_, ((Lies.new wr (B8 [5, 6]) 5).alloc _).drew⟩, by simp, by simp; omega, ((hb.alloc hb.size _).alloc (by have := hb.size; simp; omega) _).drew⟩
  have := (Lies.new (wr.alloc (.cells (B8 [5, 6]) 5)) (cellsX k n u wr.heap.size) 28).drew
  simpa using this
theorem old8 {w1 wr : World} (hb : Below w1.heap.size w1 wr) (k : Nat) (n : Int) (u : Nat) : End8 w1 k n u wr.heap.size (wr.heap.size + 1) (((wr.alloc (.cells zero28 28)).alloc (.cells (B8 [5, 6]) 5)).drew.setRow wr.heap.size (cellsX k n u (wr.heap.size + 1))) := by
  refine ⟨⟨?_, ?_⟩, by simp; omega, by simp, below_setRow ((hb.alloc hb.size _).alloc (by have := hb.size; simp; omega) _).drew _ _ hb.size⟩
  · exact (((Lies.new wr zero28 28).alloc _).drew).setRow _
  · have := (Lies.new (wr.alloc (.cells zero28 28)) (B8 [5, 6]) 5).drew
    rw [World.size_alloc] at this
    exact this.setRowOther _ _ (by omega)
theorem XW.loads {k : Nat} {n : Int} {u gx gb : Nat} {wc W : World} (h : XW k n u gx gb wc) (h1 : gx < wc.heap.size) (h2 : gb < wc.heap.size) (hb : Below wc.heap.size wc W) : XW k n u gx gb W ∧ (loadCellsFrom ⟨gx, 0, none⟩ 0 37 #[]).run Tryz.prog W = .ok (cellsX k n u gb) W :=
  ⟨h.on hb h1 h2, (h.on hb h1 h2).load⟩
end Go.Proofs.YtjbjagdpemnhiaaGreat
namespace Go.Proofs.YtjbjagdpemnhiaaGreat
open Go.RowKit

theorem bs_of_own {w : World} {B : Nat} {v : Value} {xs : List UInt8} (h : w.ownsRow B 5 1 v xs.length (B8 xs).toList) : Bs w v xs := by
  rcases h.2 with ⟨rfl, hn⟩ | ⟨k, cap, cur, rfl, h1, h2, h3, h4, h5⟩
  · exact .inl ⟨rfl, List.eq_nil_of_length_eq_zero hn⟩
  · exact .inr ⟨_, cap, rfl, h3, h4, fun _ => rfl, src_news (own_src h)⟩
theorem step_cat {ops : Array Oper} {o : Oper} {a : Act} {W w4 : World} {K : Act → World → Prop} {Q : Exit → Act → World → Prop} {E : Prop} (hw : Region.wanted o (yielded ops a.tmps) = true) (s x : Operand)
    (ho : o.op = .call { callee := .builtin .append, args := #[s, x], argTypes := #[26, 26] }) (g : Nat) (hs : a.eval s = .slice (some ⟨g, 0, none⟩) 2 2) (hl : Lies W g (B8 [0, 2]) 5) (hg : w4.heap.size ≤ g) (hb : Below w4.heap.size w4 W)
    (g9 : Nat) (xs : List UInt8) (m : Nat) (hm : xs.length = m) (hx : a.eval x = .slice (some ⟨g9, 0, none⟩) m 9) (hsrc : SrcA W ⟨g9, 0, none⟩ xs) (hlen : m ≤ 9)
    (h : ∀ v' W2, Below w4.heap.size w4 W2 → W.heap.size ≤ W2.heap.size → Bs W2 v' ([0, 2] ++ xs) → (∀ r cs t, Lies W r cs t → r ≠ g → Lies W2 r cs t) → K (a.put o.dst v') W2) :
    if Region.wanted o (yielded ops a.tmps) = true then Oper.wp Tryz.prog o a W K Q else E := by
  rw [if_pos hw]
  subst hm
  obtain ⟨i0, hi0, hz0, hz1, hz2⟩ := info_parts info5
  have hown : W.ownsRow w4.heap.size 5 1 (.slice (some ⟨g, 0, none⟩) 2 2) 2 (B8 [0, 2]).toList := ⟨rfl, .inr ⟨g, 2, _, rfl, hg, hl, Nat.le_refl _, by unfold maxLen; omega, rfl, rfl⟩⟩
  obtain ⟨v', w', hr, h2, h3, h4, h5⟩ := run_append_own_at (P := Tryz.prog) W w4.heap.size 26 o.type 5 i0 (.int .u8 0) 1 1 Tryz.underlying26 hi0 hz0 hz1 hz2 rfl (by decide) _ 2 _ hown ⟨g9, 0, none⟩ xs.length 9 (B8 xs).toList (by rw [Array.length_toList, B8_size, Nat.mul_one]) hsrc (byts_one _) (by unfold maxLen; omega) (by omega) hb.size
  have h3' : W.grownBy w' (some g) := h3
  have e : (B8 ([0, 2] ++ xs)).toList = (B8 [0, 2]).toList ++ (B8 xs).toList := by simp [B8]
  have h2' : w'.ownsRow w4.heap.size 5 1 v' ([0, 2] ++ xs).length (B8 ([0, 2] ++ xs)).toList := by
    rw [e, List.length_append]
    exact h2
  unfold Oper.wp execOp
  simp only [ho, resolve, invoke, builtin, Sem.run_bind, Sem.run_pure, Result.andThen_ok, List.map_toArray, List.map_cons, List.map_nil, hs, hx, hr]
  exact h v' w' (hb.grown h3' hb.size (fun x e => by have := Option.some.inj e; omega)) h3'.size (bs_of_own h2') (fun r cs t hr hne => hr.grown h3' hne)
/-- Two bytes, then the append. -/
theorem step_cat1 {ops : Array Oper} {o : Oper} {a : Act} {w4 : World} {K : Act → World → Prop} {Q : Exit → Act → World → Prop} {E : Prop} (hw : Region.wanted o (yielded ops a.tmps) = true) (s x : Operand)
    (ho : o.op = .call { callee := .builtin .append, args := #[s, x], argTypes := #[26, 26] }) (hs : a.eval s = .slice (some ⟨w4.heap.size, 0, none⟩) 2 2)
    (g9 : Nat) (xs : List UInt8) (m : Nat) (hm : xs.length = m) (hx : a.eval x = .slice (some ⟨g9, 0, none⟩) m 9) (hsrc : ∀ W, Below w4.heap.size w4 W → SrcA W ⟨g9, 0, none⟩ xs) (hlen : m ≤ 9)
    (h : ∀ v' W2, Below w4.heap.size w4 W2 → Bs W2 v' ([0, 2] ++ xs) → K (a.put o.dst v') W2) :
    if Region.wanted o (yielded ops a.tmps) = true then Oper.wp Tryz.prog o a (w4.alloc (.cells #[.int .u8 0, .int .u8 2] 5)) K Q else E := by
  have hb : Below w4.heap.size w4 (w4.alloc (.cells #[.int .u8 0, .int .u8 2] 5)) := (Below.refl _ _).alloc (Nat.le_refl _) _
  exact step_cat hw s x ho _ hs (Lies.new w4 (B8 [0, 2]) 5) (Nat.le_refl _) hb g9 xs m hm hx (hsrc _ hb) hlen fun v' W2 h1 _ h2 _ => h v' W2 h1 h2
/-- Two bytes, a row, then the append. -/
theorem step_cat2 {ops : Array Oper} {o : Oper} {a : Act} {w4 : World} {cs : Array Value} {K : Act → World → Prop} {Q : Exit → Act → World → Prop} {E : Prop} (hw : Region.wanted o (yielded ops a.tmps) = true) (s x : Operand)
    (ho : o.op = .call { callee := .builtin .append, args := #[s, x], argTypes := #[26, 26] }) (hs : a.eval s = .slice (some ⟨w4.heap.size, 0, none⟩) 2 2)
    (g9 : Nat) (xs : List UInt8) (m : Nat) (hm : xs.length = m) (hx : a.eval x = .slice (some ⟨g9, 0, none⟩) m 9) (hsrc : ∀ W, Below w4.heap.size w4 W → SrcA W ⟨g9, 0, none⟩ xs) (hlen : m ≤ 9)
    (h : ∀ v' W2, Below w4.heap.size w4 W2 → Bs W2 v' ([0, 2] ++ xs) → Lies W2 (w4.heap.size + 1) cs 28 → K (a.put o.dst v') W2) :
    if Region.wanted o (yielded ops a.tmps) = true then Oper.wp Tryz.prog o a ((w4.alloc (.cells #[.int .u8 0, .int .u8 2] 5)).alloc (.cells cs 28)) K Q else E := by
  have hb : Below w4.heap.size w4 ((w4.alloc (.cells #[.int .u8 0, .int .u8 2] 5)).alloc (.cells cs 28)) := ((Below.refl _ _).alloc (Nat.le_refl _) _).alloc (by simp) _
  have hr := Lies.new (w4.alloc (.cells #[.int .u8 0, .int .u8 2] 5)) cs 28
  rw [World.size_alloc] at hr
  exact step_cat hw s x ho _ hs ((Lies.new w4 (B8 [0, 2]) 5).alloc _) (Nat.le_refl _) hb g9 xs m hm hx (hsrc _ hb) hlen fun v' W2 h1 _ h2 h3 => h v' W2 h1 h2 (h3 _ _ _ hr (by omega))
/-- A row, two bytes, then the append. -/
theorem step_cat3 {ops : Array Oper} {o : Oper} {a : Act} {w4 : World} {cs : Array Value} {K : Act → World → Prop} {Q : Exit → Act → World → Prop} {E : Prop} (hw : Region.wanted o (yielded ops a.tmps) = true) (s x : Operand)
    (ho : o.op = .call { callee := .builtin .append, args := #[s, x], argTypes := #[26, 26] }) (hs : a.eval s = .slice (some ⟨w4.heap.size + 1, 0, none⟩) 2 2)
    (g9 : Nat) (xs : List UInt8) (m : Nat) (hm : xs.length = m) (hx : a.eval x = .slice (some ⟨g9, 0, none⟩) m 9) (hsrc : ∀ W, Below w4.heap.size w4 W → SrcA W ⟨g9, 0, none⟩ xs) (hlen : m ≤ 9)
    (h : ∀ v' W2, Below w4.heap.size w4 W2 → Bs W2 v' ([0, 2] ++ xs) → Lies W2 w4.heap.size cs 28 → K (a.put o.dst v') W2) :
    if Region.wanted o (yielded ops a.tmps) = true then Oper.wp Tryz.prog o a ((w4.alloc (.cells cs 28)).alloc (.cells #[.int .u8 0, .int .u8 2] 5)) K Q else E := by
  have hb : Below w4.heap.size w4 ((w4.alloc (.cells cs 28)).alloc (.cells #[.int .u8 0, .int .u8 2] 5)) := ((Below.refl _ _).alloc (Nat.le_refl _) _).alloc (by simp) _
  have hl := Lies.new (w4.alloc (.cells cs 28)) (B8 [0, 2]) 5
  rw [World.size_alloc] at hl
  exact step_cat hw s x ho _ hs hl (by omega) hb g9 xs m hm hx (hsrc _ hb) hlen fun v' W2 h1 _ h2 h3 => h v' W2 h1 h2 (h3 _ _ _ ((Lies.new w4 cs 28).alloc _) (by omega))
end Go.Proofs.YtjbjagdpemnhiaaGreat
