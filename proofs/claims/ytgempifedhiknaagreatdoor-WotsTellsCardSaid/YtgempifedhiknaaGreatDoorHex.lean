/-
  hex: a hash's digits.
-/
import Derived.Test.YtgempifedhiknaaGreatDoorOf
import Derived.Laws.IdiomStrings
import Derived.Deep.AppendLies
import Derived.Deep.RegionHeld3
namespace Go.Proofs.YtgempifedhiknaaGreatDoor
set_option maxRecDepth 100000
open Go.RowKit Sha

def digs : List UInt8 := [65, 49, 50, 68, 52, 53, 54, 55, 56, 57, 97, 98, 99, 100, 101, 102]
def dig (n : Nat) : UInt8 := digs.getD n 0
def hexs (l : List UInt8) : List UInt8 := l.flatMap fun b => [dig (b.toNat / 16), dig (b.toNat % 16)]

theorem digit_fin : ∀ n : Fin 16, (⟨#[65, 49, 50, 68, 52, 53, 54, 55, 56, 57, 97, 98, 99, 100, 101, 102]⟩ : ByteArray)[n.val]'n.isLt = dig n.val := by decide
theorem digit_at (n : Nat) (hn : n < 16) (h : n < (⟨#[65, 49, 50, 68, 52, 53, 54, 55, 56, 57, 97, 98, 99, 100, 101, 102]⟩ : ByteArray).size) :
    (⟨#[65, 49, 50, 68, 52, 53, 54, 55, 56, 57, 97, 98, 99, 100, 101, 102]⟩ : ByteArray)[n] = dig n := digit_fin ⟨n, hn⟩
theorem info5 : (Tryz.prog.info? 5).map (fun i => (i.zero, i.size, i.bytes)) = some (some (.int .u8 0), 1, 1) := by kernel_rfl
theorem quo16 (b : UInt8) : IntKind.u8.wrap ((b.toNat : Int) / 16) = ((b.toNat / 16 : Nat) : Int) := by
  have := b.toNat_lt; rw [IntKind.wrap_u8']; omega
theorem rem16 (b : UInt8) : IntKind.u8.wrap ((b.toNat : Int) % 16) = ((b.toNat % 16 : Nat) : Int) := by
  have := b.toNat_lt; rw [IntKind.wrap_u8']; omega

theorem rem16t (b : UInt8) : IntKind.u8.wrap ((b.toNat : Int).tmod 16) = ((b.toNat % 16 : Nat) : Int) := by
  have := b.toNat_lt; rw [IntKind.wrap_u8', Int.tmod_eq_emod_of_nonneg (by omega)]; omega
theorem rem16b (b : UInt8) : (b.toNat : Int).tmod 16 = ((b.toNat % 16 : Nat) : Int) := by
  rw [Int.tmod_eq_emod_of_nonneg (by omega)]; omega
theorem rem16c (b : UInt8) : (b.toNat : Int) % 16 = ((b.toNat % 16 : Nat) : Int) := by omega
def AtH (w : World) (l : List UInt8) (k : Nat) (v : Value) (wr : World) : Prop :=
  wr.ownsRow (w.heap.size + 1) 5 1 v (2 * k) (B8 (hexs (l.take k))).toList ∧ Lies wr w.heap.size (B8 l) 24 ∧ Below w.heap.size w wr

theorem hexs_succ (l : List UInt8) (k : Nat) (hk : k < l.length) : hexs (l.take (k + 1)) = hexs (l.take k) ++ [dig ((l.getD k 0).toNat / 16), dig ((l.getD k 0).toNat % 16)] := by
  unfold hexs
  rw [List.take_succ_eq_append_getElem hk, List.flatMap_append]
  simp [hk]
theorem AtH.next {w : World} {l : List UInt8} {k gg cap : Nat} {v : Value} {wr w1 : World} {d1 d2 : UInt8} (h : AtH w l k v wr) (hk : k < l.length)
    (hd1 : d1 = dig ((l.getD k 0).toNat / 16)) (hd2 : d2 = dig ((l.getD k 0).toNat % 16))
    (hown : w1.ownsRow (w.heap.size + 1) 5 1 (.slice (some ⟨gg, 0, none⟩) (2 * k + 2) cap) (2 * k + 2) ((B8 (hexs (l.take k))).toList ++ [.int .u8 d1.toNat, .int .u8 d2.toNat]))
    (hgrow : (wr.alloc (.cells #[.int .u8 d1.toNat, .int .u8 d2.toNat] 5)).drew.grownBy w1 v.ownBlock) : AtH w l (k + 1) (.slice (some ⟨gg, 0, none⟩) (2 * k + 2) cap) w1 := by
  obtain ⟨h1, h2, h3⟩ := h
  have hlt := h1.lt
  refine ⟨?_, ?_, ?_⟩
  · rw [hexs_succ l k hk, ← hd1, ← hd2]
    have e : (B8 (hexs (l.take k) ++ [d1, d2])).toList = (B8 (hexs (l.take k))).toList ++ [.int .u8 d1.toNat, .int .u8 d2.toNat] := by simp [B8]
    rw [e]
    exact hown
  · have h2' : Lies (wr.alloc (.cells #[.int .u8 d1.toNat, .int .u8 d2.toNat] 5)).drew w.heap.size (B8 l) 24 := h2.alloc _
    exact (hgrow.block w.heap.size h2'.lt (fun e => by have := (hlt _ e.symm).1; omega)).trans h2'
  · exact ((h3.alloc h3.size _).drew).grown hgrow (by have := h3.size; simp; omega) (fun j e => by have := (hlt _ e).1; omega)

theorem hexs_length (l : List UInt8) : (hexs l).length = 2 * l.length := by
  induction l with
  | nil => rfl
  | cons a l ih => unfold hexs at ih ⊢; rw [List.flatMap_cons, List.length_append, ih, List.length_cons]; simp; omega
theorem hex_text (l : List UInt8) (hl : l.length = 32) (v : Value) (wr : World) (base : Nat) (h : wr.ownsRow base 5 1 v (2 * 32) (B8 (hexs l)).toList) :
    Sem.run Tryz.prog (convert 22 9 v) wr = .ok (.string ⟨(hexs l).toArray⟩) wr := by
  have hlen := hexs_length l
  rw [hl] at hlen
  have hc := fun g hg => h.cells (g := g) hg
  rcases h.2 with ⟨_, h0⟩ | ⟨g, cap, cur, rfl, _⟩
  · omega
  · have := run_convert_bytes_back (P := Tryz.prog) wr 22 9 5 ⟨g, 0, none⟩ cap (hexs l) Tryz.underlying22 Tryz.underlying5 Tryz.underlying9 (fun j hj => hc g rfl j _ (by
      rw [Array.getElem?_toList, B8_get _ j hj]; simp [hj]))
    rw [hlen] at this
    exact this

end Go.Proofs.YtgempifedhiknaaGreatDoor
