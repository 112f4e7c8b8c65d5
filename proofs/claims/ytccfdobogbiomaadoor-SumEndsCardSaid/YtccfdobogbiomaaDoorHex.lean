/-
  hex: a hash's digits.
-/
import Derived.Test.YtccfdobogbiomaaDoorOf
import Derived.Laws.IdiomStrings
import Derived.Deep.AppendLies
import Derived.Deep.RegionHeld3
namespace Go.Proofs.YtccfdobogbiomaaDoor
open Go.RowKit Sha

def digs : List UInt8 := [48, 49, 50, 51, 52, 53, 54, 55, 56, 57, 97, 98, 99, 100, 101, 102]
def dig (n : Nat) : UInt8 := digs.getD n 0
def hexs (l : List UInt8) : List UInt8 := l.flatMap fun b => [dig (b.toNat / 16), dig (b.toNat % 16)]

theorem digit_fin : ∀ n : Fin 16, (⟨#[48, 49, 50, 51, 52, 53, 54, 55, 56, 57, 97, 98, 99, 100, 101, 102]⟩ : ByteArray)[n.val]'n.isLt = dig n.val := by decide
theorem digit_at (n : Nat) (hn : n < 16) (h : n < (⟨#[48, 49, 50, 51, 52, 53, 54, 55, 56, 57, 97, 98, 99, 100, 101, 102]⟩ : ByteArray).size) :
    (⟨#[48, 49, 50, 51, 52, 53, 54, 55, 56, 57, 97, 98, 99, 100, 101, 102]⟩ : ByteArray)[n] = dig n := digit_fin ⟨n, hn⟩
theorem info5 : (Tryd.prog.info? 5).map (fun i => (i.zero, i.size, i.bytes)) = some (some (.int .u8 0), 1, 1) := by kernel_rfl
theorem quo16 (b : UInt8) : IntKind.u8.wrap ((b.toNat : Int) / 16) = ((b.toNat / 16 : Nat) : Int) := by
  have := b.toNat_lt; rw [IntKind.wrap_u8']; omega
theorem rem16 (b : UInt8) : IntKind.u8.wrap ((b.toNat : Int) % 16) = ((b.toNat % 16 : Nat) : Int) := by
  have := b.toNat_lt; rw [IntKind.wrap_u8']; omega

theorem rem16t (b : UInt8) : IntKind.u8.wrap ((b.toNat : Int).tmod 16) = ((b.toNat % 16 : Nat) : Int) := by
  have := b.toNat_lt; rw [IntKind.wrap_u8', Int.tmod_eq_emod_of_nonneg (by omega)]; omega
theorem rem16b (b : UInt8) : (b.toNat : Int).tmod 16 = ((b.toNat % 16 : Nat) : Int) := by
  rw [Int.tmod_eq_emod_of_nonneg (by omega)]; omega
theorem rem16c (b : UInt8) : (b.toNat : Int) % 16 = ((b.toNat % 16 : Nat) : Int) := by omega
def AtH (w : World) (l : List UInt8) (k : Nat) (v : Value) (wr : World) : Prop :=
  wr.ownsRow (w.heap.size + 1) 5 1 v (2 * k) (B8 (hexs (l.take k))).toList ∧ Lies wr w.heap.size (B8 l) 27 ∧ Below w.heap.size w wr

theorem hexs_succ (l : List UInt8) (k : Nat) (hk : k < l.length) : hexs (l.take (k + 1)) = hexs (l.take k) ++ [dig ((l.getD k 0).toNat / 16), dig ((l.getD k 0).toNat % 16)] := by
  unfold hexs
  rw [List.take_succ_eq_append_getElem hk, List.flatMap_append]
  simp [hk]
theorem AtH.next {w : World} {l : List UInt8} {k gg cap : Nat} {v : Value} {wr w1 : World} {d1 d2 : UInt8} (h : AtH w l k v wr) (hk : k < l.length)
    (hd1 : d1 = dig ((l.getD k 0).toNat / 16)) (hd2 : d2 = dig ((l.getD k 0).toNat % 16))
    (hown : w1.ownsRow (w.heap.size + 1) 5 1 (.slice (some ⟨gg, 0, none⟩) (2 * k + 2) cap) (2 * k + 2) ((B8 (hexs (l.take k))).toList ++ [.int .u8 d1.toNat, .int .u8 d2.toNat]))
    (hgrow : (wr.alloc (.cells #[.int .u8 d1.toNat, .int .u8 d2.toNat] 5)).drew.grownBy w1 v.ownBlock) : AtH w l (k + 1) (.slice (some ⟨gg, 0, none⟩) (2 * k + 2) cap) w1 := by
  obtain ⟨h1, h2, h3⟩ := h
  have hlt := h1.lt
  refine ⟨?_, ?_, ?_⟩
  · rw [hexs_succ l k hk, ← hd1, ← hd2]
    have e : (B8 (hexs (l.take k) ++ [d1, d2])).toList = (B8 (hexs (l.take k))).toList ++ [.int .u8 d1.toNat, .int .u8 d2.toNat] := by simp [B8]
    rw [e]
    exact hown
  · have h2' : Lies (wr.alloc (.cells #[.int .u8 d1.toNat, .int .u8 d2.toNat] 5)).drew w.heap.size (B8 l) 27 := h2.alloc _
    exact (hgrow.block w.heap.size h2'.lt (fun e => by have := (hlt _ e.symm).1; omega)).trans h2'
  · exact ((h3.alloc h3.size _).drew).grown hgrow (by have := h3.size; simp; omega) (fun j e => by have := (hlt _ e).1; omega)

theorem hexs_length (l : List UInt8) : (hexs l).length = 2 * l.length := by
  induction l with
  | nil => rfl
  | cons a l ih => unfold hexs at ih ⊢; rw [List.flatMap_cons, List.length_append, ih, List.length_cons]; simp; omega
theorem hex_text (l : List UInt8) (hl : l.length = 32) (v : Value) (wr : World) (base : Nat) (h : wr.ownsRow base 5 1 v (2 * 32) (B8 (hexs l)).toList) :
    Sem.run Tryd.prog (convert 38 9 v) wr = .ok (.string ⟨(hexs l).toArray⟩) wr := by
  have hlen := hexs_length l
  rw [hl] at hlen
  have hc := fun g hg => h.cells (g := g) hg
  rcases h.2 with ⟨_, h0⟩ | ⟨g, cap, cur, rfl, _⟩
  · omega
  · have := run_convert_bytes_back (P := Tryd.prog) wr 38 9 5 ⟨g, 0, none⟩ cap (hexs l) Tryd.underlying38 Tryd.underlying5 Tryd.underlying9 (fun j hj => hc g rfl j _ (by
      rw [Array.getElem?_toList, B8_get _ j hj]; simp [hj]))
    rw [hlen] at this
    exact this

set_option maxRecDepth 100000 in
set_option maxHeartbeats 2000000 in
theorem hex_any (l : List UInt8) (hl : l.length = 32) (w : World) :
    Calls Tryd.prog 19 #[.agg (B8 l)] w fun e w' => e = .returned (.string ⟨(hexs l).toArray⟩) ∧ Below w.heap.size w w' := by
  have hat : AtH w l 0 (.slice none 0 0) (w.alloc (.cells (B8 l) 27)) := ⟨World.ownsRow_nil _ _ _ _, Lies.new w _ _, (Below.refl _ _).alloc (Nat.le_refl _) _⟩
  have HAT := Lib.hid hat
  have HL := Lib.hid hl
  clear hat hl
  go_enter Tryd.func19, Tryd.ntmps19
  go_wp2_with fail
  go_loopw [4, 5] (fun v i wr => ∃ k : Nat, k ≤ 32 ∧ i = .int .i64 k ∧ AtH w l k v wr) (fun _ i _ => 32 - (intOf i).toNat)
  case atStart => exact ⟨0, by omega, rfl, HAT.out⟩
  case round =>
    obtain ⟨k, hk, rfl, hat⟩ := hrel
    have HR := Lib.hid hat
    clear hat HAT
    by_cases hlt : k < 32
    · have hc := HR.out.2.1.cell k (B8_get l k (by have := HL.out; omega))
      obtain ⟨b, hb⟩ : ∃ b, b = l.getD k 0 := ⟨_, rfl⟩
      rw [← hb] at hc
      have HB := Lib.hid hb
      clear hb
      have m1 : (k : Int) < 32 := by omega
      have hq := quo16 b
      have hr := rem16 b
      have hrt := rem16t b
      have hrb := rem16b b
      have hrc := rem16c b
      obtain ⟨p, hp⟩ : ∃ p, p = b.toNat / 16 := ⟨_, rfl⟩
      obtain ⟨r, hr2⟩ : ∃ r, r = b.toNat % 16 := ⟨_, rfl⟩
      rw [← hp] at hq
      rw [← hr2] at hr hrt hrb hrc
      have p16 : p < 16 := by have := b.toNat_lt; omega
      have r16 : r < 16 := by omega
      have pi16 : (p : Int) < 16 := by omega
      have ri16 : (r : Int) < 16 := by omega
      have i1 := digit_at p p16
      have i2 := digit_at r r16
      have HPR := Lib.hid (And.intro hp hr2)
      clear hp hr2
      obtain ⟨i0, hi0, hz0, hz1, hz2⟩ := info_parts info5
      obtain ⟨d1, hd1⟩ : ∃ d1, d1 = dig p := ⟨_, rfl⟩
      obtain ⟨d2, hd2⟩ : ∃ d2, d2 = dig r := ⟨_, rfl⟩
      rw [← hd1] at i1
      rw [← hd2] at i2
      have HD := Lib.hid (And.intro hd1 hd2)
      clear hd1 hd2
      have hws : w.heap.size < wr.heap.size := HR.out.2.1.lt
      have hnb : some w.heap.size ≠ u4.ownBlock := fun e => by have := (HR.out.1.lt _ e.symm).1; omega
      go_wp2_with fail
      go_region_held3 (fun w' => w'.cell? ⟨w.heap.size, k, none⟩ = some (.int .u8 b.toNat))
        (first
          | go_keep
          | (go_split_ands
             (rw [hgrow.cell_far _ (by simp; omega) hnb]; assumption)))
        ((refine step_append_lies _ (by rfl) _ _ _ (by rfl) (w.heap.size + 1) 5 i0 _ 1 1 Tryd.underlying38 hi0 hz0 hz1 hz2 rfl (by omega) u4 (2 * k) _ (by rfl) ((HR.out.1.alloc _).drew)
            ⟨wr.heap.size, 0, none⟩ 2 2 [.int .u8 d1.toNat, .int .u8 d2.toNat] (by rfl) (by rfl) (World.news_of_block (cs := #[.int .u8 d1.toNat, .int .u8 d2.toNat]) (t := 5) (fr := (0, 0)) (heap_alloc_new wr _)) (by simp [Value.oneCell'])
            (by omega) (by unfold maxLen; omega) (by omega) (by simp; omega) (wr.heap.size + 1) (by simp) ?_; intro gg cap w1 hown1 hgrow hat hlt2))
      all_goals
        have hN := AtH.next HR.out (by have := HL.out; omega) (by rw [← HB.out, ← HPR.out.1]; exact HD.out.1) (by rw [← HB.out, ← HPR.out.2]; exact HD.out.2) hown1 hgrow
        have HN := Lib.hid hN
        clear hN hown1 hgrow hat hlt2 hnb hws i1 i2 hq hr hrt hrb hrc
        try go_wp2_with fail
        refine ⟨⟨k + 1, by omega, by go_num, HN.out⟩, ?_⟩
        simp [intOf]; omega
    · have hd : decide ((k : Int) < 32) = false := by simp; omega
      have hk32 : k = 32 := by omega
      have hat := HR.out
      rw [hk32] at hat
      unfold AtH at hat
      rw [List.take_of_length_le (by have := HL.out; omega)] at hat
      have htx := hex_text l HL.out u4 wr _ hat.1
      have HX := Lib.hid hat.2.2
      clear hat HR hk32 hlt hk
      go_wp2_with fail
      go_ret
      exact ⟨rfl, HX.out⟩
end Go.Proofs.YtccfdobogbiomaaDoor
