/-
  LentBytes: a copy of any bytes (at most 3000), twelve marks behind them within its room.
-/
import Derived.Test.YtccfdobogbiomaaDoorMarks
import Derived.Test.YtccfdobogbiomaaDoorRefOf
namespace Go.Proofs.YtccfdobogbiomaaDoor
open Go.RowKit Sha

def marks (n : Nat) : List UInt8 := (List.range n).map mark8
theorem marks_length (n : Nat) : (marks n).length = n := by simp [marks]
theorem marks_succ (n : Nat) : marks (n + 1) = marks n ++ [mark8 n] := by simp [marks, List.range_succ]
theorem wpList_moreQ {w0 w : World} {ops : Array Oper} {rest : List Oper} {o : Oper} {a : Act} {Q : Exit → Act → World → Prop} (hgd : o.guard = none) (sx x : Operand)
    (ho : o.op = .call { callee := .builtin .append, args := #[sx, x], argTypes := #[38, 38] }) (l : List UInt8) (v : Value) (p : Part)
    (hs : a.eval sx = v) (hx : a.eval x = .slice p.at_ p.xs.length p.cap) (hp : Good w p) (hneat : p.at_ = none → p.cap = 0) (hl : l.length + p.xs.length ≤ 2000000) (h : AtQ w0 l v w)
    (k : ∀ v' w', Hid (AtQ w0 (l ++ p.xs) v' w') → wpList Tryd.prog ops Q rest (a.put o.dst v') w') : wpList Tryd.prog ops Q (o :: rest) a w := by
  obtain ⟨i0, hi0, hz0, hz1, hz2⟩ := info_parts info5
  obtain ⟨pa, xs, pc⟩ := p
  obtain ⟨g1, g2, g3⟩ := hp
  simp only at hx hneat hl g1 g2 g3 k
  cases pa with
  | none =>
    have hc := hneat rfl
    have hx0 : xs = [] := List.eq_nil_of_length_eq_zero (by omega)
    subst hx0 hc
    refine wpList_append_own_none hgd sx x 38 ho w0.heap.size 5 i0 1 Tryd.underlying38 hi0 v l.length (B8 l).toList hs h.1 hx ?_
    exact k v w (by rw [List.append_nil]; exact h)
  | some ad =>
    refine wpList_append_own _ hgd sx x 38 ho w0.heap.size 5 i0 (.int .u8 0) 1 1 Tryd.underlying38 hi0 hz0 hz1 hz2 rfl (by decide) v l.length (B8 l).toList hs h.1 ad xs.length pc (B8 xs).toList hx (by rw [Array.length_toList, B8_size, Nat.mul_one]) ?_ (byts_one _) (by unfold maxLen; omega) (by omega) h.2.size ?_
    · by_cases hp : 0 < xs.length
      · obtain ⟨g, off, e, _, hsrc⟩ := g3 hp
        cases e
        exact src_news hsrc
      · have hx0 : xs = [] := List.eq_nil_of_length_eq_zero (by omega)
        subst hx0
        intro j u hu
        simp [B8] at hu
    · intro v' w' hown hgrow _
      refine k v' w' ⟨?_, ?_⟩
      · have e : (B8 (l ++ xs)).toList = (B8 l).toList ++ (B8 xs).toList := by simp [B8]
        rw [e, List.length_append]; exact hown
      · exact h.2.grown hgrow h.2.size (fun j e => (h.1.lt j e).1)

/-- New bytes, l, in block n, with room for c. -/
def OwnB (w : World) (n c : Nat) (l : List UInt8) : Prop := w.ownsRow 0 5 1 (.slice (some ⟨n, 0, none⟩) l.length c) l.length (B8 l).toList
theorem AtQ.ownB {w0 : World} {l : List UInt8} {g c : Nat} {w : World} (h : AtQ w0 l (.slice (some ⟨g, 0, none⟩) l.length c) w) : OwnB w g c l := by
  refine ⟨h.1.1, ?_⟩
  rcases h.1.2 with ⟨e, _⟩ | ⟨g', cap, cur, e, _, h2⟩
  · cases e
  · exact .inr ⟨g', cap, cur, e, Nat.zero_le _, h2⟩
def Lent (w : World) (xs : List UInt8) (e : Ending) (w' : World) : Prop :=
  ∃ n c, e = .returned (.slice (some ⟨n, 0, none⟩) xs.length c) ∧ OwnB w' n c (xs ++ marks 12) ∧ w.heap.size ≤ n ∧ Below w.heap.size w w'

set_option maxRecDepth 100000 in
set_option maxHeartbeats 2000000 in
theorem lent_any (pa : Option Addr) (xs : List UInt8) (pc : Nat) (w : World) (hg : Good w ⟨pa, xs, pc⟩) (hneat : pa = none → pc = 0) (hx : xs.length ≤ 3000) :
    Calls Tryd.prog 20 #[.slice pa xs.length pc] w (Lent w xs) := by
  obtain ⟨i0, hi0, hz0, hz1, hz2⟩ := info_parts info5
  have HG := Lib.hid hg
  have HN := Lib.hid hneat
  have hmk : i0.bytes * (xs.length + 12) ≤ 281474976710656 := by rw [hz2]; omega
  have HMK := Lib.hid hmk
  have HI := Lib.hid (And.intro hi0 (And.intro hz0 hz1))
  clear hg hneat hmk hi0 hz0 hz1 hz2
  go_enter Tryd.func20, Tryd.ntmps20
  go_upto_region 2 with (at_make; go_must (refine wpList_make_own _ rfl _ _ 38 rfl w.heap.size 5 i0 (.int .u8 0) 1 Tryd.underlying38 HI.out.1 HI.out.2.1 HI.out.2.2 .i64 .i64 _ (xs.length + 12) rfl rfl rfl HMK.out (by unfold maxLen; omega) (Nat.le_refl _) ?_; intro w2 hown hgrow))
  have hq : AtQ w [] (.slice (some ⟨w.heap.size, 0, none⟩) 0 (xs.length + 12)) w2 := ⟨hown, (Below.refl _ _).grown hgrow (Nat.le_refl _) (fun j e => by cases e)⟩
  have HQ := Lib.hid hq
  have HG2 := Lib.hid (Good.below HG.out hq.2)
  clear hq hown hgrow HI HMK HG
  go_upto_region 3 with (at_builtin; go_must (refine wpList_moreQ rfl _ _ rfl [] _ ⟨pa, xs, pc⟩ rfl rfl HG2.out HN.out (by simp; omega) HQ.out ?_; intro v3 w3 HQ3))
  go_wp2_with fail
  go_loopw [3, 4] (fun v i wr => ∃ k : Nat, k ≤ 12 ∧ i = .int .i64 k ∧ AtQ w (xs ++ marks k) v wr) (fun _ i _ => 12 - (intOf i).toNat)
  case atStart => exact ⟨0, by omega, rfl, by have := HQ3.out; simpa [marks] using this⟩
  case round =>
    obtain ⟨k, hk, rfl, hat⟩ := hrel
    have HA := Lib.hid hat
    clear hat HQ3
    by_cases hlt : k < 12
    · have hl : (xs ++ marks k).length ≤ 2000000 := by rw [List.length_append, marks_length]; omega
      have hsu : xs ++ marks k ++ [mark8 k] = xs ++ marks (k + 1) := by rw [marks_succ, List.append_assoc]
      have HLL := Lib.hid hl
      have HSU := Lib.hid hsu
      have m1 : (k : Int) < 12 := by omega
      clear hl hsu
      go_wp2_with (first | (go_at_call 31; refine (mark_any k hlt _).mono ?_; rintro e w5 ⟨rfl, rfl⟩) | (at_builtin; go_must (refine wpList_push rfl _ _ rfl (xs ++ marks k) _ (mark8 k) rfl rfl HLL.out HA.out ?_; intro v5 w5 HQ5; rw [HSU.out] at HQ5)))
      refine ⟨⟨k + 1, by omega, by go_num, HQ5.out⟩, ?_⟩
      simp [intOf]; omega
    · have hk12 : k = 12 := by omega
      subst hk12
      obtain ⟨g, c, hv⟩ := HA.out.shape (by rw [List.length_append, marks_length]; omega)
      have hat := HA.out
      rw [hv] at hat ⊢
      have hroom := hat.room
      rw [List.length_append, marks_length] at hroom
      have HOB := Lib.hid hat.ownB
      have HB := Lib.hid hat.2
      have HB2 := Lib.hid hat.byts.2
      rw [List.length_append, marks_length]
      obtain ⟨r1, r2, _⟩ := hroom
      have r3 : (xs.length : Int) ≤ (c : Int) := by omega
      have r4 : ¬ c = 0 := by omega
      clear hat hv HA hlt hk
      go_wp2_with fail
      go_ret
      exact ⟨g, c, rfl, HOB.out, HB2.out, HB.out⟩
end Go.Proofs.YtccfdobogbiomaaDoor
