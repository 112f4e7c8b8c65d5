/-
  The document's own writer (reference): a number's bytes go behind.
-/
import Derived.Test.YtjbjagdpemnhiaaGreatPutSt
namespace Go.Proofs.YtjbjagdpemnhiaaGreat
open Go.RowKit

/-- The reference writer in block g whose bytes are l. -/
def RfV (w : World) (B g : Nat) (v : Value) (l : List UInt8) : Prop :=
  Lies w g #[v, .bool false] 38 ∧ w.ownsRow B 5 1 v l.length (B8 l).toList ∧ v.ownBlock ≠ some g ∧ B ≤ g
def RMore (w : World) (B g : Nat) (v : Value) (l : List UInt8) (w' : World) : Prop :=
  ∃ v', RfV w' B g v' l ∧ Only g w w' v.ownBlock ∧ (v'.ownBlock = v.ownBlock ∨ ∃ k, v'.ownBlock = some k ∧ w.heap.size ≤ k ∧ k < w'.heap.size)
theorem rmore_of {w w1 : World} {B g : Nat} {v v' : Value} {l l2 : List UInt8} (h : RfV w B g v l) (hown : w1.ownsRow B 5 1 v' l2.length (B8 l2).toList) (hg : w.grownBy w1 v.ownBlock) (hat : v'.ownBlock = v.ownBlock ∨ v'.ownBlock = some w.heap.size) :
    RMore w B g v l2 (w1.setCell ⟨g, 0, none⟩ v') := by
  obtain ⟨h1, h2, h3, h4⟩ := h
  have hgl : g < w.heap.size := h1.lt
  have hne : v'.ownBlock ≠ some g := by
    rcases hat with e | e
    · rw [e]; exact h3
    · rw [e]; intro e2; have := Option.some.inj e2; omega
  have hl1 : Lies w1 g #[v, .bool false] 38 := (hg.block g hgl (fun e => h3 e.symm)).trans h1
  refine ⟨v', ⟨hl1.set 0 v', own_set hown hne, hne, h4⟩, ⟨hg.os, hg.tape, hg.output, by rw [size_set]; exact hg.size, fun k hk h5 h6 => (heap_setCell_other w1 _ k v' h5).trans (hg.block k hk h6)⟩, ?_⟩
  rcases hat with e | e
  · exact .inl e
  · exact .inr ⟨_, e, Nat.le_refl _, by rw [size_set]; exact own_lt hown e⟩

theorem RMore.trans {w w1 w2 : World} {B g : Nat} {v v1 : Value} {l : List UInt8} (h1 : Only g w w1 v.ownBlock) (hat : v1.ownBlock = v.ownBlock ∨ ∃ k, v1.ownBlock = some k ∧ w.heap.size ≤ k ∧ k < w1.heap.size) (k : RMore w1 B g v1 l w2) : RMore w B g v l w2 := by
  obtain ⟨v2, a, b, c⟩ := k
  refine ⟨v2, a, h1.trans b (hat.imp id fun ⟨k, e, h, _⟩ => ⟨k, e, h⟩), ?_⟩
  rcases c with e | ⟨x, e, hx⟩
  · exact hat.imp (fun h => e.trans h) (fun ⟨k, hk, h2, h3⟩ => ⟨k, e.trans hk, h2, Nat.lt_of_lt_of_le h3 b.size⟩)
  · exact .inr ⟨x, e, Nat.le_trans h1.size hx.1, hx.2⟩

set_option maxRecDepth 100000 in
set_option maxHeartbeats 1000000 in
theorem rput_any (w : World) (B g : Nat) (v : Value) (l : List UInt8) (n s : Nat) (h : RfV w B g v l) (hB : B ≤ w.heap.size) (hx : l.length ≤ 1000000) (hs : s ≤ 8) :
    Calls Tryz.prog 79 #[.pointer (some ⟨g, 0, none⟩), .int .u64 n, .int .i64 s] w fun e w' => e = .returned (.tuple #[]) ∧ RMore w B g v (l ++ beN n s) w' := by
  have c1 := h.1.cell 1 (v := .bool false) rfl
  have HW := Lib.hid h
  clear h
  go_enter Tryz.func79, Tryz.ntmps79
  go_wp2_with fail
  clear c1
  have h0 : RMore w B g v (l ++ (beN n s).take 0) w := ⟨v, by simpa using HW.out, Only.refl g w _, .inl rfl⟩
  have H0 := Lib.hid h0
  clear h0
  go_loopw [6] (fun i wr => ∃ t : Nat, t ≤ s ∧ i = .int .i64 ((s : Int) - 1 - (t : Int)) ∧ RMore w B g v (l ++ (beN n s).take t) wr) (fun i _ => (intOf i + 1).toNat)
  case atStart => exact ⟨0, by omega, by refine congrArg (Value.int .i64) ?_; omega, H0.out⟩
  case round =>
    obtain ⟨t, ht, rfl, v1, hw1, ho1, ha1⟩ := hrel
    by_cases hlt : t < s
    · obtain ⟨d, hd⟩ : ∃ d, d = s - 1 - t := ⟨_, rfl⟩
      have e1 : (s : Int) - 1 - (t : Int) = (d : Int) := by omega
      rw [e1]
      have d7 : d ≤ 7 := by omega
      have d0 : (0 : Int) ≤ (d : Int) := by omega
      have d8 : (d : Int) ≤ 7 := by omega
      have hbyte : Value.int .u8 (IntKind.u8.wrap ((n : Int) / 2 ^ (8 * d))) = .int .u8 ((UInt8.ofNat (n / 2 ^ (8 * d))).toNat : Int) := by
        have e : (2 : Int) ^ (8 * d) = ((2 ^ (8 * d) : Nat) : Int) := by simp
        rw [e, ← Int.natCast_ediv, IntKind.wrap_u8', u8_of]
      have htk := beN_take n s t hlt
      rw [← hd] at htk
      obtain ⟨i0, hi0, hz0, hz1, hz2⟩ := info_parts info5
      have c2 : wr.cell? ⟨g, 0, none⟩ = some v1 := hw1.1.cell 0 rfl
      have f2 : wr.frozen? ⟨g, 0, none⟩ = false := hw1.1.free 0
      have hlen : (l ++ (beN n s).take t).length ≤ 1000008 := by rw [List.length_append, List.length_take, beN_length]; omega
      have hgl : g < wr.heap.size := hw1.1.lt
      have hvg : some g ≠ v1.ownBlock := fun e => hw1.2.2.1 e.symm
      have HW1 := Lib.hid hw1
      have HD := Lib.hid hd
      have HTK := Lib.hid htk
      have HBY := Lib.hid hbyte
      have x4 : (0 : Int) ≤ 8 * (d : Int) := by omega
      have x5 : 8 * (d : Int) ≤ 64 := by omega
      have x6 : (8 * (d : Int)).toNat = 8 * d := by omega
      have x7 : IntKind.i64.wrap (8 * (d : Int)) = 8 * (d : Int) := by rw [IntKind.wrap_i64]; omega
      have x8 : ¬ 8 * (d : Int) < 0 := by omega
      have hs1 := ho1.size
      clear hd e1 htk hbyte hw1
      go_upto_region 4 with fail
      obtain ⟨l1, hl1⟩ : ∃ l1, l1 = l ++ (beN n s).take t := ⟨_, rfl⟩
      rw [← hl1] at HW1 hlen
      have HL1 := Lib.hid hl1
      clear hl1
      go_wp2_with (at_builtin; go_must (refine wpList_append_own_at (wr.alloc (.cells #[(.int .u8 (IntKind.u8.wrap ((n : Int) / 2 ^ (8 * d))))] 5)) rfl _ _ 26 rfl B 5 i0 (.int .u8 0) 1 1 Tryz.underlying26 hi0 hz0 hz1 hz2 rfl (by decide) v1 l1.length (B8 l1).toList rfl (ownsRow_alloc HW1.out.2.1 _) ⟨wr.heap.size, 0, none⟩ 1 1 [(.int .u8 (IntKind.u8.wrap ((n : Int) / 2 ^ (8 * d))))] rfl (by rfl) (World.news_of_block (cs := #[(.int .u8 (IntKind.u8.wrap ((n : Int) / 2 ^ (8 * d))))]) (t := 5) (fr := (0, 0)) (heap_alloc_new wr _)) (by simp [Value.oneCell']) (by unfold maxLen; omega) (by omega) (by simp; omega) ?_; intro v' w1 hown1 hgrow _ hat; obtain ⟨A', cap, rfl⟩ := own_slice hown1; have f3 : w1.frozen? ⟨g, 0, none⟩ = false := (hgrow.frozen_far _ (by simp; omega) hvg).trans ((HW1.out.1.alloc _).free 0); have c3 : w1.cell? ⟨g, 0, none⟩ = some v1 := (hgrow.cell_far _ (by simp; omega) hvg).trans ((HW1.out.1.alloc _).cell 0 rfl)))
      all_goals
        have hwv : RfV (wr.alloc (.cells #[.int .u8 (IntKind.u8.wrap ((n : Int) / 2 ^ (8 * d)))] 5)) B g v1 l1 := ⟨HW1.out.1.alloc _, ownsRow_alloc HW1.out.2.1 _, HW1.out.2.2⟩
        have hon : Only g w (wr.alloc (.cells #[.int .u8 (IntKind.u8.wrap ((n : Int) / 2 ^ (8 * d)))] 5)) v.ownBlock :=
          ⟨ho1.os, ho1.tape, ho1.output, by simp; omega, fun k hk h1 h2 => (Below.heap_alloc wr _ k (Nat.lt_of_lt_of_le hk ho1.size)).trans (ho1.block k hk h1 h2)⟩
        have hown2 : w1.ownsRow B 5 1 (.slice A' (l1.length + 1) cap) (l1 ++ [UInt8.ofNat (n / 2 ^ (8 * d))]).length (B8 (l1 ++ [UInt8.ofNat (n / 2 ^ (8 * d))])).toList := by
          have e : (B8 (l1 ++ [UInt8.ofNat (n / 2 ^ (8 * d))])).toList = (B8 l1).toList ++ [.int .u8 (UInt8.ofNat (n / 2 ^ (8 * d))).toNat] := by simp [B8]
          rw [e, List.length_append, ← HBY.out]
          exact hown1
        have hmo := RMore.trans hon (ha1.imp id fun ⟨k, a1, a2, a3⟩ => ⟨k, a1, a2, by have := a3; simp; omega⟩) (rmore_of hwv hown2 hgrow hat)
        rw [HL1.out, List.append_assoc, ← HTK.out] at hmo
        rw [← HL1.out] at hmo
        have HMO := Lib.hid hmo
        clear hmo hown2 hon hwv hown1 hgrow c3 f3 hat c2 f2
        go_wp2_with fail
        refine ⟨⟨t + 1, by omega, by have := HD.out; refine congrArg (Value.int .i64) ?_; omega, HMO.out⟩, ?_⟩
        simp [intOf]
    · obtain rfl : t = s := by omega
      have hm : RMore w B g v (l ++ beN n t) wr := by
        have := (⟨v1, hw1, ho1, ha1⟩ : RMore w B g v (l ++ (beN n t).take t) wr)
        rwa [List.take_of_length_le (by rw [beN_length]; exact Nat.le_refl _)] at this
      have HM := Lib.hid hm
      clear hm hw1 ho1 ha1 H0
      have e1 : (t : Int) - 1 - (t : Int) = -1 := by omega
      rw [e1]
      go_wp2_with fail
      go_end0
      exact ⟨rfl, HM.out⟩
end Go.Proofs.YtjbjagdpemnhiaaGreat
