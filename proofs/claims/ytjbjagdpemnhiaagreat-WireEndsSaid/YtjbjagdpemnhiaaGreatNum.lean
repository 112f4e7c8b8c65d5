/-
  number: a number's bytes go behind a writer's own, the highest first.
-/
import Derived.Test.YtjbjagdpemnhiaaGreatRaw
import Derived.Deep.RegionLaw
import Derived.StillTailTactics
import Derived.Deep.Cut
namespace Go.Proofs.YtjbjagdpemnhiaaGreat
open Go.RowKit

def beN (n s : Nat) : List UInt8 := (List.range s).map fun k => UInt8.ofNat (n / 2 ^ (8 * (s - 1 - k)))
theorem beN_length (n s : Nat) : (beN n s).length = s := by simp [beN]
theorem beN_take (n s t : Nat) (h : t < s) : (beN n s).take (t + 1) = (beN n s).take t ++ [UInt8.ofNat (n / 2 ^ (8 * (s - 1 - t)))] := by
  have : t < (beN n s).length := by rw [beN_length]; exact h
  rw [List.take_succ_eq_append_getElem this]
  simp [beN]
theorem u8_of (n : Nat) : ((n : Int) % 256) = ((UInt8.ofNat n).toNat : Int) := by
  rw [UInt8.toNat_ofNat']; omega
theorem ownsRow_alloc {w : World} {base : Nat} {e : TypeId} {size n : Nat} {u : Value} {xs : List Value} (h : w.ownsRow base e size u n xs) (o : Obj) : (w.alloc o).ownsRow base e size u n xs := h.alloc o
theorem ownsRow_drew {w : World} {base : Nat} {e : TypeId} {size n : Nat} {u : Value} {xs : List Value} (h : w.ownsRow base e size u n xs) : w.drew.ownsRow base e size u n xs := h
/-- The writer while a number's bytes go behind. -/
def NumI (w : World) (B g : Nat) (v0 : Value) (l : List UInt8) (wr : World) : Prop := More w B g v0 l wr
theorem Only.trans {g : Nat} {w w1 w2 : World} {o o1 : Option Nat} (h : Only g w w1 o) (k : Only g w1 w2 o1) (hat : o1 = o ∨ ∃ x, o1 = some x ∧ w.heap.size ≤ x) : Only g w w2 o := by
  refine ⟨k.os.trans h.os, k.tape.trans h.tape, k.output.trans h.output, Nat.le_trans h.size k.size, fun i hi h1 h2 => ?_⟩
  refine (k.block i (Nat.lt_of_lt_of_le hi h.size) h1 ?_).trans (h.block i hi h1 h2)
  rcases hat with rfl | ⟨x, rfl, hx⟩
  · exact h2
  · intro e; have := Option.some.inj e; omega
theorem More.trans {w w1 w2 : World} {B g : Nat} {v v1 : Value} {l : List UInt8} (h1 : Only g w w1 v.ownBlock) (hat : v1.ownBlock = v.ownBlock ∨ ∃ k, v1.ownBlock = some k ∧ w.heap.size ≤ k ∧ k < w1.heap.size) (k : More w1 B g v1 l w2) : More w B g v l w2 := by
  obtain ⟨v2, a, b, c⟩ := k
  refine ⟨v2, a, h1.trans b (hat.imp id fun ⟨k, e, h, _⟩ => ⟨k, e, h⟩), ?_⟩
  rcases c with e | ⟨x, e, hx⟩
  · exact hat.imp (fun h => e.trans h) (fun ⟨k, hk, h2, h3⟩ => ⟨k, e.trans hk, h2, Nat.lt_of_lt_of_le h3 b.size⟩)
  · exact .inr ⟨x, e, Nat.le_trans h1.size hx.1, hx.2⟩

set_option maxRecDepth 100000 in
set_option maxHeartbeats 1000000 in
theorem number_any (w : World) (B g : Nat) (v : Value) (l : List UInt8) (n s : Nat) (h : WrV w B g v l) (hB : B ≤ w.heap.size) (hx : l.length ≤ 1000000) (hn : n < 18446744073709551616) (hs : s ≤ 8) (hfit : n / 2 ^ (8 * s) = 0) :
    Calls Tryz.prog 66 #[.pointer (some ⟨g, 0, none⟩), .int .u64 n, .int .i64 s] w fun e w' => e = .returned (.tuple #[]) ∧ More w B g v (l ++ beN n s) w' := by
  have ht := takes_self w g false (h.1.cell 0 rfl) (h.1.cell 1 rfl)
  have HW := Lib.hid h
  clear h
  go_enter Tryz.func66, Tryz.ntmps66
  go_wp2_with fail
  refine ht.mono ?_
  rintro e w1 ⟨rfl, rfl⟩
  clear ht
  have hz : ((n : Int) / 2 ^ (8 * s) != 0) = false := by
    rw [bne_eq_false_iff_eq]
    have e : (2 : Int) ^ (8 * s) = ((2 ^ (8 * s) : Nat) : Int) := by simp
    rw [e, ← Int.natCast_ediv, hfit]; rfl
  go_wp2_with fail
  clear hz hfit
  have h0 : More w B g v (l ++ (beN n s).take 0) w := ⟨v, by simpa using HW.out, Only.refl g w _, .inl rfl⟩
  have H0 := Lib.hid h0
  clear h0
  go_loopw [6] (fun i wr => ∃ t : Nat, t ≤ s ∧ i = .int .i64 ((s : Int) - 1 - (t : Int)) ∧ More w B g v (l ++ (beN n s).take t) wr) (fun i _ => (intOf i + 1).toNat)
  case atStart => exact ⟨0, by omega, by refine congrArg (Value.int .i64) ?_; omega, H0.out⟩
  case round =>
    obtain ⟨t, ht, rfl, v1, hw1, ho1, ha1⟩ := hrel
    by_cases hlt : t < s
    · obtain ⟨d, hd⟩ : ∃ d, d = s - 1 - t := ⟨_, rfl⟩
      have e1 : (s : Int) - 1 - (t : Int) = (d : Int) := by omega
      rw [e1]
      have d7 : d ≤ 7 := by omega
      have d0 : (0 : Int) ≤ (d : Int) := by omega
      have d8 : (d : Int) ≤ 7 := by omega
      have hbyte : Value.int .u8 (IntKind.u8.wrap ((n : Int) / 2 ^ (8 * d))) = .int .u8 ((UInt8.ofNat (n / 2 ^ (8 * d))).toNat : Int) := by
        have e : (2 : Int) ^ (8 * d) = ((2 ^ (8 * d) : Nat) : Int) := by simp
        rw [e, ← Int.natCast_ediv, IntKind.wrap_u8', u8_of]
      have htk := beN_take n s t hlt
      rw [← hd] at htk
      obtain ⟨i0, hi0, hz0, hz1, hz2⟩ := info_parts info5
      have c2 : wr.cell? ⟨g, 2, none⟩ = some v1 := hw1.1.cell 2 rfl
      have f2 : wr.frozen? ⟨g, 2, none⟩ = false := hw1.1.free 2
      have hlen : (l ++ (beN n s).take t).length ≤ 1000008 := by rw [List.length_append, List.length_take, beN_length]; omega
      have hgl : g < wr.heap.size := hw1.1.lt
      have hvg : some g ≠ v1.ownBlock := fun e => hw1.2.2.1 e.symm
      have HW1 := Lib.hid hw1
      have HD := Lib.hid hd
      have HTK := Lib.hid htk
      have HBY := Lib.hid hbyte
      have x4 : (0 : Int) ≤ 8 * (d : Int) := by omega
      have x5 : 8 * (d : Int) ≤ 64 := by omega
      have x6 : (8 * (d : Int)).toNat = 8 * d := by omega
      have x7 : IntKind.i64.wrap (8 * (d : Int)) = 8 * (d : Int) := by rw [IntKind.wrap_i64]; omega
      have x8 : ¬ 8 * (d : Int) < 0 := by omega
      have hs1 := ho1.size
      clear hd e1 htk hbyte hw1
      go_upto_region 6 with fail
      obtain ⟨l1, hl1⟩ : ∃ l1, l1 = l ++ (beN n s).take t := ⟨_, rfl⟩
      rw [← hl1] at HW1 hlen
      have HL1 := Lib.hid hl1
      clear hl1
      have c4 : wr.drew.cell? ⟨g, 2, none⟩ = some v1 := c2
      have hgl2 : g < wr.drew.heap.size := hgl
      go_region_law (first
        | (refine step_append_lies _ (by rfl) _ _ _ (by rfl) B 5 i0 _ 1 1 Tryz.underlying26 hi0 hz0 hz1 hz2 rfl (by omega) v1 l1.length _ (by rfl) (ownsRow_drew (ownsRow_alloc HW1.out.2.1 _))
            ⟨wr.heap.size, 0, none⟩ 1 1 [.int .u8 (IntKind.u8.wrap ((n : Int) / 2 ^ (8 * d)))] (by rfl) (by rfl) (World.news_of_block (cs := #[.int .u8 (IntKind.u8.wrap ((n : Int) / 2 ^ (8 * d)))]) (t := 5) (fr := (0, 0)) (heap_alloc_new wr _)) (by simp [Value.oneCell'])
            (by omega) (by unfold maxLen; omega) (by omega) (by simp; omega) (wr.heap.size + 1) (by simp) ?_; intro gg cap w1 hown1 hgrow hat hlt2
           have f3 : w1.frozen? ⟨g, 2, none⟩ = false := by rw [hgrow.frozen_far _ (by simp; omega) hvg]; exact (HW1.out.1.alloc _).free 2
           have c3 : w1.cell? ⟨g, 2, none⟩ = some v1 := by rw [hgrow.cell_far _ (by simp; omega) hvg]; exact (HW1.out.1.alloc _).cell 2 rfl))
      all_goals
        have hwv : WrV (wr.alloc (.cells #[.int .u8 (IntKind.u8.wrap ((n : Int) / 2 ^ (8 * d)))] 5)).drew B g v1 l1 := ⟨HW1.out.1.alloc _, ownsRow_alloc HW1.out.2.1 _, HW1.out.2.2⟩
        have hon : Only g w (wr.alloc (.cells #[.int .u8 (IntKind.u8.wrap ((n : Int) / 2 ^ (8 * d)))] 5)).drew v.ownBlock :=
          ⟨ho1.os, ho1.tape, ho1.output, by simp; omega, fun k hk h1 h2 => (Below.heap_alloc wr _ k (Nat.lt_of_lt_of_le hk ho1.size)).trans (ho1.block k hk h1 h2)⟩
        have hown2 : w1.ownsRow B 5 1 (.slice (some ⟨gg, 0, none⟩) (l1.length + 1) cap) (l1 ++ [UInt8.ofNat (n / 2 ^ (8 * d))]).length (B8 (l1 ++ [UInt8.ofNat (n / 2 ^ (8 * d))])).toList := by
          have e : (B8 (l1 ++ [UInt8.ofNat (n / 2 ^ (8 * d))])).toList = (B8 l1).toList ++ [.int .u8 (UInt8.ofNat (n / 2 ^ (8 * d))).toNat] := by simp [B8]
          rw [e, List.length_append, ← HBY.out]
          exact hown1
        have hmo := More.trans hon (ha1.imp id fun ⟨k, a1, a2, a3⟩ => ⟨k, a1, a2, by have := a3; simp; omega⟩) (more_of hwv hown2 hgrow (by
          rcases hat with e | e
          · exact .inl e.symm
          · exact .inr (by rw [e]; simp [Value.ownBlock])))
        rw [HL1.out, List.append_assoc, ← HTK.out] at hmo
        rw [← HL1.out] at hmo
        have HMO := Lib.hid hmo
        clear hmo hown2 hon hwv hown1 hgrow c3 f3 hat hlt2 c4 c2 f2
        go_wp2_with fail
        refine ⟨⟨t + 1, by omega, by have := HD.out; refine congrArg (Value.int .i64) ?_; omega, HMO.out⟩, ?_⟩
        simp [intOf]
    · obtain rfl : t = s := by omega
      have hm : More w B g v (l ++ beN n t) wr := by
        have := (⟨v1, hw1, ho1, ha1⟩ : More w B g v (l ++ (beN n t).take t) wr)
        rwa [List.take_of_length_le (by rw [beN_length]; exact Nat.le_refl _)] at this
      have HM := Lib.hid hm
      clear hm hw1 ho1 ha1 H0
      have e1 : (t : Int) - 1 - (t : Int) = -1 := by omega
      rw [e1]
      go_wp2_with fail
      go_end0
      exact ⟨rfl, HM.out⟩
end Go.Proofs.YtjbjagdpemnhiaaGreat
