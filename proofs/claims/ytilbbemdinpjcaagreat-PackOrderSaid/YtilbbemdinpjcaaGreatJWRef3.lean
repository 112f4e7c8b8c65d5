/-
  The document's own writer: Raw, Flag, Hash.
-/
import Derived.Test.YtilbbemdinpjcaaGreatJWPutSt
namespace Go.Proofs.YtilbbemdinpjcaaGreat.W
open Go.RowKit

/-- The reference writer in block g whose bytes are l. -/
def RfV (w : World) (B g : Nat) (v : Value) (l : List UInt8) : Prop :=
  Lies w g #[v, .bool false] 76 ∧ w.ownsRow B 5 1 v l.length (B8 l).toList ∧ v.ownBlock ≠ some g ∧ B ≤ g
def RMore (w : World) (B g : Nat) (v : Value) (l : List UInt8) (w' : World) : Prop :=
  ∃ v', RfV w' B g v' l ∧ Only g w w' v.ownBlock ∧ (v'.ownBlock = v.ownBlock ∨ ∃ k, v'.ownBlock = some k ∧ w.heap.size ≤ k ∧ k < w'.heap.size)
theorem rmore_of {w w1 : World} {B g : Nat} {v v' : Value} {l l2 : List UInt8} (h : RfV w B g v l) (hown : w1.ownsRow B 5 1 v' l2.length (B8 l2).toList) (hg : w.grownBy w1 v.ownBlock) (hat : v'.ownBlock = v.ownBlock ∨ v'.ownBlock = some w.heap.size) :
    RMore w B g v l2 (w1.setCell ⟨g, 0, none⟩ v') := by
  obtain ⟨h1, h2, h3, h4⟩ := h
  have hgl : g < w.heap.size := h1.lt
  have hne : v'.ownBlock ≠ some g := by
    rcases hat with e | e
    · rw [e]; exact h3
    · rw [e]; intro e2; have := Option.some.inj e2; omega
  have hl1 : Lies w1 g #[v, .bool false] 76 := (hg.block g hgl (fun e => h3 e.symm)).trans h1
  refine ⟨v', ⟨hl1.set 0 v', own_set hown hne, hne, h4⟩, ⟨hg.os, hg.tape, hg.output, by rw [size_set]; exact hg.size, fun k hk h5 h6 => (heap_setCell_other w1 _ k v' h5).trans (hg.block k hk h6)⟩, ?_⟩
  rcases hat with e | e
  · exact .inl e
  · exact .inr ⟨_, e, Nat.le_refl _, by rw [size_set]; exact own_lt hown e⟩

theorem RMore.trans {w w1 w2 : World} {B g : Nat} {v v1 : Value} {l : List UInt8} (h1 : Only g w w1 v.ownBlock) (hat : v1.ownBlock = v.ownBlock ∨ ∃ k, v1.ownBlock = some k ∧ w.heap.size ≤ k ∧ k < w1.heap.size) (k : RMore w1 B g v1 l w2) : RMore w B g v l w2 := by
  obtain ⟨v2, a, b, c⟩ := k
  refine ⟨v2, a, h1.trans b (hat.imp id fun ⟨k, e, h, _⟩ => ⟨k, e, h⟩), ?_⟩
  rcases c with e | ⟨x, e, hx⟩
  · exact hat.imp (fun h => e.trans h) (fun ⟨k, hk, h2, h3⟩ => ⟨k, e.trans hk, h2, Nat.lt_of_lt_of_le h3 b.size⟩)
  · exact .inr ⟨x, e, Nat.le_trans h1.size hx.1, hx.2⟩

set_option maxRecDepth 100000 in
set_option maxHeartbeats 1000000 in
theorem rput_any (w : World) (B g : Nat) (v : Value) (l : List UInt8) (n s : Nat) (h : RfV w B g v l) (hB : B ≤ w.heap.size) (hx : l.length ≤ 1000000) (hs : s ≤ 8) :
    Calls Tryz.prog 203 #[.pointer (some ⟨g, 0, none⟩), .int .u64 n, .int .i64 s] w fun e w' => e = .returned (.tuple #[]) ∧ RMore w B g v (l ++ beN n s) w' := by
  have c1 := h.1.cell 1 (v := .bool false) rfl
  have HW := Lib.hid h
  clear h
  go_enter Tryz.func203, Tryz.ntmps203
  go_wp2_with fail
  clear c1
  have h0 : RMore w B g v (l ++ (beN n s).take 0) w := ⟨v, by simpa using HW.out, Only.refl g w _, .inl rfl⟩
  have H0 := Lib.hid h0
  clear h0
  go_loopw [6] (fun i wr => ∃ t : Nat, t ≤ s ∧ i = .int .i64 ((s : Int) - 1 - (t : Int)) ∧ RMore w B g v (l ++ (beN n s).take t) wr) (fun i _ => (intOf i + 1).toNat)
  case atStart => exact ⟨0, by omega, by refine congrArg (Value.int .i64) ?_; omega, H0.out⟩
  case round =>
    obtain ⟨t, ht, rfl, v1, hw1, ho1, ha1⟩ := hrel
    by_cases hlt : t < s
    · obtain ⟨d, hd⟩ : ∃ d, d = s - 1 - t := ⟨_, rfl⟩
      have e1 : (s : Int) - 1 - (t : Int) = (d : Int) := by omega
      rw [e1]
      have d7 : d ≤ 7 := by omega
      have d0 : (0 : Int) ≤ (d : Int) := by omega
      have d8 : (d : Int) ≤ 7 := by omega
      have hbyte : Value.int .u8 (IntKind.u8.wrap ((n : Int) / 2 ^ (8 * d))) = .int .u8 ((UInt8.ofNat (n / 2 ^ (8 * d))).toNat : Int) := by
        have e : (2 : Int) ^ (8 * d) = ((2 ^ (8 * d) : Nat) : Int) := by simp
        rw [e, ← Int.natCast_ediv, IntKind.wrap_u8', u8_of]
      have htk := beN_take n s t hlt
      rw [← hd] at htk
      obtain ⟨i0, hi0, hz0, hz1, hz2⟩ := info_parts info5
      have c2 : wr.cell? ⟨g, 0, none⟩ = some v1 := hw1.1.cell 0 rfl
      have f2 : wr.frozen? ⟨g, 0, none⟩ = false := hw1.1.free 0
      have hlen : (l ++ (beN n s).take t).length ≤ 1000008 := by rw [List.length_append, List.length_take, beN_length]; omega
      have hgl : g < wr.heap.size := hw1.1.lt
      have hvg : some g ≠ v1.ownBlock := fun e => hw1.2.2.1 e.symm
      have HW1 := Lib.hid hw1
      have HD := Lib.hid hd
      have HTK := Lib.hid htk
      have HBY := Lib.hid hbyte
      have x4 : (0 : Int) ≤ 8 * (d : Int) := by omega
      have x5 : 8 * (d : Int) ≤ 64 := by omega
      have x6 : (8 * (d : Int)).toNat = 8 * d := by omega
      have x7 : IntKind.i64.wrap (8 * (d : Int)) = 8 * (d : Int) := by rw [IntKind.wrap_i64]; omega
      have x8 : ¬ 8 * (d : Int) < 0 := by omega
      have hs1 := ho1.size
      clear hd e1 htk hbyte hw1
      go_upto_region 4 with fail
      obtain ⟨l1, hl1⟩ : ∃ l1, l1 = l ++ (beN n s).take t := ⟨_, rfl⟩
      rw [← hl1] at HW1 hlen
      have HL1 := Lib.hid hl1
      clear hl1
      go_wp2_with (at_builtin; go_must (refine wpList_append_own_at (wr.alloc (.cells #[(.int .u8 (IntKind.u8.wrap ((n : Int) / 2 ^ (8 * d))))] 5)) rfl _ _ 54 rfl B 5 i0 (.int .u8 0) 1 1 Tryz.underlying54 hi0 hz0 hz1 hz2 rfl (by decide) v1 l1.length (B8 l1).toList rfl (ownsRow_alloc HW1.out.2.1 _) ⟨wr.heap.size, 0, none⟩ 1 1 [(.int .u8 (IntKind.u8.wrap ((n : Int) / 2 ^ (8 * d))))] rfl (by rfl) (World.news_of_block (cs := #[(.int .u8 (IntKind.u8.wrap ((n : Int) / 2 ^ (8 * d))))]) (t := 5) (fr := (0, 0)) (heap_alloc_new wr _)) (by simp [Value.oneCell']) (by unfold maxLen; omega) (by omega) (by simp; omega) ?_; intro v' w1 hown1 hgrow _ hat; obtain ⟨A', cap, rfl⟩ := own_slice hown1; have f3 : w1.frozen? ⟨g, 0, none⟩ = false := (hgrow.frozen_far _ (by simp; omega) hvg).trans ((HW1.out.1.alloc _).free 0); have c3 : w1.cell? ⟨g, 0, none⟩ = some v1 := (hgrow.cell_far _ (by simp; omega) hvg).trans ((HW1.out.1.alloc _).cell 0 rfl)))
      all_goals
        have hwv : RfV (wr.alloc (.cells #[.int .u8 (IntKind.u8.wrap ((n : Int) / 2 ^ (8 * d)))] 5)) B g v1 l1 := ⟨HW1.out.1.alloc _, ownsRow_alloc HW1.out.2.1 _, HW1.out.2.2⟩
        have hon : Only g w (wr.alloc (.cells #[.int .u8 (IntKind.u8.wrap ((n : Int) / 2 ^ (8 * d)))] 5)) v.ownBlock :=
          ⟨ho1.os, ho1.tape, ho1.output, by simp; omega, fun k hk h1 h2 => (Below.heap_alloc wr _ k (Nat.lt_of_lt_of_le hk ho1.size)).trans (ho1.block k hk h1 h2)⟩
        have hown2 : w1.ownsRow B 5 1 (.slice A' (l1.length + 1) cap) (l1 ++ [UInt8.ofNat (n / 2 ^ (8 * d))]).length (B8 (l1 ++ [UInt8.ofNat (n / 2 ^ (8 * d))])).toList := by
          have e : (B8 (l1 ++ [UInt8.ofNat (n / 2 ^ (8 * d))])).toList = (B8 l1).toList ++ [.int .u8 (UInt8.ofNat (n / 2 ^ (8 * d))).toNat] := by simp [B8]
          rw [e, List.length_append, ← HBY.out]
          exact hown1
        have hmo := RMore.trans hon (ha1.imp id fun ⟨k, a1, a2, a3⟩ => ⟨k, a1, a2, by have := a3; simp; omega⟩) (rmore_of hwv hown2 hgrow hat)
        rw [HL1.out, List.append_assoc, ← HTK.out] at hmo
        rw [← HL1.out] at hmo
        have HMO := Lib.hid hmo
        clear hmo hown2 hon hwv hown1 hgrow c3 f3 hat c2 f2
        go_wp2_with fail
        refine ⟨⟨t + 1, by omega, by have := HD.out; refine congrArg (Value.int .i64) ?_; omega, HMO.out⟩, ?_⟩
        simp [intOf]
    · obtain rfl : t = s := by omega
      have hm : RMore w B g v (l ++ beN n t) wr := by
        have := (⟨v1, hw1, ho1, ha1⟩ : RMore w B g v (l ++ (beN n t).take t) wr)
        rwa [List.take_of_length_le (by rw [beN_length]; exact Nat.le_refl _)] at this
      have HM := Lib.hid hm
      clear hm hw1 ho1 ha1 H0
      have e1 : (t : Int) - 1 - (t : Int) = -1 := by omega
      rw [e1]
      go_wp2_with fail
      go_end0
      exact ⟨rfl, HM.out⟩
end Go.Proofs.YtilbbemdinpjcaaGreat.W
namespace Go.Proofs.YtilbbemdinpjcaaGreat.W
open Go.RowKit

def RfS (w : World) (B g : Nat) (v : Value) : Option (List UInt8) → Prop
  | some l => RfV w B g v l
  | none => Lies w g #[v, .bool true] 76 ∧ v.ownBlock ≠ some g ∧ B ≤ g
def RMoreO (w : World) (B g : Nat) (v : Value) (st : Option (List UInt8)) (w' : World) : Prop :=
  ∃ v', RfS w' B g v' st ∧ Only g w w' v.ownBlock ∧ (v'.ownBlock = v.ownBlock ∨ ∃ k, v'.ownBlock = some k ∧ w.heap.size ≤ k ∧ k < w'.heap.size)
theorem RMoreO.same {w : World} {B g : Nat} {v : Value} {st : Option (List UInt8)} (h : RfS w B g v st) : RMoreO w B g v st w := ⟨v, h, Only.refl g w _, .inl rfl⟩
theorem RfS.bad {w : World} {B g : Nat} {v : Value} {st : Option (List UInt8)} (h : RfS w B g v st) : RfS (w.setCell ⟨g, 1, none⟩ (.bool true)) B g v none := by
  cases st with
  | none => exact ⟨h.1.set 1 _, h.2.1, h.2.2⟩
  | some l => exact ⟨h.1.set 1 _, h.2.2.1, h.2.2.2⟩
theorem RMoreO.bad {w : World} {B g : Nat} {v : Value} {st : Option (List UInt8)} (h : RfS w B g v st) : RMoreO w B g v none (w.setCell ⟨g, 1, none⟩ (.bool true)) := ⟨v, h.bad, (only_set g 1 w _).weak _, .inl rfl⟩
theorem RfS.cell1 {w : World} {B g : Nat} {v : Value} {st : Option (List UInt8)} (h : RfS w B g v st) : w.cell? ⟨g, 1, none⟩ = some (.bool st.isNone) := by
  cases st with
  | none => exact h.1.cell 1 rfl
  | some l => exact h.1.cell 1 rfl
theorem RfS.free1 {w : World} {B g : Nat} {v : Value} {st : Option (List UInt8)} (h : RfS w B g v st) : w.frozen? ⟨g, 1, none⟩ = false := by
  cases st with
  | none => exact h.1.free 1
  | some l => exact h.1.free 1
set_option maxRecDepth 100000 in
theorem rput_bad (w : World) (g : Nat) (n s : Int) (h : w.cell? ⟨g, 1, none⟩ = some (.bool true)) : Calls Tryz.prog 203 #[.pointer (some ⟨g, 0, none⟩), .int .u64 n, .int .i64 s] w fun e w' => e = .returned (.tuple #[]) ∧ w = w' := by
  go_enter Tryz.func203, Tryz.ntmps203
  go_wp2
  refine bodyPost_ret (results_none rfl _ _ _) rfl ?_
  exact ⟨rfl, rfl⟩
theorem rput_st (w : World) (B g : Nat) (v : Value) (st : Option (List UInt8)) (n s : Nat) (h : RfS w B g v st) (hB : B ≤ w.heap.size) (hx : ∀ l, st = some l → l.length ≤ 1000000) (hs : s ≤ 8) :
    Calls Tryz.prog 203 #[.pointer (some ⟨g, 0, none⟩), .int .u64 n, .int .i64 s] w fun e w' => e = .returned (.tuple #[]) ∧ RMoreO w B g v (stepB st (beN n s)) w' := by
  cases st with
  | none =>
    refine (rput_bad w g n s (h.1.cell 1 rfl)).mono ?_
    rintro e w' ⟨rfl, rfl⟩
    exact ⟨rfl, RMoreO.same h⟩
  | some l =>
    refine (rput_any w B g v l n s h hB (hx l rfl) hs).mono ?_
    rintro e w' ⟨rfl, v', h1, h2, h3⟩
    exact ⟨rfl, v', h1, h2, h3⟩
theorem low64_fit (n : Int) (h0 : 0 ≤ n) (h1 : n < 9223372036854775808) : ((low64 n : Nat) : Int) = n := by rw [low64_eq]; omega
theorem stepN_fit1 (st : Option (List UInt8)) (n : Int) (h0 : 0 ≤ n) (h1 : n < 256) : stepN st (low64 n) 1 = stepB st (beN (low64 n) 1) := by
  have e : low64 n / 2 ^ (8 * 1) = 0 := Nat.div_eq_of_lt (by have := low64_fit n h0 (by omega); omega)
  cases st with
  | none => rfl
  | some l => simp only [stepN, Option.bind_some, if_pos e, stepB, Option.map_some]
theorem stepN_not1 (st : Option (List UInt8)) (n : Int) (hlo : -9223372036854775808 ≤ n) (hhi : n < 9223372036854775808) (h1 : n < 0 ∨ 256 ≤ n) : stepN st (low64 n) 1 = none := by
  have e : ¬ low64 n / 2 ^ (8 * 1) = 0 := by
    have hle : 256 ≤ low64 n := by have := low64_eq n; omega
    have h3 : 1 ≤ low64 n / 256 := (Nat.le_div_iff_mul_le (by omega)).2 (by omega)
    have e2 : (2 : Nat) ^ (8 * 1) = 256 := by decide
    rw [e2]; omega
  cases st with
  | none => rfl
  | some l => simp only [stepN, Option.bind_some, if_neg e]
set_option maxRecDepth 100000 in
theorem rbelow1 (w : World) (B g : Nat) (v : Value) (st : Option (List UInt8)) (n : Int) (hlo : -9223372036854775808 ≤ n) (hhi : n < 9223372036854775808) (h : RfS w B g v st) (hB : B ≤ w.heap.size) (hx : ∀ l, st = some l → l.length ≤ 1000000) :
    Calls Tryz.prog 126 #[.pointer (some ⟨g, 0, none⟩), .int .i64 n, .int .i64 1] w fun e w' => e = .returned (.tuple #[]) ∧ RMoreO w B g v (stepN st (low64 n) 1) w' := by
  by_cases hfit : 0 ≤ n ∧ n < 256
  · obtain ⟨h0, h1⟩ := hfit
    rw [stepN_fit1 st n h0 h1]
    have he := rput_st w B g v st (low64 n) 1 h hB hx (by omega)
    rw [low64_fit n h0 hhi] at he
    have HE := Lib.hid he
    have hw : IntKind.u64.wrap n = n := by rw [IntKind.wrap_u64]; omega
    have hn0 : ¬ n < 0 := by omega
    have hn1 : ¬ 256 ≤ n := by omega
    clear he h hx
    go_enter Tryz.func126, Tryz.ntmps126
    go_wp2_with fail
    refine HE.out.mono ?_
    rintro e w1 ⟨rfl, hm⟩
    have HM := Lib.hid hm
    clear hm HE
    go_wp2_with fail
    go_end0
    exact ⟨rfl, HM.out⟩
  · have hor : n < 0 ∨ 256 ≤ n := by omega
    rw [stepN_not1 st n hlo hhi hor]
    have c1 := h.cell1
    have f1 := h.free1
    have hm := RMoreO.bad h
    have he := fun m => rput_bad (w.setCell ⟨g, 1, none⟩ (.bool true)) g m 1 (h.bad.1.cell 1 rfl)
    have HE := Lib.hid he
    have HM := Lib.hid hm
    clear hm he h hx
    rcases hor with hor | hor
    · go_enter Tryz.func126, Tryz.ntmps126
      go_wp2_with fail
      refine (HE.out _).mono ?_
      rintro e w1 ⟨rfl, rfl⟩
      go_wp2_with fail
      go_end0
      exact ⟨rfl, HM.out⟩
    · have hw : IntKind.u64.wrap n = n := by rw [IntKind.wrap_u64]; omega
      have hn0 : ¬ n < 0 := by omega
      go_enter Tryz.func126, Tryz.ntmps126
      go_wp2_with fail
      refine (HE.out _).mono ?_
      rintro e w1 ⟨rfl, rfl⟩
      go_wp2_with fail
      go_end0
      exact ⟨rfl, HM.out⟩
theorem stepN_fit2 (st : Option (List UInt8)) (n : Int) (h0 : 0 ≤ n) (h1 : n < 65536) : stepN st (low64 n) 2 = stepB st (beN (low64 n) 2) := by
  have e : low64 n / 2 ^ (8 * 2) = 0 := Nat.div_eq_of_lt (by have := low64_fit n h0 (by omega); omega)
  cases st with
  | none => rfl
  | some l => simp only [stepN, Option.bind_some, if_pos e, stepB, Option.map_some]
theorem stepN_not2 (st : Option (List UInt8)) (n : Int) (hlo : -9223372036854775808 ≤ n) (hhi : n < 9223372036854775808) (h1 : n < 0 ∨ 65536 ≤ n) : stepN st (low64 n) 2 = none := by
  have e : ¬ low64 n / 2 ^ (8 * 2) = 0 := by
    have hle : 65536 ≤ low64 n := by have := low64_eq n; omega
    have h3 : 1 ≤ low64 n / 65536 := (Nat.le_div_iff_mul_le (by omega)).2 (by omega)
    have e2 : (2 : Nat) ^ (8 * 2) = 65536 := by decide
    rw [e2]; omega
  cases st with
  | none => rfl
  | some l => simp only [stepN, Option.bind_some, if_neg e]
set_option maxRecDepth 100000 in
theorem rbelow2 (w : World) (B g : Nat) (v : Value) (st : Option (List UInt8)) (n : Int) (hlo : -9223372036854775808 ≤ n) (hhi : n < 9223372036854775808) (h : RfS w B g v st) (hB : B ≤ w.heap.size) (hx : ∀ l, st = some l → l.length ≤ 1000000) :
    Calls Tryz.prog 126 #[.pointer (some ⟨g, 0, none⟩), .int .i64 n, .int .i64 2] w fun e w' => e = .returned (.tuple #[]) ∧ RMoreO w B g v (stepN st (low64 n) 2) w' := by
  by_cases hfit : 0 ≤ n ∧ n < 65536
  · obtain ⟨h0, h1⟩ := hfit
    rw [stepN_fit2 st n h0 h1]
    have he := rput_st w B g v st (low64 n) 2 h hB hx (by omega)
    rw [low64_fit n h0 hhi] at he
    have HE := Lib.hid he
    have hw : IntKind.u64.wrap n = n := by rw [IntKind.wrap_u64]; omega
    have hn0 : ¬ n < 0 := by omega
    have hn1 : ¬ 65536 ≤ n := by omega
    clear he h hx
    go_enter Tryz.func126, Tryz.ntmps126
    go_wp2_with fail
    refine HE.out.mono ?_
    rintro e w1 ⟨rfl, hm⟩
    have HM := Lib.hid hm
    clear hm HE
    go_wp2_with fail
    go_end0
    exact ⟨rfl, HM.out⟩
  · have hor : n < 0 ∨ 65536 ≤ n := by omega
    rw [stepN_not2 st n hlo hhi hor]
    have c1 := h.cell1
    have f1 := h.free1
    have hm := RMoreO.bad h
    have he := fun m => rput_bad (w.setCell ⟨g, 1, none⟩ (.bool true)) g m 2 (h.bad.1.cell 1 rfl)
    have HE := Lib.hid he
    have HM := Lib.hid hm
    clear hm he h hx
    rcases hor with hor | hor
    · go_enter Tryz.func126, Tryz.ntmps126
      go_wp2_with fail
      refine (HE.out _).mono ?_
      rintro e w1 ⟨rfl, rfl⟩
      go_wp2_with fail
      go_end0
      exact ⟨rfl, HM.out⟩
    · have hw : IntKind.u64.wrap n = n := by rw [IntKind.wrap_u64]; omega
      have hn0 : ¬ n < 0 := by omega
      go_enter Tryz.func126, Tryz.ntmps126
      go_wp2_with fail
      refine (HE.out _).mono ?_
      rintro e w1 ⟨rfl, rfl⟩
      go_wp2_with fail
      go_end0
      exact ⟨rfl, HM.out⟩
theorem stepN_fit4 (st : Option (List UInt8)) (n : Int) (h0 : 0 ≤ n) (h1 : n < 4294967296) : stepN st (low64 n) 4 = stepB st (beN (low64 n) 4) := by
  have e : low64 n / 2 ^ (8 * 4) = 0 := Nat.div_eq_of_lt (by have := low64_fit n h0 (by omega); omega)
  cases st with
  | none => rfl
  | some l => simp only [stepN, Option.bind_some, if_pos e, stepB, Option.map_some]
theorem stepN_not4 (st : Option (List UInt8)) (n : Int) (hlo : -9223372036854775808 ≤ n) (hhi : n < 9223372036854775808) (h1 : n < 0 ∨ 4294967296 ≤ n) : stepN st (low64 n) 4 = none := by
  have e : ¬ low64 n / 2 ^ (8 * 4) = 0 := by
    have hle : 4294967296 ≤ low64 n := by have := low64_eq n; omega
    have h3 : 1 ≤ low64 n / 4294967296 := (Nat.le_div_iff_mul_le (by omega)).2 (by omega)
    have e2 : (2 : Nat) ^ (8 * 4) = 4294967296 := by decide
    rw [e2]; omega
  cases st with
  | none => rfl
  | some l => simp only [stepN, Option.bind_some, if_neg e]
set_option maxRecDepth 100000 in
theorem rbelow4 (w : World) (B g : Nat) (v : Value) (st : Option (List UInt8)) (n : Int) (hlo : -9223372036854775808 ≤ n) (hhi : n < 9223372036854775808) (h : RfS w B g v st) (hB : B ≤ w.heap.size) (hx : ∀ l, st = some l → l.length ≤ 1000000) :
    Calls Tryz.prog 126 #[.pointer (some ⟨g, 0, none⟩), .int .i64 n, .int .i64 4] w fun e w' => e = .returned (.tuple #[]) ∧ RMoreO w B g v (stepN st (low64 n) 4) w' := by
  by_cases hfit : 0 ≤ n ∧ n < 4294967296
  · obtain ⟨h0, h1⟩ := hfit
    rw [stepN_fit4 st n h0 h1]
    have he := rput_st w B g v st (low64 n) 4 h hB hx (by omega)
    rw [low64_fit n h0 hhi] at he
    have HE := Lib.hid he
    have hw : IntKind.u64.wrap n = n := by rw [IntKind.wrap_u64]; omega
    have hn0 : ¬ n < 0 := by omega
    have hn1 : ¬ 4294967296 ≤ n := by omega
    clear he h hx
    go_enter Tryz.func126, Tryz.ntmps126
    go_wp2_with fail
    refine HE.out.mono ?_
    rintro e w1 ⟨rfl, hm⟩
    have HM := Lib.hid hm
    clear hm HE
    go_wp2_with fail
    go_end0
    exact ⟨rfl, HM.out⟩
  · have hor : n < 0 ∨ 4294967296 ≤ n := by omega
    rw [stepN_not4 st n hlo hhi hor]
    have c1 := h.cell1
    have f1 := h.free1
    have hm := RMoreO.bad h
    have he := fun m => rput_bad (w.setCell ⟨g, 1, none⟩ (.bool true)) g m 4 (h.bad.1.cell 1 rfl)
    have HE := Lib.hid he
    have HM := Lib.hid hm
    clear hm he h hx
    rcases hor with hor | hor
    · go_enter Tryz.func126, Tryz.ntmps126
      go_wp2_with fail
      refine (HE.out _).mono ?_
      rintro e w1 ⟨rfl, rfl⟩
      go_wp2_with fail
      go_end0
      exact ⟨rfl, HM.out⟩
    · have hw : IntKind.u64.wrap n = n := by rw [IntKind.wrap_u64]; omega
      have hn0 : ¬ n < 0 := by omega
      go_enter Tryz.func126, Tryz.ntmps126
      go_wp2_with fail
      refine (HE.out _).mono ?_
      rintro e w1 ⟨rfl, rfl⟩
      go_wp2_with fail
      go_end0
      exact ⟨rfl, HM.out⟩
set_option maxRecDepth 100000 in
theorem ru8_st (w : World) (B g : Nat) (v : Value) (st : Option (List UInt8)) (n : Int) (hlo : -9223372036854775808 ≤ n) (hhi : n < 9223372036854775808) (h : RfS w B g v st) (hB : B ≤ w.heap.size) (hx : ∀ l, st = some l → l.length ≤ 1000000) :
    Calls Tryz.prog 59 #[.pointer (some ⟨g, 0, none⟩), .int .i64 n] w fun e w' => e = .returned (.tuple #[]) ∧ RMoreO w B g v (stepN st (low64 n) 1) w' := by
  have he := rbelow1 w B g v st n hlo hhi h hB hx
  have HE := Lib.hid he
  clear he h hx
  go_enter Tryz.func59, Tryz.ntmps59
  go_wp2_with fail
  refine HE.out.mono ?_
  rintro e w' ⟨rfl, hm⟩
  have HM := Lib.hid hm
  clear HE hm
  go_wp2_with fail
  go_end0
  exact ⟨rfl, HM.out⟩
set_option maxRecDepth 100000 in
theorem ru16_st (w : World) (B g : Nat) (v : Value) (st : Option (List UInt8)) (n : Int) (hlo : -9223372036854775808 ≤ n) (hhi : n < 9223372036854775808) (h : RfS w B g v st) (hB : B ≤ w.heap.size) (hx : ∀ l, st = some l → l.length ≤ 1000000) :
    Calls Tryz.prog 179 #[.pointer (some ⟨g, 0, none⟩), .int .i64 n] w fun e w' => e = .returned (.tuple #[]) ∧ RMoreO w B g v (stepN st (low64 n) 2) w' := by
  have he := rbelow2 w B g v st n hlo hhi h hB hx
  have HE := Lib.hid he
  clear he h hx
  go_enter Tryz.func179, Tryz.ntmps179
  go_wp2_with fail
  refine HE.out.mono ?_
  rintro e w' ⟨rfl, hm⟩
  have HM := Lib.hid hm
  clear HE hm
  go_wp2_with fail
  go_end0
  exact ⟨rfl, HM.out⟩
set_option maxRecDepth 100000 in
theorem ru32_st (w : World) (B g : Nat) (v : Value) (st : Option (List UInt8)) (n : Int) (hlo : -9223372036854775808 ≤ n) (hhi : n < 9223372036854775808) (h : RfS w B g v st) (hB : B ≤ w.heap.size) (hx : ∀ l, st = some l → l.length ≤ 1000000) :
    Calls Tryz.prog 178 #[.pointer (some ⟨g, 0, none⟩), .int .i64 n] w fun e w' => e = .returned (.tuple #[]) ∧ RMoreO w B g v (stepN st (low64 n) 4) w' := by
  have he := rbelow4 w B g v st n hlo hhi h hB hx
  have HE := Lib.hid he
  clear he h hx
  go_enter Tryz.func178, Tryz.ntmps178
  go_wp2_with fail
  refine HE.out.mono ?_
  rintro e w' ⟨rfl, hm⟩
  have HM := Lib.hid hm
  clear HE hm
  go_wp2_with fail
  go_end0
  exact ⟨rfl, HM.out⟩
theorem stepN8 (st : Option (List UInt8)) (n : Nat) (h : n < 18446744073709551616) : stepB st (beN n 8) = stepN st n 8 := by
  have e : n / 2 ^ (8 * 8) = 0 := Nat.div_eq_of_lt h
  cases st with
  | none => rfl
  | some l => simp only [stepN, Option.bind_some, if_pos e, stepB, Option.map_some]
set_option maxRecDepth 100000 in
theorem ru64_st (w : World) (B g : Nat) (v : Value) (st : Option (List UInt8)) (n : Nat) (h : RfS w B g v st) (hB : B ≤ w.heap.size) (hx : ∀ l, st = some l → l.length ≤ 1000000) (hn : n < 18446744073709551616) :
    Calls Tryz.prog 177 #[.pointer (some ⟨g, 0, none⟩), .int .u64 n] w fun e w' => e = .returned (.tuple #[]) ∧ RMoreO w B g v (stepN st n 8) w' := by
  have he := rput_st w B g v st n 8 h hB hx (by omega)
  rw [stepN8 st n hn] at he
  have HE := Lib.hid he
  clear he h hx
  go_enter Tryz.func177, Tryz.ntmps177
  go_wp2_with fail
  refine HE.out.mono ?_
  rintro e w' ⟨rfl, hm⟩
  have HM := Lib.hid hm
  clear HE hm
  go_wp2_with fail
  go_end0
  exact ⟨rfl, HM.out⟩
set_option maxRecDepth 100000 in
theorem ri64_st (w : World) (B g : Nat) (v : Value) (st : Option (List UInt8)) (n : Int) (m : Nat) (h : RfS w B g v st) (hB : B ≤ w.heap.size) (hx : ∀ l, st = some l → l.length ≤ 1000000) (hm : (m : Int) = n % 18446744073709551616) :
    Calls Tryz.prog 175 #[.pointer (some ⟨g, 0, none⟩), .int .i64 n] w fun e w' => e = .returned (.tuple #[]) ∧ RMoreO w B g v (stepN st m 8) w' := by
  have he := rput_st w B g v st m 8 h hB hx (by omega)
  rw [stepN8 st m (by omega)] at he
  have HE := Lib.hid he
  have hw : IntKind.u64.wrap n = (m : Int) := by rw [IntKind.wrap_u64]; omega
  clear he h hx hm
  go_enter Tryz.func175, Tryz.ntmps175
  go_wp2_with fail
  refine HE.out.mono ?_
  rintro e w' ⟨rfl, hm⟩
  have HM := Lib.hid hm
  clear HE hm
  go_wp2_with fail
  go_end0
  exact ⟨rfl, HM.out⟩
set_option maxRecDepth 100000 in
theorem rspoil_st (w : World) (B g : Nat) (v : Value) (st : Option (List UInt8)) (h : RfS w B g v st) : Calls Tryz.prog 213 #[.pointer (some ⟨g, 0, none⟩)] w fun e w' => e = .returned (.tuple #[]) ∧ RMoreO w B g v none w' := by
  have c1 := h.cell1
  have f1 := h.free1
  have hm := RMoreO.bad h
  have HM := Lib.hid hm
  clear hm h
  go_enter Tryz.func213, Tryz.ntmps213
  go_wp2_with fail
  go_end0
  exact ⟨rfl, HM.out⟩
end Go.Proofs.YtilbbemdinpjcaaGreat.W
namespace Go.Proofs.YtilbbemdinpjcaaGreat.W
open Go.RowKit

theorem RfV.below {w w' : World} {B g : Nat} {v : Value} {l : List UInt8} (h : RfV w B g v l) (hb : Below w.heap.size w w') : RfV w' B g v l :=
  ⟨h.1.below hb h.1.lt, own_kept h.2.1 (grown_below hb none) (fun _ _ => by simp), h.2.2.1, h.2.2.2⟩
theorem RfS.below {w w' : World} {B g : Nat} {v : Value} {st : Option (List UInt8)} (h : RfS w B g v st) (hb : Below w.heap.size w w') : RfS w' B g v st := by
  cases st with
  | none => exact ⟨h.1.below hb h.1.lt, h.2⟩
  | some l => exact RfV.below h hb
theorem RMoreO.after {w w1 w2 : World} {B g : Nat} {v : Value} {st : Option (List UInt8)} (hb : Below w.heap.size w w1) (h : RMoreO w1 B g v st w2) : RMoreO w B g v st w2 := by
  obtain ⟨v', h1, h2, h3⟩ := h
  refine ⟨v', h1, Only.trans ((only_below hb).weak _) h2 (.inl rfl), ?_⟩
  rcases h3 with h3 | ⟨k, h3, h4⟩
  · exact .inl h3
  · exact .inr ⟨k, h3, Nat.le_trans hb.size h4.1, h4.2⟩
theorem RMoreO.trans {w w1 w2 : World} {B g : Nat} {v v1 : Value} {st : Option (List UInt8)} (ho : Only g w w1 v.ownBlock) (hat : v1.ownBlock = v.ownBlock ∨ ∃ k, v1.ownBlock = some k ∧ w.heap.size ≤ k ∧ k < w1.heap.size) (h : RMoreO w1 B g v1 st w2) : RMoreO w B g v st w2 := by
  obtain ⟨v', h1, h2, h3⟩ := h
  refine ⟨v', h1, Only.trans ho h2 (hat.imp id fun ⟨k, e, h, _⟩ => ⟨k, e, h⟩), ?_⟩
  rcases h3 with h3 | ⟨k, h3, h4⟩
  · exact hat.imp (fun h => h3.trans h) (fun ⟨k, hk, h4, h5⟩ => ⟨k, h3.trans hk, h4, Nat.lt_of_lt_of_le h5 h2.size⟩)
  · exact .inr ⟨k, h3, Nat.le_trans ho.size h4.1, h4.2⟩
set_option maxRecDepth 100000 in
theorem rraw_bad (w : World) (g : Nat) (bv : Value) (h : w.cell? ⟨g, 1, none⟩ = some (.bool true)) : Calls Tryz.prog 214 #[.pointer (some ⟨g, 0, none⟩), bv] w fun e w' => e = .returned (.tuple #[]) ∧ w = w' := by
  go_enter Tryz.func214, Tryz.ntmps214
  go_wp2
  go_end0
  exact ⟨rfl, rfl⟩
set_option maxRecDepth 100000 in
set_option maxHeartbeats 1000000 in
theorem rraw_any (w : World) (B g : Nat) (v : Value) (l xs : List UInt8) (ad : Addr) (c : Nat) (h : RfV w B g v l) (hs : SrcA w ad xs) (hB : B ≤ w.heap.size) (hx : l.length + xs.length ≤ 2000000) :
    Calls Tryz.prog 214 #[.pointer (some ⟨g, 0, none⟩), .slice (some ad) xs.length c] w fun e w' => e = .returned (.tuple #[]) ∧ RMore w B g v (l ++ xs) w' := by
  obtain ⟨i0, hi0, hz0, hz1, hz2⟩ := info_parts info5
  have c1 : w.cell? ⟨g, 1, none⟩ = some (.bool false) := h.1.cell 1 rfl
  have c2 : w.cell? ⟨g, 0, none⟩ = some v := h.1.cell 0 rfl
  have HW := Lib.hid h
  have HS := Lib.hid hs
  clear h hs
  go_enter Tryz.func214, Tryz.ntmps214
  go_wp2_with (at_builtin; go_must (refine wpList_append_own_at _ rfl _ _ 54 rfl B 5 i0 (.int .u8 0) 1 1 Tryz.underlying54 hi0 hz0 hz1 hz2 rfl (by decide) v l.length (B8 l).toList rfl HW.out.2.1 ad xs.length c (B8 xs).toList rfl (by rw [Array.length_toList, B8_size, Nat.mul_one]) HS.out (byts_one _) (by unfold maxLen; omega) (by omega) hB ?_; intro v' w1 hown hgrow _ hat; obtain ⟨A', cc, rfl⟩ := own_slice hown; have c3 : w1.cell? ⟨g, 0, none⟩ = some v := (Lies.cell ((hgrow.block g HW.out.1.lt (fun e => HW.out.2.2.1 e.symm)).trans HW.out.1) 0 rfl); have f3 : w1.frozen? ⟨g, 0, none⟩ = false := (Lies.free (show Lies w1 g _ 76 from (hgrow.block g HW.out.1.lt (fun e => HW.out.2.2.1 e.symm)).trans HW.out.1) 0)))
  go_end0
  refine ⟨rfl, rmore_of HW.out ?_ hgrow hat⟩
  have e : (B8 (l ++ xs)).toList = (B8 l).toList ++ (B8 xs).toList := by simp [B8]
  rw [e, List.length_append]
  exact hown
theorem RMoreO.again {w : World} {B g : Nat} {v : Value} {l : List UInt8} (h : RfV w B g v l) : RMoreO w B g v (some l) (w.setCell ⟨g, 0, none⟩ v) := by
  refine ⟨v, ⟨?_, own_set h.2.1 h.2.2.1, h.2.2.1, h.2.2.2⟩, (only_set g 0 w v).weak _, .inl rfl⟩
  have := h.1.set 0 v
  exact this
set_option maxRecDepth 100000 in
theorem rraw_nil (w : World) (B g : Nat) (v : Value) (l : List UInt8) (h : RfV w B g v l) : Calls Tryz.prog 214 #[.pointer (some ⟨g, 0, none⟩), .slice none 0 0] w fun e w' => e = .returned (.tuple #[]) ∧ RMoreO w B g v (some l) w' := by
  have c1 : w.cell? ⟨g, 1, none⟩ = some (.bool false) := h.1.cell 1 rfl
  have c2 : w.cell? ⟨g, 0, none⟩ = some v := h.1.cell 0 rfl
  have f2 := h.1.free 0
  have hm := RMoreO.again h
  have HM := Lib.hid hm
  clear hm
  obtain ⟨_, ⟨rfl, hn⟩ | ⟨k, cap, cur, rfl, _, _, hcap, _⟩⟩ := h.2.1
  · clear h
    go_enter Tryz.func214, Tryz.ntmps214
    go_wp2_with fail
    go_end0
    exact ⟨rfl, HM.out⟩
  · clear h
    go_enter Tryz.func214, Tryz.ntmps214
    go_wp2_with fail
    go_end0
    exact ⟨rfl, HM.out⟩
theorem rraw_in (w : World) (B g : Nat) (v bv : Value) (st : Option (List UInt8)) (xs : List UInt8) (h : RfS w B g v st) (hs : RawIn w bv xs) (hB : B ≤ w.heap.size) (hx : ∀ l, st = some l → l.length + xs.length ≤ 2000000) :
    Calls Tryz.prog 214 #[.pointer (some ⟨g, 0, none⟩), bv] w fun e w' => e = .returned (.tuple #[]) ∧ RMoreO w B g v (stepB st xs) w' := by
  cases st with
  | none =>
    refine (rraw_bad w g bv (h.1.cell 1 rfl)).mono ?_
    rintro e w' ⟨rfl, rfl⟩
    exact ⟨rfl, RMoreO.same h⟩
  | some l =>
    rcases hs with ⟨rfl, rfl⟩ | ⟨ad, c, rfl, hs⟩
    · have := rraw_nil w B g v l h
      rwa [show stepB (some l) [] = some l by simp [stepB]]
    · refine (rraw_any w B g v l xs ad c h hs hB (hx l rfl)).mono ?_
      rintro e w' ⟨rfl, v', h1, h2, h3⟩
      exact ⟨rfl, v', h1, h2, h3⟩
set_option maxRecDepth 100000 in
theorem rhash_st (w : World) (B g : Nat) (v : Value) (st : Option (List UInt8)) (xs : List UInt8) (h : RfS w B g v st) (hl : xs.length = 32) (hB : B ≤ w.heap.size) (hx : ∀ l, st = some l → l.length ≤ 1000000) :
    Calls Tryz.prog 142 #[.pointer (some ⟨g, 0, none⟩), .agg (B8 xs)] w fun e w' => e = .returned (.tuple #[]) ∧ RMoreO w B g v (stepB st xs) w' := by
  have hb : Below w.heap.size w (w.alloc (.cells (B8 xs) 30)) := (Below.refl _ _).alloc (Nat.le_refl _) _
  have hsrc : Src (w.alloc (.cells (B8 xs) 30)) w.heap.size 0 xs := fun j hj => by
    have := (Lies.new w (B8 xs) 30).cell j (B8_get xs j hj)
    rwa [Nat.zero_add]
  have he := rraw_in (w.alloc (.cells (B8 xs) 30)) B g v (.slice (some ⟨w.heap.size, 0, none⟩) xs.length 32) st xs (h.below hb) (.inr ⟨_, 32, rfl, src_news hsrc⟩) (by simp; omega) (fun l e => by have := hx l e; omega)
  rw [hl] at he
  have HE := Lib.hid he
  have HB := Lib.hid hb
  clear he hb hsrc h hx
  go_enter Tryz.func142, Tryz.ntmps142
  go_wp2_with fail
  refine HE.out.mono ?_
  rintro e w1 ⟨rfl, hm⟩
  have HM := Lib.hid hm
  clear hm HE
  go_wp2_with fail
  go_end0
  exact ⟨rfl, HM.out.after HB.out⟩
theorem stepFlag_ref (st : Option (List UInt8)) (n : Int) : stepFlag st n = stepN st (low64 (if n = 1 then 1 else 0)) 1 := by
  have e1 : low64 1 = 1 := rfl
  have e0 : low64 0 = 0 := rfl
  have b1 : beN 1 1 = [1] := by decide
  have b0 : beN 0 1 = [0] := by decide
  by_cases h : n = 1
  · rw [stepFlag, if_pos h, if_pos h, stepN_fit1 st 1 (by omega) (by omega), e1, b1]
  · rw [stepFlag, if_neg h, if_neg h, stepN_fit1 st 0 (by omega) (by omega), e0, b0]
set_option maxRecDepth 100000 in
theorem rflag_st (w : World) (B g : Nat) (v : Value) (st : Option (List UInt8)) (n : Int) (h : RfS w B g v st) (hB : B ≤ w.heap.size) (hx : ∀ l, st = some l → l.length ≤ 1000000) :
    Calls Tryz.prog 141 #[.pointer (some ⟨g, 0, none⟩), .bool (n == 1)] w fun e w' => e = .returned (.tuple #[]) ∧ RMoreO w B g v (stepFlag st n) w' := by
  rw [stepFlag_ref]
  by_cases h1 : n = 1
  · have he := ru8_st w B g v st 1 (by omega) (by omega) h hB hx
    have eb : (n == 1) = true := by simp [h1]
    rw [eb, if_pos h1]
    have HE := Lib.hid he
    clear he h hx h1 eb
    go_enter Tryz.func141, Tryz.ntmps141
    go_wp2_with fail
    refine HE.out.mono ?_
    rintro e w1 ⟨rfl, hm⟩
    have HM := Lib.hid hm
    clear hm HE
    go_wp2_with fail
    go_end0
    exact ⟨rfl, HM.out⟩
  · have he := ru8_st w B g v st 0 (by omega) (by omega) h hB hx
    have eb : (n == 1) = false := by simp [h1]
    rw [eb, if_neg h1]
    have HE := Lib.hid he
    clear he h hx h1 eb
    go_enter Tryz.func141, Tryz.ntmps141
    go_wp2_with fail
    refine HE.out.mono ?_
    rintro e w1 ⟨rfl, hm⟩
    have HM := Lib.hid hm
    clear hm HE
    go_wp2_with fail
    go_end0
    exact ⟨rfl, HM.out⟩
end Go.Proofs.YtilbbemdinpjcaaGreat.W
