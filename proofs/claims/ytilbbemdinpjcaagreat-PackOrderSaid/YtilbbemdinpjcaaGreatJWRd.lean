/-
  A reader: its own place, whether it is spoilt, its bytes, where it stands. What its inner calls do: tells, next.
-/
import Derived.Test.YtilbbemdinpjcaaGreatJWRaw
import Derived.Deep.RegionLaw
import Derived.StillTailTactics
import Derived.Deep.Cut
import Derived.Laws.Cover3
import Derived.Deep.QuietTactic
import Derived.BigQuiet
import Derived.Defers
import Derived.Recover
namespace Go.Proofs.YtilbbemdinpjcaaGreat.W
open Go.RowKit

def beN (n s : Nat) : List UInt8 := (List.range s).map fun k => UInt8.ofNat (n / 2 ^ (8 * (s - 1 - k)))
theorem beN_length (n s : Nat) : (beN n s).length = s := by simp [beN]
theorem beN_take (n s t : Nat) (h : t < s) : (beN n s).take (t + 1) = (beN n s).take t ++ [UInt8.ofNat (n / 2 ^ (8 * (s - 1 - t)))] := by
  have : t < (beN n s).length := by rw [beN_length]; exact h
  rw [List.take_succ_eq_append_getElem this]
  simp [beN]
theorem u8_of (n : Nat) : ((n : Int) % 256) = ((UInt8.ofNat n).toNat : Int) := by
  rw [UInt8.toNat_ofNat']; omega
theorem ownsRow_alloc {w : World} {base : Nat} {e : TypeId} {size n : Nat} {u : Value} {xs : List Value} (h : w.ownsRow base e size u n xs) (o : Obj) : (w.alloc o).ownsRow base e size u n xs := h.alloc o
theorem ownsRow_drew {w : World} {base : Nat} {e : TypeId} {size n : Nat} {u : Value} {xs : List Value} (h : w.ownsRow base e size u n xs) : w.drew.ownsRow base e size u n xs := h
/-- The writer while a number's bytes go behind. -/
def NumI (w : World) (B g : Nat) (v0 : Value) (l : List UInt8) (wr : World) : Prop := More w B g v0 l wr
theorem Only.trans {g : Nat} {w w1 w2 : World} {o o1 : Option Nat} (h : Only g w w1 o) (k : Only g w1 w2 o1) (hat : o1 = o ∨ ∃ x, o1 = some x ∧ w.heap.size ≤ x) : Only g w w2 o := by
  refine ⟨k.os.trans h.os, k.tape.trans h.tape, k.output.trans h.output, Nat.le_trans h.size k.size, fun i hi h1 h2 => ?_⟩
  refine (k.block i (Nat.lt_of_lt_of_le hi h.size) h1 ?_).trans (h.block i hi h1 h2)
  rcases hat with rfl | ⟨x, rfl, hx⟩
  · exact h2
  · intro e; have := Option.some.inj e; omega
theorem More.trans {w w1 w2 : World} {B g : Nat} {v v1 : Value} {l : List UInt8} (h1 : Only g w w1 v.ownBlock) (hat : v1.ownBlock = v.ownBlock ∨ ∃ k, v1.ownBlock = some k ∧ w.heap.size ≤ k ∧ k < w1.heap.size) (k : More w1 B g v1 l w2) : More w B g v l w2 := by
  obtain ⟨v2, a, b, c⟩ := k
  refine ⟨v2, a, h1.trans b (hat.imp id fun ⟨k, e, h, _⟩ => ⟨k, e, h⟩), ?_⟩
  rcases c with e | ⟨x, e, hx⟩
  · exact hat.imp (fun h => e.trans h) (fun ⟨k, hk, h2, h3⟩ => ⟨k, e.trans hk, h2, Nat.lt_of_lt_of_le h3 b.size⟩)
  · exact .inr ⟨x, e, Nat.le_trans h1.size hx.1, hx.2⟩

set_option maxRecDepth 100000 in
set_option maxHeartbeats 1000000 in
theorem number_any (w : World) (B g : Nat) (v : Value) (l : List UInt8) (n s : Nat) (h : WrV w B g v l) (hB : B ≤ w.heap.size) (hx : l.length ≤ 1000000) (hn : n < 18446744073709551616) (hs : s ≤ 8) (hfit : n / 2 ^ (8 * s) = 0) :
    Calls Tryz.prog 125 #[.pointer (some ⟨g, 0, none⟩), .int .u64 n, .int .i64 s] w fun e w' => e = .returned (.tuple #[]) ∧ More w B g v (l ++ beN n s) w' := by
  have ht := takes_self w g false (h.1.cell 0 rfl) (h.1.cell 1 rfl)
  have HW := Lib.hid h
  clear h
  go_enter Tryz.func125, Tryz.ntmps125
  go_wp2_with fail
  refine ht.mono ?_
  rintro e w1 ⟨rfl, rfl⟩
  clear ht
  have hz : ((n : Int) / 2 ^ (8 * s) != 0) = false := by
    rw [bne_eq_false_iff_eq]
    have e : (2 : Int) ^ (8 * s) = ((2 ^ (8 * s) : Nat) : Int) := by simp
    rw [e, ← Int.natCast_ediv, hfit]; rfl
  go_wp2_with fail
  clear hz hfit
  have h0 : More w B g v (l ++ (beN n s).take 0) w := ⟨v, by simpa using HW.out, Only.refl g w _, .inl rfl⟩
  have H0 := Lib.hid h0
  clear h0
  go_loopw [6] (fun i wr => ∃ t : Nat, t ≤ s ∧ i = .int .i64 ((s : Int) - 1 - (t : Int)) ∧ More w B g v (l ++ (beN n s).take t) wr) (fun i _ => (intOf i + 1).toNat)
  case atStart => exact ⟨0, by omega, by refine congrArg (Value.int .i64) ?_; omega, H0.out⟩
  case round =>
    obtain ⟨t, ht, rfl, v1, hw1, ho1, ha1⟩ := hrel
    by_cases hlt : t < s
    · obtain ⟨d, hd⟩ : ∃ d, d = s - 1 - t := ⟨_, rfl⟩
      have e1 : (s : Int) - 1 - (t : Int) = (d : Int) := by omega
      rw [e1]
      have d7 : d ≤ 7 := by omega
      have d0 : (0 : Int) ≤ (d : Int) := by omega
      have d8 : (d : Int) ≤ 7 := by omega
      have hbyte : Value.int .u8 (IntKind.u8.wrap ((n : Int) / 2 ^ (8 * d))) = .int .u8 ((UInt8.ofNat (n / 2 ^ (8 * d))).toNat : Int) := by
        have e : (2 : Int) ^ (8 * d) = ((2 ^ (8 * d) : Nat) : Int) := by simp
        rw [e, ← Int.natCast_ediv, IntKind.wrap_u8', u8_of]
      have htk := beN_take n s t hlt
      rw [← hd] at htk
      obtain ⟨i0, hi0, hz0, hz1, hz2⟩ := info_parts info5
      have c2 : wr.cell? ⟨g, 2, none⟩ = some v1 := hw1.1.cell 2 rfl
      have f2 : wr.frozen? ⟨g, 2, none⟩ = false := hw1.1.free 2
      have hlen : (l ++ (beN n s).take t).length ≤ 1000008 := by rw [List.length_append, List.length_take, beN_length]; omega
      have hgl : g < wr.heap.size := hw1.1.lt
      have hvg : some g ≠ v1.ownBlock := fun e => hw1.2.2.1 e.symm
      have HW1 := Lib.hid hw1
      have HD := Lib.hid hd
      have HTK := Lib.hid htk
      have HBY := Lib.hid hbyte
      have x4 : (0 : Int) ≤ 8 * (d : Int) := by omega
      have x5 : 8 * (d : Int) ≤ 64 := by omega
      have x6 : (8 * (d : Int)).toNat = 8 * d := by omega
      have x7 : IntKind.i64.wrap (8 * (d : Int)) = 8 * (d : Int) := by rw [IntKind.wrap_i64]; omega
      have x8 : ¬ 8 * (d : Int) < 0 := by omega
      have hs1 := ho1.size
      clear hd e1 htk hbyte hw1
      go_upto_region 6 with fail
      obtain ⟨l1, hl1⟩ : ∃ l1, l1 = l ++ (beN n s).take t := ⟨_, rfl⟩
      rw [← hl1] at HW1 hlen
      have HL1 := Lib.hid hl1
      clear hl1
      have c4 : wr.drew.cell? ⟨g, 2, none⟩ = some v1 := c2
      have hgl2 : g < wr.drew.heap.size := hgl
      go_region_law (first
        | (refine step_append_lies _ (by rfl) _ _ _ (by rfl) B 5 i0 _ 1 1 Tryz.underlying54 hi0 hz0 hz1 hz2 rfl (by omega) v1 l1.length _ (by rfl) (ownsRow_drew (ownsRow_alloc HW1.out.2.1 _))
            ⟨wr.heap.size, 0, none⟩ 1 1 [.int .u8 (IntKind.u8.wrap ((n : Int) / 2 ^ (8 * d)))] (by rfl) (by rfl) (World.news_of_block (cs := #[.int .u8 (IntKind.u8.wrap ((n : Int) / 2 ^ (8 * d)))]) (t := 5) (fr := (0, 0)) (heap_alloc_new wr _)) (by simp [Value.oneCell'])
            (by omega) (by unfold maxLen; omega) (by omega) (by simp; omega) (wr.heap.size + 1) (by simp) ?_; intro gg cap w1 hown1 hgrow hat hlt2
           have f3 : w1.frozen? ⟨g, 2, none⟩ = false := by rw [hgrow.frozen_far _ (by simp; omega) hvg]; exact (HW1.out.1.alloc _).free 2
           have c3 : w1.cell? ⟨g, 2, none⟩ = some v1 := by rw [hgrow.cell_far _ (by simp; omega) hvg]; exact (HW1.out.1.alloc _).cell 2 rfl))
      all_goals
        have hwv : WrV (wr.alloc (.cells #[.int .u8 (IntKind.u8.wrap ((n : Int) / 2 ^ (8 * d)))] 5)).drew B g v1 l1 := ⟨HW1.out.1.alloc _, ownsRow_alloc HW1.out.2.1 _, HW1.out.2.2⟩
        have hon : Only g w (wr.alloc (.cells #[.int .u8 (IntKind.u8.wrap ((n : Int) / 2 ^ (8 * d)))] 5)).drew v.ownBlock :=
          ⟨ho1.os, ho1.tape, ho1.output, by simp; omega, fun k hk h1 h2 => (Below.heap_alloc wr _ k (Nat.lt_of_lt_of_le hk ho1.size)).trans (ho1.block k hk h1 h2)⟩
        have hown2 : w1.ownsRow B 5 1 (.slice (some ⟨gg, 0, none⟩) (l1.length + 1) cap) (l1 ++ [UInt8.ofNat (n / 2 ^ (8 * d))]).length (B8 (l1 ++ [UInt8.ofNat (n / 2 ^ (8 * d))])).toList := by
          have e : (B8 (l1 ++ [UInt8.ofNat (n / 2 ^ (8 * d))])).toList = (B8 l1).toList ++ [.int .u8 (UInt8.ofNat (n / 2 ^ (8 * d))).toNat] := by simp [B8]
          rw [e, List.length_append, ← HBY.out]
          exact hown1
        have hmo := More.trans hon (ha1.imp id fun ⟨k, a1, a2, a3⟩ => ⟨k, a1, a2, by have := a3; simp; omega⟩) (more_of hwv hown2 hgrow (by
          rcases hat with e | e
          · exact .inl e.symm
          · exact .inr (by rw [e]; simp [Value.ownBlock])))
        rw [HL1.out, List.append_assoc, ← HTK.out] at hmo
        rw [← HL1.out] at hmo
        have HMO := Lib.hid hmo
        clear hmo hown2 hon hwv hown1 hgrow c3 f3 hat hlt2 c4 c2 f2
        go_wp2_with fail
        refine ⟨⟨t + 1, by omega, by have := HD.out; refine congrArg (Value.int .i64) ?_; omega, HMO.out⟩, ?_⟩
        simp [intOf]
    · obtain rfl : t = s := by omega
      have hm : More w B g v (l ++ beN n t) wr := by
        have := (⟨v1, hw1, ho1, ha1⟩ : More w B g v (l ++ (beN n t).take t) wr)
        rwa [List.take_of_length_le (by rw [beN_length]; exact Nat.le_refl _)] at this
      have HM := Lib.hid hm
      clear hm hw1 ho1 ha1 H0
      have e1 : (t : Int) - 1 - (t : Int) = -1 := by omega
      rw [e1]
      go_wp2_with fail
      go_end0
      exact ⟨rfl, HM.out⟩
end Go.Proofs.YtilbbemdinpjcaaGreat.W
namespace Go.Proofs.YtilbbemdinpjcaaGreat.W
open Go.RowKit

set_option maxRecDepth 100000 in
set_option maxHeartbeats 1000000 in
theorem number_big (w : World) (B g : Nat) (v : Value) (l : List UInt8) (n s : Nat) (h : WrV w B g v l) (hs : s ≤ 8) (hfit : n / 2 ^ (8 * s) ≠ 0) :
    Calls Tryz.prog 125 #[.pointer (some ⟨g, 0, none⟩), .int .u64 n, .int .i64 s] w fun e w' => e = .returned (.tuple #[]) ∧ w' = w.setCell ⟨g, 1, none⟩ (.bool true) := by
  have ht := takes_self w g false (h.1.cell 0 rfl) (h.1.cell 1 rfl)
  have hsp := spoil_any w g (.bool false) (h.1.cell 1 rfl) (h.1.free 1) rfl
  have HSP := Lib.hid hsp
  clear h hsp
  go_enter Tryz.func125, Tryz.ntmps125
  go_wp2_with fail
  refine ht.mono ?_
  rintro e w1 ⟨rfl, rfl⟩
  clear ht
  have hz : ((n : Int) / 2 ^ (8 * s) != 0) = true := by
    rw [bne_iff_ne]
    have e : (2 : Int) ^ (8 * s) = ((2 ^ (8 * s) : Nat) : Int) := by simp
    rw [e, ← Int.natCast_ediv]
    omega
  go_wp2_with fail
  refine HSP.out.mono ?_
  rintro e w2 ⟨rfl, hw2⟩
  have HW2 := Lib.hid hw2
  clear hw2 hz hfit
  go_wp2_with fail
  refine bodyPost_ret (results_none rfl _ _ _) rfl ?_
  exact ⟨rfl, HW2.out⟩
set_option maxRecDepth 100000 in
theorem u8_any (w : World) (B g : Nat) (v : Value) (l : List UInt8) (n : Nat) (h : WrV w B g v l) (hB : B ≤ w.heap.size) (hx : l.length ≤ 1000000) (hn : n < 256) :
    Calls Tryz.prog 58 #[.pointer (some ⟨g, 0, none⟩), .int .i64 n] w fun e w' => e = .returned (.tuple #[]) ∧ More w B g v (l ++ beN n 1) w' := by
  have he := number_any w B g v l n 1 h hB hx (by omega) (by omega) (Nat.div_eq_of_lt hn)
  have HE := Lib.hid he
  clear he h
  have hw : IntKind.u64.wrap (n : Int) = (n : Int) := by rw [IntKind.wrap_u64]; omega
  go_enter Tryz.func58, Tryz.ntmps58
  go_wp2_with fail
  refine HE.out.mono ?_
  rintro e w' ⟨rfl, hm⟩
  have HM := Lib.hid hm
  clear HE hm
  go_wp2_with fail
  go_end0
  exact ⟨rfl, HM.out⟩
set_option maxRecDepth 100000 in
theorem u16_any (w : World) (B g : Nat) (v : Value) (l : List UInt8) (n : Nat) (h : WrV w B g v l) (hB : B ≤ w.heap.size) (hx : l.length ≤ 1000000) (hn : n < 65536) :
    Calls Tryz.prog 236 #[.pointer (some ⟨g, 0, none⟩), .int .i64 n] w fun e w' => e = .returned (.tuple #[]) ∧ More w B g v (l ++ beN n 2) w' := by
  have he := number_any w B g v l n 2 h hB hx (by omega) (by omega) (Nat.div_eq_of_lt hn)
  have HE := Lib.hid he
  clear he h
  have hw : IntKind.u64.wrap (n : Int) = (n : Int) := by rw [IntKind.wrap_u64]; omega
  go_enter Tryz.func236, Tryz.ntmps236
  go_wp2_with fail
  refine HE.out.mono ?_
  rintro e w' ⟨rfl, hm⟩
  have HM := Lib.hid hm
  clear HE hm
  go_wp2_with fail
  go_end0
  exact ⟨rfl, HM.out⟩
end Go.Proofs.YtilbbemdinpjcaaGreat.W
namespace Go.Proofs.YtilbbemdinpjcaaGreat.W
open Go.RowKit

theorem eql_slice_nil (w : World) (a : Option Addr) (l c : Nat) : (binOp .eql 54 (.slice a l c) (.slice none 0 0)).run Tryz.prog w = .ok (.bool a.isNone) w := by
  simp only [binOp]
  simp [run_equal_slice_nil (P := Tryz.prog) w 54 5 a l c Tryz.underlying54]
set_option maxRecDepth 100000 in
theorem clone_nil (w : World) : Calls Tryz.prog 85 #[.slice none 0 0] w fun e w' => e = .returned (.slice none 0 0) ∧ w = w' := by
  have hq := eql_slice_nil w none 0 0
  go_enter Tryz.func85, Tryz.ntmps85
  go_wp2
  go_ret
  exact ⟨rfl, rfl⟩
set_option maxRecDepth 100000 in
set_option maxHeartbeats 1000000 in
theorem clone_anyA (w : World) (xs : List UInt8) (ad : Addr) (c : Nat) (hs : SrcA w ad xs) (hx : xs.length ≤ 2000000) :
    Calls Tryz.prog 85 #[.slice (some ad) xs.length c] w fun e w' => ∃ v, e = .returned v ∧ w'.ownsRow w.heap.size 5 1 v xs.length (B8 xs).toList ∧ Below w.heap.size w w' := by
  obtain ⟨i0, hi0, hz0, hz1, hz2⟩ := info_parts info5
  have he : (w.alloc (.cells #[] 5)).ownsRow w.heap.size 5 1 (.slice (some ⟨w.heap.size, 0, none⟩) 0 0) 0 [] := World.ownsRow_made w #[] 0 (Nat.le_refl _) (Nat.zero_le _) rfl
  have hb : Below w.heap.size w (w.alloc (.cells #[] 5)) := (Below.refl _ _).alloc (Nat.le_refl _) _
  have hs2 : SrcA (w.alloc (.cells #[] 5)) ad xs := hs.below hb hs.lt
  have HE := Lib.hid he
  have HB := Lib.hid hb
  have HS := Lib.hid hs2
  clear he hb hs2 hs
  have hq := eql_slice_nil w (some ad) xs.length c
  go_enter Tryz.func85, Tryz.ntmps85
  go_wp2_with (at_builtin; go_must (refine wpList_append_own_at _ rfl _ _ 54 rfl w.heap.size 5 i0 (.int .u8 0) 1 1 Tryz.underlying54 hi0 hz0 hz1 hz2 rfl (by decide) _ 0 [] rfl HE.out ad xs.length c (B8 xs).toList rfl (by rw [Array.length_toList, B8_size, Nat.mul_one]) HS.out (byts_one _) (by unfold maxLen; omega) (by omega) (by simp) ?_; intro v' w1 hown hgrow _ hat))
  go_ret
  refine ⟨_, rfl, by simpa using hown, HB.out.grown hgrow (by simp) (fun k e => ?_)⟩
  have : w.heap.size = k := Option.some.inj e
  omega
theorem clone_any (w : World) (xs : List UInt8) (gx off c : Nat) (hs : Src w gx off xs) (_hg : gx < w.heap.size) (hx : xs.length ≤ 2000000) :
    Calls Tryz.prog 85 #[.slice (some ⟨gx, off, none⟩) xs.length c] w fun e w' => ∃ v, e = .returned v ∧ w'.ownsRow w.heap.size 5 1 v xs.length (B8 xs).toList ∧ Below w.heap.size w w' :=
  clone_anyA w xs _ c (src_news hs) hx
end Go.Proofs.YtilbbemdinpjcaaGreat.W
namespace Go.Proofs.YtilbbemdinpjcaaGreat.W
open Go.RowKit

/-- The capacity that stands for a reader of nil. -/
def NILC : Nat := 18446744073709551616
/-- What a reader holds: its bytes in block k, or nil. -/
def RS (k n c : Nat) : Value := if c = NILC then .slice none 0 0 else .slice (some ⟨k, 0, none⟩) n c
theorem RS_nil (k n : Nat) : RS k n NILC = .slice none 0 0 := if_pos rfl
theorem RS_some (k n : Nat) {c : Nat} (h : c ≠ NILC) : RS k n c = .slice (some ⟨k, 0, none⟩) n c := if_neg h
/-- A reader in block g, of the bytes xs in block k, at the place a. -/
def Rdr (w : World) (g k : Nat) (xs : List UInt8) (c a : Nat) (sp : Bool) : Prop :=
  Lies w g #[.pointer (some ⟨g, 0, none⟩), .bool sp, RS k xs.length c, .int .i64 a] 129 ∧ Src w k 0 xs ∧ k ≠ g ∧ k < w.heap.size ∧ xs.length ≤ 2000000 ∧ xs.length ≤ c ∧ (c = NILC → xs = [])
theorem Rdr.notNil {w : World} {g k : Nat} {xs : List UInt8} {c a : Nat} {sp : Bool} (h : Rdr w g k xs c a sp) (hp : 0 < xs.length) : c ≠ NILC := fun e => by
  rw [h.2.2.2.2.2.2 e] at hp
  exact absurd hp (by simp)
theorem Rdr.form {w : World} {g k : Nat} {xs : List UInt8} {c a : Nat} {sp : Bool} (h : Rdr w g k xs c a sp) : ∃ A c', RS k xs.length c = .slice A xs.length c' := by
  by_cases hc : c = NILC
  · exact ⟨none, 0, by rw [hc, RS_nil, h.2.2.2.2.2.2 hc]; rfl⟩
  · exact ⟨_, _, RS_some k _ hc⟩
theorem Only.trans0 {g : Nat} {w w1 w2 : World} (h : Only g w w1 none) (k : Only g w1 w2 none) : Only g w w2 none := Only.trans h k (.inl rfl)
theorem only_below {g : Nat} {w w' : World} (h : Below w.heap.size w w') : Only g w w' none := ⟨h.os, h.tape, h.output, h.size, fun k hk _ _ => h.block k hk⟩
theorem only_set (g j : Nat) (w : World) (v : Value) : Only g w (w.setCell ⟨g, j, none⟩ v) none :=
  ⟨rfl, rfl, rfl, by rw [size_set]; exact Nat.le_refl _, fun k _ hne _ => heap_setCell_other w _ k v hne⟩
theorem Only.cell {g : Nat} {w w' : World} (h : Only g w w' none) {b o : Nat} (hb : b < w.heap.size) (hne : b ≠ g) : w'.cell? ⟨b, o, none⟩ = w.cell? ⟨b, o, none⟩ := by
  have := h.block b hb hne (by simp)
  unfold World.cell?
  simp only [this]
theorem Src.only {g : Nat} {w w' : World} {k off : Nat} {xs : List UInt8} (h : Src w k off xs) (ho : Only g w w' none) (hk : k < w.heap.size) (hne : k ≠ g) : Src w' k off xs :=
  fun j hj => (ho.cell hk hne).trans (h j hj)
theorem Rdr.below {w w' : World} {g k : Nat} {xs : List UInt8} {c a : Nat} {sp : Bool} (h : Rdr w g k xs c a sp) (hb : Below w.heap.size w w') : Rdr w' g k xs c a sp :=
  ⟨h.1.below hb h.1.lt, fun j hj => (hb.cell (p := ⟨k, 0 + j, none⟩) h.2.2.2.1).trans (h.2.1 j hj), h.2.2.1, Nat.lt_of_lt_of_le h.2.2.2.1 hb.size, h.2.2.2.2⟩
theorem Rdr.at {w : World} {g k : Nat} {xs : List UInt8} {c a : Nat} {sp : Bool} (h : Rdr w g k xs c a sp) (a' : Nat) : Rdr (w.setCell ⟨g, 3, none⟩ (.int .i64 a')) g k xs c a' sp :=
  ⟨h.1.set 3 _, h.2.1.only (only_set g 3 w _) h.2.2.2.1 h.2.2.1, h.2.2.1, by rw [size_set]; exact h.2.2.2.1, h.2.2.2.2⟩
theorem Rdr.spoil {w : World} {g k : Nat} {xs : List UInt8} {c a : Nat} {sp : Bool} (h : Rdr w g k xs c a sp) : Rdr (w.setCell ⟨g, 1, none⟩ (.bool true)) g k xs c a true :=
  ⟨h.1.set 1 _, h.2.1.only (only_set g 1 w _) h.2.2.2.1 h.2.2.1, h.2.2.1, by rw [size_set]; exact h.2.2.2.1, h.2.2.2.2⟩

/-! ## tells -/
theorem tells_nil (w : World) : Calls Tryz.prog 102 #[.pointer none] w fun e w' => e = .returned (.bool false) ∧ w = w' := by
  go_enter Tryz.func102, Tryz.ntmps102
  go_wp2
  go_ret
  exact ⟨rfl, rfl⟩
set_option maxRecDepth 100000 in
theorem tells_self (w : World) (g : Nat) (sp : Bool) (h : w.cell? ⟨g, 0, none⟩ = some (.pointer (some ⟨g, 0, none⟩))) (hs : w.cell? ⟨g, 1, none⟩ = some (.bool sp)) :
    Calls Tryz.prog 102 #[.pointer (some ⟨g, 0, none⟩)] w fun e w' => e = .returned (.bool (!sp)) ∧ w = w' := by
  have he := sound_self w g sp h hs
  go_enter Tryz.func102, Tryz.ntmps102
  go_wp2_with fail
  refine he.mono ?_
  rintro e w' ⟨rfl, rfl⟩
  clear he
  go_wp2_with fail
  go_ret
  exact ⟨rfl, rfl⟩
set_option maxRecDepth 100000 in
theorem tells_none (w : World) (g : Nat) (h : w.cell? ⟨g, 0, none⟩ = some (.pointer none)) :
    Calls Tryz.prog 102 #[.pointer (some ⟨g, 0, none⟩)] w fun e w' => e = .returned (.bool false) ∧ w = w' := by
  have he := sound_none w g h
  go_enter Tryz.func102, Tryz.ntmps102
  go_wp2_with fail
  refine he.mono ?_
  rintro e w' ⟨rfl, rfl⟩
  clear he
  go_wp2_with fail
  go_ret
  exact ⟨rfl, rfl⟩
theorem tells_idle (w : World) (p : Option Addr) (h : Idle w p) : Calls Tryz.prog 102 #[.pointer p] w fun e w' => e = .returned (.bool false) ∧ w = w' := by
  rcases h with rfl | ⟨g, rfl, _, h | ⟨h, h'⟩⟩
  · exact tells_nil w
  · exact tells_none w g h
  · exact tells_self w g true h h'

/-! ## next -/
theorem below_drewN (w : World) (n : Nat) : Below w.heap.size w (w.drewN n) := ⟨rfl, rfl, rfl, Nat.le_refl _, fun _ _ => rfl⟩
/-- What is not there is thrown. -/
def Unmet (e : Ending) : Prop := ∃ v, e = .panicked [{ v := .iface 64 v, recovered := false }]
set_option maxRecDepth 100000 in
theorem next_bad (w : World) (g k : Nat) (xs : List UInt8) (c a : Nat) (h : Rdr w g k xs c a false) (ha : a ≤ xs.length) (n : Int) (hn : n < 0 ∨ (xs.length : Int) - a < n) :
    Calls Tryz.prog 276 #[.pointer (some ⟨g, 0, none⟩), .int .i64 n] w fun e w' => Unmet e ∧ Below w.heap.size w w' := by
  obtain ⟨A, c', hrs⟩ := h.form
  have c2 : w.cell? ⟨g, 2, none⟩ = some (RS k xs.length c) := h.1.cell 2 rfl
  rw [hrs] at c2
  clear hrs
  have c3 : w.cell? ⟨g, 3, none⟩ = some (.int .i64 a) := h.1.cell 3 rfl
  obtain ⟨_, _, _, _, hx, _, _⟩ := h
  have b1 : (0 : Int) ≤ (xs.length : Int) - a := by omega
  have b2 : (xs.length : Int) - a ≤ 2000000 := by omega
  have hw : IntKind.i64.wrap ((xs.length : Int) - a) = (xs.length : Int) - a := by rw [IntKind.wrap_i64]; omega
  by_cases h0 : n < 0
  · have d0 : decide (n < 0) = true := decide_eq_true h0
    go_enter Tryz.func276, Tryz.ntmps276
    go_wp2_with fail
    go_quiet (fail)
    go_wp2_with fail
    exact ⟨rfl, ⟨_, rfl⟩, below_drewN w nq⟩
  · have d0 : decide (n < 0) = false := decide_eq_false h0
    have d1 : (xs.length : Int) - a < n := by omega
    go_enter Tryz.func276, Tryz.ntmps276
    go_wp2_with fail
    go_quiet (fail)
    go_wp2_with fail
    exact ⟨rfl, ⟨_, rfl⟩, below_drewN w nq⟩
theorem part_src {w : World} {k : Nat} {xs : List UInt8} (h : Src w k 0 xs) (a n : Nat) : Src w k a ((xs.drop a).take n) := by
  intro j hj
  rw [List.length_take, List.length_drop] at hj
  have := h (a + j) (by omega)
  rw [Nat.zero_add] at this
  rw [this]
  simp only [List.getD_eq_getElem?_getD]
  rw [List.getElem?_take_of_lt (by omega), List.getElem?_drop]
set_option maxRecDepth 100000 in
theorem next_good (w : World) (g k : Nat) (xs : List UInt8) (c a : Nat) (h : Rdr w g k xs c a false) (n : Nat) (hn : a + n ≤ xs.length) (hnn : c ≠ NILC) :
    Calls Tryz.prog 276 #[.pointer (some ⟨g, 0, none⟩), .int .i64 n] w fun e w' => ∃ off c', e = .returned (.slice (some ⟨k, off, none⟩) n c') ∧ Src w' k off ((xs.drop a).take n) ∧ Rdr w' g k xs c (a + n) false ∧ Only g w w' none := by
  have HR := Lib.hid h
  have c2 : w.cell? ⟨g, 2, none⟩ = some (RS k xs.length c) := h.1.cell 2 rfl
  rw [RS_some k _ hnn] at c2
  clear hnn
  have c3 : w.cell? ⟨g, 3, none⟩ = some (.int .i64 a) := h.1.cell 3 rfl
  have f3 : w.frozen? ⟨g, 3, none⟩ = false := h.1.free 3
  obtain ⟨_, _, _, _, hx, hxc, _⟩ := h
  have b1 : (0 : Int) ≤ (xs.length : Int) - a := by omega
  have b2 : (xs.length : Int) - a ≤ 2000000 := by omega
  have hw : IntKind.i64.wrap ((xs.length : Int) - a) = (xs.length : Int) - a := by rw [IntKind.wrap_i64]; omega
  have hw2 : IntKind.i64.wrap ((a : Int) + n) = (a : Int) + n := by rw [IntKind.wrap_i64]; omega
  have d0 : decide ((n : Int) < 0) = false := decide_eq_false (by omega)
  have d1 : ¬ (xs.length : Int) - a < n := by omega
  have d2 : decide ((xs.length : Int) - a < n) = false := decide_eq_false d1
  have e1 : (0 : Int) ≤ (a : Int) + n := by omega
  have e2 : ((a : Int) + n).toNat = a + n := by omega
  have e3 : ¬ (c : Int) < (a : Int) + n := by omega
  have e4 : ¬ (a : Int) + n < a := by omega
  have e5 : ¬ a + n < a := by omega
  have fin : ∀ q, Rdr ((w.drewN q).setCell ⟨g, 3, none⟩ (.int .i64 ((a : Int) + n))) g k xs c (a + n) false ∧ Only g w ((w.drewN q).setCell ⟨g, 3, none⟩ (.int .i64 ((a : Int) + n))) none := by
    intro q
    have hR := (HR.out.below (below_drewN w q)).at (a + n)
    rw [Int.natCast_add] at hR
    exact ⟨hR, (only_below (below_drewN w q)).trans0 (only_set g 3 _ _)⟩
  have FIN := Lib.hid fin
  clear fin
  by_cases hc : c = a
  · obtain rfl : n = 0 := by omega
    subst hc
    go_enter Tryz.func276, Tryz.ntmps276
    go_wp2_with fail
    go_quiet (fail)
    go_wp2_with fail
    go_quiet (fail)
    go_wp2_with fail
    go_ret
    obtain ⟨h1, h2⟩ := FIN.out _
    rw [show ((c : Int) + ((0 : Nat) : Int)) = (c : Int) by omega] at h1 h2
    exact ⟨0, 0, rfl, fun j hj => absurd hj (by simp), h1, h2⟩
  · have hc2 : ¬ a = c := by omega
    go_enter Tryz.func276, Tryz.ntmps276
    go_wp2_with fail
    go_quiet (fail)
    go_wp2_with fail
    go_quiet (fail)
    go_wp2_with fail
    go_ret
    obtain ⟨h1, h2⟩ := FIN.out _
    exact ⟨a, c - a, rfl, part_src h1.2.1 a n, h1, h2⟩
set_option maxRecDepth 100000 in
/-- The same, where something is taken: what it tells lies in the reader's own bytes. -/
theorem next_at (w : World) (g k : Nat) (xs : List UInt8) (c a : Nat) (h : Rdr w g k xs c a false) (n : Nat) (hn : a + n ≤ xs.length) (h0 : 0 < n) :
    Calls Tryz.prog 276 #[.pointer (some ⟨g, 0, none⟩), .int .i64 n] w fun e w' => e = .returned (.slice (some ⟨k, a, none⟩) n (c - a)) ∧ Rdr w' g k xs c (a + n) false ∧ Only g w w' none := by
  have HR := Lib.hid h
  have hnn := h.notNil (by omega)
  have c2 : w.cell? ⟨g, 2, none⟩ = some (RS k xs.length c) := h.1.cell 2 rfl
  rw [RS_some k _ hnn] at c2
  clear hnn
  have c3 : w.cell? ⟨g, 3, none⟩ = some (.int .i64 a) := h.1.cell 3 rfl
  have f3 : w.frozen? ⟨g, 3, none⟩ = false := h.1.free 3
  obtain ⟨_, _, _, _, hx, hxc, _⟩ := h
  have b1 : (0 : Int) ≤ (xs.length : Int) - a := by omega
  have b2 : (xs.length : Int) - a ≤ 2000000 := by omega
  have hw : IntKind.i64.wrap ((xs.length : Int) - a) = (xs.length : Int) - a := by rw [IntKind.wrap_i64]; omega
  have hw2 : IntKind.i64.wrap ((a : Int) + n) = (a : Int) + n := by rw [IntKind.wrap_i64]; omega
  have d0 : decide ((n : Int) < 0) = false := decide_eq_false (by omega)
  have d1 : ¬ (xs.length : Int) - a < n := by omega
  have d2 : decide ((xs.length : Int) - a < n) = false := decide_eq_false d1
  have e1 : (0 : Int) ≤ (a : Int) + n := by omega
  have e2 : ((a : Int) + n).toNat = a + n := by omega
  have e3 : ¬ (c : Int) < (a : Int) + n := by omega
  have e4 : ¬ (a : Int) + n < a := by omega
  have e5 : ¬ a + n < a := by omega
  have fin : ∀ q, Rdr ((w.drewN q).setCell ⟨g, 3, none⟩ (.int .i64 ((a : Int) + n))) g k xs c (a + n) false ∧ Only g w ((w.drewN q).setCell ⟨g, 3, none⟩ (.int .i64 ((a : Int) + n))) none := by
    intro q
    have hR := (HR.out.below (below_drewN w q)).at (a + n)
    rw [Int.natCast_add] at hR
    exact ⟨hR, (only_below (below_drewN w q)).trans0 (only_set g 3 _ _)⟩
  have FIN := Lib.hid fin
  clear fin
  have hc2 : ¬ a = c := by omega
  go_enter Tryz.func276, Tryz.ntmps276
  go_wp2_with fail
  go_quiet (fail)
  go_wp2_with fail
  go_quiet (fail)
  go_wp2_with fail
  go_ret
  obtain ⟨h1, h2⟩ := FIN.out _
  exact ⟨rfl, h1, h2⟩
set_option maxRecDepth 100000 in
/-- Nothing taken of a reader of nil. -/
theorem next_nil (w : World) (g k : Nat) (h : Rdr w g k [] NILC 0 false) :
    Calls Tryz.prog 276 #[.pointer (some ⟨g, 0, none⟩), .int .i64 0] w fun e w' => e = .returned (.slice none 0 0) ∧ Rdr w' g k [] NILC 0 false ∧ Only g w w' none := by
  have c2 : w.cell? ⟨g, 2, none⟩ = some (RS k ([] : List UInt8).length NILC) := h.1.cell 2 rfl
  rw [RS_nil] at c2
  have c3 : w.cell? ⟨g, 3, none⟩ = some (.int .i64 0) := h.1.cell 3 rfl
  have f3 : w.frozen? ⟨g, 3, none⟩ = false := h.1.free 3
  have fin : ∀ q, Rdr ((w.drewN q).setCell ⟨g, 3, none⟩ (.int .i64 0)) g k [] NILC 0 false ∧ Only g w ((w.drewN q).setCell ⟨g, 3, none⟩ (.int .i64 0)) none := by
    intro q
    have hR := (h.below (below_drewN w q)).at 0
    exact ⟨hR, (only_below (below_drewN w q)).trans0 (only_set g 3 _ _)⟩
  have FIN := Lib.hid fin
  clear fin h
  go_enter Tryz.func276, Tryz.ntmps276
  go_wp2_with fail
  go_quiet (fail)
  go_wp2_with fail
  go_quiet (fail)
  go_wp2_with fail
  go_ret
  exact ⟨rfl, FIN.out _⟩
end Go.Proofs.YtilbbemdinpjcaaGreat.W
