/-
  put: bytes come behind those that were put. There are at most a million in all.
-/
import Derived.Test.YtgempifedhiknaaGreatDoorTurn
import Derived.Test.YtgempifedhiknaaGreatDoorEat
import Derived.Deep.Cut
import Derived.Laws.CopyOwn
namespace Go.Proofs.YtgempifedhiknaaGreatDoor
set_option maxRecDepth 100000
open Go.RowKit Sha

/-- The bytes xs lie in block g from off on. -/
def Src (w : World) (g off : Nat) (xs : List UInt8) : Prop := ∀ j, j < xs.length → w.cell? ⟨g, off + j, none⟩ = some (.int .u8 (xs.getD j 0).toNat)
theorem Src.grown {w w' : World} {g off : Nat} {xs : List UInt8} {b : Nat} (h : Src w g off xs) (hg : w.grownBy w' (some b)) (hne : g ≠ b) : Src w' g off xs := fun j hj =>
  hg.cell (h j hj) (fun e => hne (Option.some.inj e))
theorem sum_u64 (a n : Nat) (h : a + n ≤ 1000000) : IntKind.u64.wrap ((a : Int) + (n : Int)) = ((a + n : Nat) : Int) := by
  rw [IntKind.wrap_u64]; omega
theorem wrap_u64_nat (n : Nat) (h : n ≤ 1000000) : IntKind.u64.wrap (n : Int) = (n : Int) := by
  rw [IntKind.wrap_u64]; omega

/-- The memory while t bytes of xs are put behind l0. -/
def AtP (w : World) (b g off : Nat) (s : Eight) (l0 xs : List UInt8) (t : Nat) (wr : World) : Prop :=
  Lies wr b (WK (stAt s (l0 ++ xs) (l0.length + t)) (rowAt (l0 ++ xs) (l0.length + t)) ((l0.length + t) % 64) (l0 ++ xs).length) 94 ∧ Cubes wr ∧ w.grownBy wr (some b) ∧ (0 < xs.length → Src wr g off xs)

/-- The copy into a hash at work's row. -/
theorem wpList_copy_WK {w : World} {ops : Array Oper} {rest : List Oper} {o : Oper} {a : Act} {Q : Exit → Act → World → Prop} (hgd : o.guard = none) (d s : Operand)
    (ho : o.op = .call { callee := .builtin .copy, args := #[d, s], argTypes := #[22, 22] }) (b g of h m c n : Nat)
    (hd : a.eval d = .slice (some ⟨b, 8 + h, none⟩) (64 - h) (64 - h)) (hs : a.eval s = .slice (some ⟨g, of, none⟩) m c)
    (st : Eight) (row ys : List UInt8) (held all : Nat) (hr : row.length = 64) (hh : h < 64) (hys : ys.length = n) (hn : n = Nat.min m (64 - h))
    (hsrc : ∀ j, j < n → w.cell? ⟨g, of + j, none⟩ = some (.int .u8 (ys.getD j 0).toNat)) (hL : Lies w b (WK st row held all) 94)
    (k : ∀ w2, Hid (Lies w2 b (WK st (row.take h ++ (ys ++ row.drop (h + n))) held all) 94) → Hid (w.grownBy w2 (some b)) → w2.cell? ⟨b, 72, none⟩ = some (.int .i64 held) → w2.frozen? ⟨b, 72, none⟩ = false →
      wpList Tryz.prog ops Q rest (a.put o.dst (.int .i64 n)) w2) : wpList Tryz.prog ops Q (o :: rest) a w := by
  have hln : (B8 ys).toList.length = n := by rw [Array.length_toList, B8_size, hys]
  have hnb : n ≤ 64 - h := by rw [hn]; exact Nat.min_le_right _ _
  have hL2 : Lies (w.setRow b (((WK st row held all).toList.take (8 + h) ++ ((B8 ys).toList ++ (WK st row held all).toList.drop (8 + h + (B8 ys).toList.length))).toArray)) b (WK st (row.take h ++ (ys ++ row.drop (h + n))) held all) 94 := by
    have := hL.setRow (((WK st row held all).toList.take (8 + h) ++ ((B8 ys).toList ++ (WK st row held all).toList.drop (8 + h + (B8 ys).toList.length))).toArray)
    rw [WK_copied st row ys held all h hr (by omega)] at this ⊢
    rwa [hys] at this ⊢
  refine wpList_copy_own hgd d s 22 22 ho 5 Tryz.underlying22 (by kernel_rfl) b (8 + h) (64 - h) (64 - h) ⟨g, of, none⟩ m c hd hs (WK st row held all) 94 hL (B8 ys).toList (by rw [hln, hn]) ?_ (by rw [hln, WK_size _ _ _ _ hr]; omega) ?_ ?_
  · intro j v hv
    rw [Addr.add_mid]
    have hj : j < ys.length := by
      have := (List.getElem?_eq_some_iff.1 hv).1
      rwa [Array.length_toList, B8_size] at this
    rw [Array.getElem?_toList, B8_get ys j hj] at hv
    rw [hsrc j (by omega), ← hv]
  · intro v hv
    exact (Array.all_eq_true_iff_forall_mem.1 (B8_one ys)) v (by simpa using hv)
  · rw [hln]
    refine k _ ?_ ?_ ?_ ?_
    · rw [hln] at hL2; exact hL2
    · exact ⟨rfl, rfl, rfl, by simp, fun i _ hne => setRow_other w b i _ (fun e => hne (by rw [e]))⟩
    · rw [hln] at hL2
      exact hL2.cell 72 (WK_held _ _ _ _ (by rw [List.length_append, List.length_append, List.length_take, List.length_drop, hr, hys]; omega))
    · rw [hln] at hL2; exact hL2.free 72

theorem AtP.mid {w : World} {b g off : Nat} {s : Eight} {l0 xs : List UInt8} {t : Nat} {wr w2 : World} {st : Eight} {row : List UInt8} {h n all : Nat} (hat : AtP w b g off s l0 xs t wr) (hb1 : b ≠ 1) (hgb : g ≠ b)
    (hr : row.length = 64) (hA : Lies w2 b (WK st row h all) 94) (hB : wr.drew.grownBy w2 (some b)) :
    Lies (w2.setCell ⟨b, 72, none⟩ (.int .i64 ((h : Int) + (n : Int)))) b (WK st row (h + n) all) 94 ∧ Cubes (w2.setCell ⟨b, 72, none⟩ (.int .i64 ((h : Int) + (n : Int)))) ∧
      w.grownBy (w2.setCell ⟨b, 72, none⟩ (.int .i64 ((h : Int) + (n : Int)))) (some b) ∧ (0 < xs.length → Src (w2.setCell ⟨b, 72, none⟩ (.int .i64 ((h : Int) + (n : Int)))) g off xs) := by
  obtain ⟨h1, h2, h3, h4⟩ := hat
  have hg2 : wr.grownBy (w2.setCell ⟨b, 72, none⟩ (.int .i64 ((h : Int) + (n : Int)))) (some b) := grown_set (grown_trans (grown_drew (grown_refl wr _)) hB) _ _
  refine ⟨?_, Lies.grown h2 hg2 (fun e => hb1 e.symm), grown_trans h3 hg2, fun hx => (h4 hx).grown hg2 hgb⟩
  have := hA.set 72 (.int .i64 (h + n : Nat))
  rwa [WK_set_held _ _ _ _ _ hr] at this

theorem AtP.low {w : World} {b g off : Nat} {s : Eight} {l0 xs : List UInt8} {t : Nat} {w3 : World} {h n : Nat} (hh : h = (l0.length + t) % 64) (hc : l0.length + t + n ≤ (l0 ++ xs).length) (hl : h + n < 64)
    (hm : Lies w3 b (WK (stAt s (l0 ++ xs) (l0.length + t)) (rowMore (l0 ++ xs) (l0.length + t) n) (h + n) (l0 ++ xs).length) 94 ∧ Cubes w3 ∧ w.grownBy w3 (some b) ∧ (0 < xs.length → Src w3 g off xs)) :
    AtP w b g off s l0 xs (t + n) w3 := by
  obtain ⟨h1, h2, h3, h4⟩ := hm
  obtain ⟨e1, e2, e3⟩ := rowMore_low s (l0 ++ xs) (l0.length + t) n hc (by rw [← hh]; exact hl)
  refine ⟨?_, h2, h3, h4⟩
  rw [← Nat.add_assoc, ← e1, ← e2, e3, ← hh]; exact h1
theorem AtP.full {w : World} {b g off : Nat} {s : Eight} {l0 xs : List UInt8} {t : Nat} {w2 w3 : World} {h n : Nat} (hb1 : b ≠ 1) (hgb : g ≠ b) (hh : h = (l0.length + t) % 64) (hc : l0.length + t + n ≤ (l0 ++ xs).length) (hl : h + n = 64)
    (hm : Lies w2 b (WK (stAt s (l0 ++ xs) (l0.length + t)) (rowMore (l0 ++ xs) (l0.length + t) n) (h + n) (l0 ++ xs).length) 94 ∧ Cubes w2 ∧ w.grownBy w2 (some b) ∧ (0 < xs.length → Src w2 g off xs))
    (u1 : Lies w3 b (WK (mix (stAt s (l0 ++ xs) (l0.length + t)) (rowMore (l0 ++ xs) (l0.length + t) n)) zrow 0 (l0 ++ xs).length) 94) (u2 : w2.grownBy w3 (some b)) :
    AtP w b g off s l0 xs (t + n) w3 := by
  obtain ⟨_, h2, h3, h4⟩ := hm
  obtain ⟨e1, e2, e3, _⟩ := rowMore_full s (l0 ++ xs) (l0.length + t) n hc (by rw [← hh]; exact hl)
  refine ⟨?_, Lies.grown h2 u2 (fun e => hb1 e.symm), grown_trans h3 u2, fun hx => (h4 hx).grown u2 hgb⟩
  rw [← Nat.add_assoc, ← e1, ← e2, e3]; exact u1

def lenOf : Value → Nat | .slice _ n _ => n | _ => 0

set_option maxRecDepth 100000 in
set_option maxHeartbeats 2000000 in
theorem put_any (s : Eight) (l0 xs : List UInt8) (hl : l0.length + xs.length ≤ 1000000) (w : World) (b g off cap : Nat) (a : Option Addr) (hb1 : b ≠ 1) (hgb : g ≠ b)
    (hcap : xs.length ≤ cap) (hcm : cap ≤ maxLen) (ha : 0 < xs.length → a = some ⟨g, off, none⟩ ∧ Src w g off xs)
    (hb : Lies w b (WK (stAt s l0 l0.length) (rowAt l0 l0.length) (l0.length % 64) l0.length) 94) (hg : Cubes w) :
    Calls Tryz.prog 27 #[.pointer (some ⟨b, 0, none⟩), .slice a xs.length cap] w fun e w' => e = .returned (.tuple #[]) ∧
      Lies w' b (WK (stAt s (l0 ++ xs) (l0 ++ xs).length) (rowAt (l0 ++ xs) (l0 ++ xs).length) ((l0 ++ xs).length % 64) (l0 ++ xs).length) 94 ∧ w.grownBy w' (some b) := by
  have hrl := rowAt_length l0 l0.length (Nat.le_refl _)
  have hall := hb.cell 73 (WK_all _ _ _ _ hrl)
  have hf : w.frozen? ⟨b, 73, none⟩ = false := hb.free 73
  have hs := hb.set 73 (.int .u64 (l0.length + xs.length : Nat))
  rw [WK_set_all _ _ _ _ _ hrl, ← (at_start s l0 xs).1, ← (at_start s l0 xs).2, ← List.length_append] at hs
  have hgw : w.grownBy (w.setCell ⟨b, 73, none⟩ (.int .u64 ((l0 ++ xs).length : Nat))) (some b) := grown_set (grown_refl w _) _ _
  have hst : AtP w b g off s l0 xs 0 (w.setCell ⟨b, 73, none⟩ (.int .u64 ((l0 ++ xs).length : Nat))) :=
    ⟨hs, Lies.other hg _ _ (fun e => hb1 e.symm), hgw, fun h => ((ha h).2).grown hgw hgb⟩
  rw [List.length_append] at hst
  have hu := sum_u64 l0.length xs.length hl
  have hu2 := wrap_u64_nat xs.length (by omega)
  have HST := Lib.hid hst
  have HA := Lib.hid (fun h => (ha h).1)
  have HB1 := Lib.hid hb1
  have HGB := Lib.hid hgb
  have HL := Lib.hid hl
  clear hst hs hgw ha hb1 hgb hl
  go_enter Tryz.func27, Tryz.ntmps27
  go_wp2_with fail
  clear hall hf hu hu2 hb hg
  go_loopw [1] (fun v wr => ∃ (t : Nat) (a' : Option Addr) (c' : Nat), t ≤ xs.length ∧ v = .slice a' (xs.length - t) c' ∧ xs.length - t ≤ c' ∧ c' ≤ maxLen ∧ (t < xs.length → a' = some ⟨g, off + t, none⟩) ∧ AtP w b g off s l0 xs t wr) (fun v _ => lenOf v)
  case atStart => exact ⟨0, a, cap, by omega, rfl, hcap, hcm, fun h => HA.out h, HST.out⟩
  case round =>
    obtain ⟨t, a', c', ht, rfl, hc1, hc2, ha', hat⟩ := hrel
    have HAT := Lib.hid hat
    clear hat HST HA hrl
    by_cases hlt : t < xs.length
    · obtain rfl := ha' hlt
      clear ha'
      obtain ⟨m, hm⟩ : ∃ m, m = xs.length - t := ⟨_, rfl⟩
      obtain ⟨h, hh⟩ : ∃ h, h = (l0.length + t) % 64 := ⟨_, rfl⟩
      have hm0 : 0 < m := by omega
      have hh64 : h < 64 := by omega
      have hd : wr.cell? ⟨b, 72, none⟩ = some (.int .i64 h) := by
        rw [hh]
        exact HAT.out.1.cell 72 (WK_held _ _ _ _ (rowAt_length _ _ (by rw [List.length_append]; omega)))
      rw [← hm] at hc1 ⊢
      have HM := Lib.hid hm
      have HH := Lib.hid hh
      clear hm hh
      have m1 : (0 : Int) ≤ (h : Int) := by omega
      have m2 : (h : Int) ≤ 64 := by omega
      have m3 : (h : Int) < 64 := by omega
      have m4 : (0 : Int) < (m : Int) := by omega
      go_upto_region 2 with (fail)
      have m5 : ¬ 64 = h := by omega
      go_still_tail 9, (by kernel_rfl)
      change wpList _ _ _ _ _ wr.drew
      obtain ⟨n, hn⟩ : ∃ n, n = Nat.min m (64 - h) := ⟨_, rfl⟩
      have hn1 : n ≤ m := by rw [hn]; exact Nat.min_le_left _ _
      have hn2 : n ≤ 64 - h := by rw [hn]; exact Nat.min_le_right _ _
      have hn3 : 0 < n := by rw [hn]; show 0 < min m (64 - h); omega
      have HN := Lib.hid hn
      clear hn
      have hll : ((l0 ++ xs).drop (l0.length + t)).take n = (xs.drop t).take n := by rw [List.drop_append, List.drop_of_length_le (by omega), List.nil_append, Nat.add_sub_cancel_left]
      have hylen : (((l0 ++ xs).drop (l0.length + t)).take n).length = n := by rw [hll, List.length_take, List.length_drop]; have := HM.out; omega
      have hrow := rowAt_length (l0 ++ xs) (l0.length + t) (by rw [List.length_append]; omega)
      have hsrc : ∀ j, j < n → wr.drew.cell? ⟨g, off + t + j, none⟩ = some (.int .u8 ((((l0 ++ xs).drop (l0.length + t)).take n).getD j 0).toNat) := by
        intro j hj
        have hm' := HM.out
        have := HAT.out.2.2.2 (by omega) (t + j) (by omega)
        rw [Nat.add_assoc]
        refine Eq.trans this ?_
        rw [hll]
        congr 3
        simp only [List.getD_eq_getElem?_getD]
        rw [List.getElem?_take_of_lt hj, List.getElem?_drop]
      have hL := HAT.out.1
      rw [← HH.out] at hL
      have hrc := row_copied (l0 ++ xs) (l0.length + t) n (by rw [List.length_append]; have := HM.out; omega) (by rw [← HH.out]; omega)
      rw [← HH.out] at hrc
      refine wpList_copy_WK rfl _ _ rfl b g (off + t) h m c' n rfl rfl (stAt s (l0 ++ xs) (l0.length + t)) (rowAt (l0 ++ xs) (l0.length + t)) _ h _ hrow hh64 hylen HN.out hsrc hL ?_
      rw [hrc]
      intro w2 HA HB hd2 hf2
      clear hll hylen hrow hsrc hL hrc hd
      have m6 : (h : Int) + (n : Int) ≤ 64 := by omega
      have m7 : (n : Int) ≤ (m : Int) := by omega
      have m8 : (0 : Int) ≤ (n : Int) := by omega
      have hcl : l0.length + t + n ≤ (l0 ++ xs).length := by rw [List.length_append]; have := HM.out; omega
      have hrm : (rowMore (l0 ++ xs) (l0.length + t) n).length = 64 := by
        unfold rowMore
        rw [List.length_append, List.length_append, heldAt_length _ _ (by omega), List.length_take, List.length_drop, List.length_replicate, ← HH.out]; omega
      have HMID := Lib.hid (AtP.mid (n := n) HAT.out HB1.out HGB.out hrm HA.out HB.out)
      have HCL := Lib.hid hcl
      have HRM := Lib.hid hrm
      have htn : t + n ≤ xs.length := by have := HM.out; omega
      have hmn : xs.length - (t + n) = m - n := by have := HM.out; omega
      have HTN := Lib.hid htn
      have HMN := Lib.hid hmn
      have HLT := Lib.hid hlt
      clear hcl hrm HA HB htn hmn hlt ht m1 m2 m3 m5 hcap hcm
      have fin : ∀ (aa : Addr) (w4 : World), (n < m → aa = ⟨g, off + (t + n), none⟩) → AtP w b g off s l0 xs (t + n) w4 →
          (∃ (t' : Nat) (a' : Option Addr) (c2 : Nat), t' ≤ xs.length ∧ Value.slice (some aa) (m - n) (c' - n) = .slice a' (xs.length - t') c2 ∧ xs.length - t' ≤ c2 ∧ c2 ≤ maxLen ∧ (t' < xs.length → a' = some ⟨g, off + t', none⟩) ∧ AtP w b g off s l0 xs t' w4) ∧ lenOf (Value.slice (some aa) (m - n) (c' - n)) < lenOf (Value.slice (some ⟨g, off + t, none⟩) m c') := by
        intro aa w4 hx hP
        refine ⟨⟨t + n, _, c' - n, HTN.out, by rw [HMN.out], by rw [HMN.out]; omega, by omega, fun h => by rw [hx (by have := HMN.out; omega)], hP⟩, ?_⟩
        show m - n < m
        omega
      have FIN := Lib.hid fin
      clear fin
      by_cases hcn : c' = n
      all_goals
        by_cases hfull : h + n = 64
      · have x6 : ((h : Int) + (n : Int) == 64) = true := by rw [beq_iff_eq]; omega
        have HF := Lib.hid hfull
        have hmn : m = n := by omega
        subst hmn
        subst hcn
        clear hfull
        go_wp2_with fail
        refine (turn_any (stAt s (l0 ++ xs) (l0.length + t)) (rowMore (l0 ++ xs) (l0.length + t) c') (h + c') _ HRM.out _ b HMID.out.1 HMID.out.2.1).mono ?_
        rintro e w3 ⟨rfl, u1, u2⟩
        have hP : AtP w b g off s l0 xs (t + c') w3 := AtP.full HB1.out HGB.out HH.out HCL.out HF.out HMID.out u1 u2
        have HP := Lib.hid hP
        clear u1 u2 hP
        go_wp2_with fail
        have hfin := FIN.out ⟨g, off + t, none⟩ w3 (fun h => absurd h (Nat.lt_irrefl _)) HP.out
        rw [Nat.sub_self] at hfin
        exact hfin
      · have x6 : ((h : Int) + (n : Int) == 64) = false := by rw [beq_eq_false_iff_ne]; omega
        have hlow : h + n < 64 := by omega
        have HF := Lib.hid hlow
        have hmn : m = n := by omega
        subst hmn
        subst hcn
        clear hfull hlow
        go_wp2_with fail
        have hfin := FIN.out ⟨g, off + t, none⟩ _ (fun h => absurd h (Nat.lt_irrefl _)) (AtP.low HH.out HCL.out HF.out HMID.out)
        rw [Nat.sub_self] at hfin
        exact hfin
      · have x6 : ((h : Int) + (n : Int) == 64) = true := by rw [beq_iff_eq]; omega
        have HF := Lib.hid hfull
        clear hfull
        go_wp2_with fail
        refine (turn_any (stAt s (l0 ++ xs) (l0.length + t)) (rowMore (l0 ++ xs) (l0.length + t) n) (h + n) _ HRM.out _ b HMID.out.1 HMID.out.2.1).mono ?_
        rintro e w3 ⟨rfl, u1, u2⟩
        have hP : AtP w b g off s l0 xs (t + n) w3 := AtP.full HB1.out HGB.out HH.out HCL.out HF.out HMID.out u1 u2
        have HP := Lib.hid hP
        clear u1 u2 hP
        go_wp2_with fail
        exact FIN.out _ w3 (fun _ => by rw [Nat.add_assoc]) HP.out
      · have x6 : ((h : Int) + (n : Int) == 64) = false := by rw [beq_eq_false_iff_ne]; omega
        have hlow : h + n < 64 := by omega
        have HF := Lib.hid hlow
        clear hfull hlow
        go_wp2_with fail
        exact FIN.out _ _ (fun _ => by rw [Nat.add_assoc]) (AtP.low HH.out HCL.out HF.out HMID.out)
    · have htx : t = xs.length := by omega
      have hat := HAT.out
      rw [htx] at hat
      unfold AtP at hat
      rw [← List.length_append] at hat
      have HX := Lib.hid hat
      have hz : xs.length - t = 0 := by omega
      rw [hz]
      clear hat HAT hlt htx ha' hc1 ht
      go_wp2_with fail
      go_end0
      exact ⟨rfl, HX.out.1, HX.out.2.2.1⟩
end Go.Proofs.YtgempifedhiknaaGreatDoor
