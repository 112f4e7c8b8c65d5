/-
  LentHashes: a copy of any hashes (at most 40), twelve marks behind them within its room.
-/
import Derived.Test.YtccfdobogbiomaaDoorMarkH
import Derived.Deep.DeepMust
import Derived.Deep.Cut
namespace Go.Proofs.YtccfdobogbiomaaDoor
open Go.RowKit Sha

def marksH (n : Nat) : List UInt8 := (List.range n).flatMap fun i => markH (markB i)
theorem marksH_length (n : Nat) : (marksH n).length = 32 * n := by
  induction n with
  | zero => rfl
  | succ n ih =>
    unfold marksH at ih ⊢
    rw [List.range_succ, List.flatMap_append, List.length_append, ih]
    simp [markH]
    omega
theorem marksH_succ (n : Nat) : marksH (n + 1) = marksH n ++ markH (markB n) := by simp [marksH, List.range_succ]
theorem info27b : (Tryd.prog.info? 27).map (fun i => (i.zero, i.size, i.bytes)) = some (some (.agg z32), 32, 32) := by kernel_rfl
/-- Hashes in a row of the call's own. -/
def AtHs (w0 : World) (k : Nat) (l : List UInt8) (v : Value) (w : World) : Prop := w.ownsRow w0.heap.size 27 32 v k (B8 l).toList ∧ Below w0.heap.size w0 w
theorem AtHs.alloc {w0 : World} {k : Nat} {l : List UInt8} {v : Value} {w : World} (h : AtHs w0 k l v w) (o : Obj) : AtHs w0 k l v (w.alloc o) := ⟨h.1.alloc o, h.2.alloc h.2.size o⟩
theorem AtHs.shape {w0 : World} {k : Nat} {l : List UInt8} {v : Value} {w : World} (h : AtHs w0 k l v w) (hl : 0 < k) : ∃ g c, v = .slice (some ⟨g, 0, none⟩) k c := by
  rcases h.1.2 with ⟨_, h0⟩ | ⟨g, cap, cur, rfl, _⟩
  · omega
  · exact ⟨g, cap, rfl⟩
theorem AtHs.room {w0 : World} {k n : Nat} {l : List UInt8} {g c : Nat} {w : World} (h : AtHs w0 k l (.slice (some ⟨g, 0, none⟩) n c) w) : k ≤ c ∧ c ≤ maxLen ∧ g < w.heap.size ∧ w0.heap.size ≤ g ∧ n = k := by
  rcases h.1.2 with ⟨e, _⟩ | ⟨g', cap, cur, e, hb, hh, h1, h2, _⟩
  · cases e
  · cases e; exact ⟨h1, h2, (Array.getElem?_eq_some_iff.1 hh).1, hb, rfl⟩
theorem wp_moreH {w0 w : World} {o : Oper} {a : Act} {K : Act → World → Prop} {Q : Exit → Act → World → Prop} (sx x : Operand)
    (ho : o.op = .call { callee := .builtin .append, args := #[sx, x], argTypes := #[32, 32] }) (d : Tmp) (hd : o.dst = some d) (k : Nat) (l : List UInt8) (v : Value) (ad : Addr) (m : Nat) (xs : List UInt8) (c : Nat)
    (hs : a.eval sx = v) (hx : a.eval x = .slice (some ad) m c) (hm : xs.length = 32 * m) (hsrc : 0 < m → ∃ g off, ad = ⟨g, off, none⟩ ∧ Src w g off xs) (hl : k + m ≤ 200) (h : AtHs w0 k l v w)
    (kk : ∀ v' w', AtHs w0 (k + m) (l ++ xs) v' w' → w.grownBy w' v.ownBlock → K (a.put (some d) v') w') : o.wp Tryd.prog a w K Q := by
  obtain ⟨i0, hi0, hz0, hz1, hz2⟩ := info_parts info27b
  refine wp_append_own (P := Tryd.prog) w sx x 32 ho w0.heap.size 27 i0 (.agg z32) 32 32 Tryd.underlying32 hi0 hz0 hz1 hz2 rfl (by decide) v k (B8 l).toList hs h.1 ad m c (B8 xs).toList hx (by rw [Array.length_toList, B8_size, hm, Nat.mul_comm]) ?_ (byts_one _) (by unfold maxLen; omega) (by omega) h.2.size ?_
  · by_cases hp : 0 < m
    · obtain ⟨g, off, rfl, hsr⟩ := hsrc hp
      exact src_news hsr
    · obtain rfl : m = 0 := by omega
      have hx0 : xs = [] := List.eq_nil_of_length_eq_zero (by omega)
      subst hx0
      intro j u hu
      simp [B8] at hu
  · intro v' w' hown hgrow _
    rw [hd]
    refine kk v' w' ⟨?_, h.2.grown hgrow h.2.size (fun j e => (h.1.lt j e).1)⟩ hgrow
    have e : (B8 (l ++ xs)).toList = (B8 l).toList ++ (B8 xs).toList := by simp [B8]
    rw [e]; exact hown
theorem wp_moreH_none {w0 w : World} {o : Oper} {a : Act} {K : Act → World → Prop} {Q : Exit → Act → World → Prop} (sx x : Operand)
    (ho : o.op = .call { callee := .builtin .append, args := #[sx, x], argTypes := #[32, 32] }) (d : Tmp) (hd : o.dst = some d) (k : Nat) (l : List UInt8) (v : Value)
    (hs : a.eval sx = v) (hx : a.eval x = .slice none 0 0) (h : AtHs w0 k l v w) (kk : K (a.put (some d) v) w) : o.wp Tryd.prog a w K Q := by
  obtain ⟨i0, hi0, _⟩ := info_parts info27b
  have hrun := run_append_owned_none (P := Tryd.prog) (w := w) w0.heap.size 32 o.type 27 i0 32 Tryd.underlying32 hi0 v k (B8 l).toList h.1
  unfold Oper.wp
  simp [execOp, ho, resolve, invoke, builtin, hs, hx, hrun, Result.andThen]
  rw [Oper.upon_value, hd]
  exact kk

theorem run_slot (b : UInt8) (w : World) : (Instr.buildSlice 32 1 #[(0, .agg (B8 (markH b)))]).run Tryd.prog w = .ok (.slice (some ⟨w.heap.size, 0, none⟩) 1 1) (w.alloc (.cells (B8 (markH b)) 27)) := by kernel_rfl
theorem wpList_slot {w : World} {ops : Array Oper} {rest : List Oper} {o : Oper} {a : Act} {Q : Exit → Act → World → Prop} (hg : o.guard = none) (x : Operand) (ho : o.op = .buildSlice 32 1 #[(0, x)]) (b : UInt8) (hx : a.eval x = .agg (B8 (markH b)))
    (h : wpList Tryd.prog ops Q rest (a.put o.dst (.slice (some ⟨w.heap.size, 0, none⟩) 1 1)) (w.alloc (.cells (B8 (markH b)) 27))) : wpList Tryd.prog ops Q (o :: rest) a w := by
  refine wpList_plain hg fun K hK => ?_
  unfold Oper.wp execOp
  have e : (#[(0, x)].map fun (i, y) => (i, a.eval y)) = #[(0, Value.agg (B8 (markH b)))] := by simp [hx]
  simp only [ho, e, Sem.run_bind, run_slot, Result.andThen_ok]
  exact hK _ _ h

/-- New hashes, k, in block n, with room for c. -/
def OwnH (w : World) (n c k : Nat) (l : List UInt8) : Prop := w.ownsRow 0 27 32 (.slice (some ⟨n, 0, none⟩) k c) k (B8 l).toList
theorem AtHs.ownH {w0 : World} {k : Nat} {l : List UInt8} {g c : Nat} {w : World} (h : AtHs w0 k l (.slice (some ⟨g, 0, none⟩) k c) w) : OwnH w g c k l := by
  refine ⟨h.1.1, ?_⟩
  rcases h.1.2 with ⟨e, _⟩ | ⟨g', cap, cur, e, _, h2⟩
  · cases e
  · exact .inr ⟨g', cap, cur, e, Nat.zero_le _, h2⟩
def LentHs (w : World) (m : Nat) (F : List UInt8) (e : Ending) (w' : World) : Prop :=
  ∃ n c, e = .returned (.slice (some ⟨n, 0, none⟩) m c) ∧ OwnH w' n c (m + 12) (F ++ marksH 12) ∧ w.heap.size ≤ n ∧ Below w.heap.size w w'

set_option maxRecDepth 100000 in
set_option maxHeartbeats 2000000 in
theorem lenth_any (m : Nat) (F : List UInt8) (v : Option Addr) (cap : Nat) (w : World) (hm : m ≤ 40) (hF : F.length = 32 * m) (hneat : v = none → m = 0 ∧ cap = 0)
    (hsrc : 0 < m → ∃ g off, v = some ⟨g, off, none⟩ ∧ g < w.heap.size ∧ Src w g off F) :
    Calls Tryd.prog 13 #[.slice v m cap] w (LentHs w m F) := by
  obtain ⟨i0, hi0, hz0, hz1, hz2⟩ := info_parts info27b
  have HS := Lib.hid hsrc
  have HN := Lib.hid hneat
  have HF := Lib.hid hF
  have hmk : i0.bytes * (m + 12) ≤ 281474976710656 := by rw [hz2]; omega
  have HMK := Lib.hid hmk
  have HI := Lib.hid (And.intro hi0 (And.intro hz0 hz1))
  clear hsrc hneat hmk hi0 hz0 hz1 hz2 hF
  go_enter Tryd.func13, Tryd.ntmps13
  go_upto_region 2 with (at_make; go_must (refine wpList_make_own _ rfl _ _ 32 rfl w.heap.size 27 i0 (.agg z32) 32 Tryd.underlying32 HI.out.1 HI.out.2.1 HI.out.2.2 .i64 .i64 _ (m + 12) rfl rfl rfl HMK.out (by unfold maxLen; omega) (Nat.le_refl _) ?_; intro w2 hown hgrow))
  have hq : AtHs w 0 [] (.slice (some ⟨w.heap.size, 0, none⟩) 0 (m + 12)) w2 := ⟨hown, (Below.refl _ _).grown hgrow (Nat.le_refl _) (fun j e => by cases e)⟩
  have hsr2 : 0 < m → ∃ g off, v = some ⟨g, off, none⟩ ∧ Src w2 g off F := fun hp => by
    obtain ⟨g, off, e, hg, hs⟩ := HS.out hp
    exact ⟨g, off, e, hs.below hq.2 hg⟩
  have HQ := Lib.hid hq
  have HS2 := Lib.hid hsr2
  clear hq hown hgrow HI HMK HS hsr2
  have key : ∀ v3 w3, AtHs w (0 + m) ([] ++ F) v3 w3 → AtHs w m F v3 w3 := fun v3 w3 h => by rwa [Nat.zero_add, List.nil_append] at h
  have KEY := Lib.hid key
  clear key
  go_cut [3] from 5 (fun v' w' => AtHs w m F v' w')
  case first =>
    cases v with
    | none =>
      obtain ⟨rfl, rfl⟩ := HN.out rfl
      obtain rfl : F = [] := List.eq_nil_of_length_eq_zero (by rw [HF.out])
      go_wp2_with (at_builtin; go_must (refine wpList_plain rfl (fun K hK => wp_moreH_none _ _ rfl 11 rfl 0 [] _ rfl rfl HQ.out ?_); refine hK _ _ ?_; clear hK K))
      go_meet
      case rel => exact HQ.out
    | some ad =>
      have hs3 : 0 < m → ∃ g off, ad = ⟨g, off, none⟩ ∧ Src w2 g off F := fun hp => by
        obtain ⟨g, off, e, hs⟩ := HS2.out hp
        exact ⟨g, off, Option.some.inj e, hs⟩
      have HS3 := Lib.hid hs3
      clear hs3
      go_wp2_with (at_builtin; go_must (refine wpList_plain rfl (fun K hK => wp_moreH _ _ rfl 11 rfl 0 [] _ ad m F cap rfl rfl HF.out HS3.out (by omega) HQ.out ?_); intro v3 w3 HQ3 _; refine hK _ _ ?_; clear hK K; replace HQ3 := Lib.hid (KEY.out _ _ HQ3)))
      go_meet
      case rel => exact HQ3.out
  case rest =>
    have HC := Lib.hid hcut
    clear hcut HQ HS2 KEY
    go_wp2_with fail
    go_loopw [3, 4] (fun v i wr => ∃ k : Nat, k ≤ 12 ∧ i = .int .i64 k ∧ AtHs w (m + k) (F ++ marksH k) v wr) (fun _ i _ => 12 - (intOf i).toNat)
    case atStart => exact ⟨0, by omega, rfl, by have := HC.out; simpa [marksH] using this⟩
    case round =>
      obtain ⟨k, hk, rfl, hat⟩ := hrel
      have HA := Lib.hid hat
      clear hat HC
      by_cases hlt : k < 12
      · have m1 : (k : Int) < 12 := by omega
        go_wp2_with fail
        refine (markhash_any k hlt wr).mono ?_
        rintro e w5 ⟨rfl, hb5⟩
        have ha5 : AtHs w (m + k) (F ++ marksH k) u3 w5 := by
          obtain ⟨q1, q2⟩ := HA.out
          refine ⟨⟨q1.1, ?_⟩, q2.trans (hb5.mono q2.size)⟩
          rcases q1.2 with h | ⟨g', cap', cur, e, hbase, hb, h2⟩
          · exact .inl h
          · exact .inr ⟨g', cap', cur, e, hbase, (hb5.block g' (Array.getElem?_eq_some_iff.1 hb).1).trans hb, h2⟩
        have HA5 := Lib.hid (ha5.alloc (.cells (B8 (markH (markB k))) 27))
        have hsn : 0 < 1 → ∃ g off, (⟨w5.heap.size, 0, none⟩ : Addr) = ⟨g, off, none⟩ ∧ Src (w5.alloc (.cells (B8 (markH (markB k))) 27)) g off (markH (markB k)) := fun _ => ⟨_, _, rfl, lies_src (Lies.new w5 _ 27)⟩
        have hsu : F ++ marksH k ++ markH (markB k) = F ++ marksH (k + 1) := by rw [marksH_succ, List.append_assoc]
        have HSN := Lib.hid hsn
        have HSU := Lib.hid hsu
        clear hb5 ha5 HA hsn hsu
        go_wp2_with (first | (refine wpList_slot rfl _ rfl (markB k) rfl ?_) | (at_builtin; go_must (refine wpList_plain rfl (fun K hK => wp_moreH _ _ rfl 20 rfl (m + k) (F ++ marksH k) _ ⟨w5.heap.size, 0, none⟩ 1 (markH (markB k)) 1 rfl rfl rfl HSN.out (by omega) HA5.out ?_); intro v6 w6 HQ6 _; refine hK _ _ ?_; clear hK K; rw [HSU.out] at HQ6; replace HQ6 := Lib.hid HQ6)))
        refine ⟨⟨k + 1, by omega, by go_num, HQ6.out⟩, ?_⟩
        simp [intOf]; omega
      · have hk12 : k = 12 := by omega
        subst hk12
        obtain ⟨g, c, hv⟩ := HA.out.shape (by omega)
        have hat := HA.out
        rw [hv] at hat ⊢
        obtain ⟨r1, r2, r3, r4, _⟩ := hat.room
        have HOB := Lib.hid hat.ownH
        have HB := Lib.hid hat.2
        have s1 : (m : Int) ≤ (c : Int) := by omega
        have s2 : ¬ c = 0 := by omega
        clear hat hv HA hlt hk
        go_wp2_with fail
        go_ret
        exact ⟨g, c, rfl, HOB.out, r4, HB.out⟩
end Go.Proofs.YtccfdobogbiomaaDoor
