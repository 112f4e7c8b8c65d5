/-
  What ValueExact's walk rests on: the rows' calls.
-/
import Derived.Test.YtjngghihciimjaaVec
namespace Go.Proofs.Ytjngghihciimjaa
set_option maxRecDepth 100000
open Go.RowKit Go.Sort Go.Maps

theorem len_sub : ∀ (l m : List Nm), l.Pairwise (fun a b => a ≠ b) → (∀ a, a ∈ l → a ∈ m) → l.length ≤ m.length
  | [], _, _, _ => Nat.zero_le _
  | a :: l, m, hp, hs => by
    obtain ⟨h1, h2⟩ := List.pairwise_cons.1 hp
    have ha : a ∈ m := hs a (by simp)
    have ih := len_sub l (m.erase a) h2 fun b hb => (List.mem_erase_of_ne (Ne.symm (h1 b hb))).2 (hs b (by simp [hb]))
    rw [List.length_erase_of_mem ha] at ih
    have : 0 < m.length := List.length_pos_of_mem ha
    rw [List.length_cons]
    omega
/-- Totals are no more than what is summed. -/
theorem tot_len {f : Nm → BitVec 128} {l : List To} {L : List Ct} (h : IsTot f (ctT l)) (e : ∀ n, f n = sumAt L n) : l.length ≤ L.length := by
  have h1 := len_sub ((ctT l).map (·.1)) (L.map (·.1)) (by
    rw [List.pairwise_map]
    exact h.rise.imp fun {p q} hpq e => by rw [e] at hpq; exact cN_irrefl _ hpq) (fun n hn => by
    obtain ⟨p, hp, rfl⟩ := List.mem_map.1 hn
    have h2 := h.says p hp
    obtain ⟨q, hq, e2⟩ := sumAt_mem (by rw [← e, ← h2.1]; exact h2.2)
    exact List.mem_map.2 ⟨q, hq, e2⟩)
  simpa [ctT] using h1
theorem RowRT.below {B : Nat} {w w' : World} {pa : Option Addr} {rs : List Tr} (h : RowRT w pa rs) (hb : Below B w w') (hB : w.heap.size ≤ B) : RowRT w' pa rs :=
  ⟨h.1, fun hl => by
    obtain ⟨g, off, e, hg, hh⟩ := h.2 hl
    exact ⟨g, off, e, Nat.lt_of_lt_of_le hg hb.size, fun i r hi => ⟨(hb.cell (p := ⟨g, off + i, none⟩) (Nat.lt_of_lt_of_le hg hB)).trans (hh i r hi).1, (hh i r hi).2.below hb hB⟩⟩⟩
theorem ctM_cons (x : Tr) (rs : List Tr) : ctM (x :: rs) = ctT x.l ++ ctM rs := rfl
theorem ctM_mem {rs : List Tr} {p : Ct} (h : p ∈ ctM rs) : ∃ x, x ∈ rs ∧ p ∈ ctT x.l := by
  induction rs with
  | nil => exact absurd h (by simp [ctM])
  | cons x rs ih =>
    rw [ctM_cons] at h
    rcases List.mem_append.1 h with h | h
    · exact ⟨x, by simp, h⟩
    · obtain ⟨y, hy, hp⟩ := ih h
      exact ⟨y, by simp [hy], hp⟩
theorem ctM_len : ∀ {rs : List Tr}, (∀ x, x ∈ rs → x.l.length ≤ 200) → (ctM rs).length ≤ rs.length * 200
  | [], _ => Nat.zero_le _
  | x :: rs, h => by
    have h1 := ctM_len (rs := rs) fun y hy => h y (by simp [hy])
    have h2 := h x (by simp)
    have h3 : (ctT x.l).length = x.l.length := by simp [ctT]
    rw [ctM_cons, List.length_append, List.length_cons, Nat.succ_mul]
    omega
theorem Fw_one (v : Va) (n : Nm) : Fw v n = sumAt (ctsL [v]) n := by rw [cts_one]; rfl
theorem Tots.at {rs : List Tr} {bk : List Va} (h : Tots rs bk) {x : Tr} (hx : x ∈ rs) : ∃ v, v ∈ bk ∧ IsTot (Fw v) (ctT x.l) := by
  obtain ⟨i, hi⟩ := List.getElem?_of_mem hx
  have hlt : i < bk.length := by rw [← h.1]; exact (List.getElem?_eq_some_iff.1 hi).1
  exact ⟨bk[i], List.getElem_mem hlt, h.2 i x _ hi (List.getElem?_eq_getElem hlt)⟩
theorem Tots.few {rs : List Tr} {bk : List Va} (h : Tots rs bk) (hf : FewV bk) : (ctM rs).length ≤ 1000000 ∧ ∀ p, p ∈ ctM rs → p.1.1.length = 32 ∧ p.1.2.length ≤ 281474976710656 := by
  refine ⟨?_, fun p hp => ?_⟩
  · have h1 := ctM_len (rs := rs) fun x hx => by
      obtain ⟨v, hv, ht⟩ := h.at hx
      have h2 := tot_len ht (Fw_one v)
      rw [cts_one] at h2
      have h3 : (ctsOf v).length = v.l.length := by simp [ctsOf]
      have h4 := (hf.2 v hv).1
      omega
    have h2 := h.1
    have h3 := hf.1
    omega
  · obtain ⟨x, hx, hp2⟩ := ctM_mem hp
    obtain ⟨v, hv, ht⟩ := h.at hx
    exact tot_names ht (FewV.one (hf.2 v hv)) (Fw_one v) p hp2
/-- The totals of some, whoever sums them. -/
def TotRet (l : List To) (W w' : World) (e : Ending) : Prop := ∃ p c, e = .returned (.slice p l.length c) ∧ RowT w' p l ∧ Below W.heap.size W w'
theorem merge_tots (w : World) (pa : Option Addr) (rs : List Tr) (c : Nat) (bk : List Va) (l : List To) (h : RowRT w pa rs) (ht : Tots rs bk) (hf : FewV bk) (hl : IsTot (sumAt (ctsL bk)) (ctT l)) :
    Calls Try.prog 16 #[.slice pa rs.length c] w fun e w' => TotRet l w w' e :=
  (merge_any w pa rs c h (ht.few hf).1 (ht.few hf).2).mono fun e w' hh => by
    obtain ⟨⟨p, l', c', rfl, hr, htt⟩, hb⟩ := hh
    have e := tot_eq htt hl fun n => rows_sums ht.1 ht.2 n
    subst e
    exact ⟨p, c', rfl, hr, hb⟩
theorem merge_one (w : World) (g : Nat) (pt : Option Addr) (l : List To) (c : Nat) (vs : List Va) (hL : Lies w g #[.slice pt l.length c] 40) (hr : RowT w pt l) (hf : FewV vs) (hl : IsTot (sumAt (ctsL vs)) (ctT l)) :
    Calls Try.prog 16 #[.slice (some ⟨g, 0, none⟩) 1 1] w fun e w' => TotRet l w w' e := by
  have e1 : ctM [(⟨pt, l, c⟩ : Tr)] = ctT l := by simp [ctM]
  have hrow : RowRT w (some ⟨g, 0, none⟩) [⟨pt, l, c⟩] := ⟨show 1 ≤ maxLen by decide, fun _ => ⟨g, 0, rfl, hL.lt, fun i r hi => by
    have h0 : i = 0 := by have := (List.getElem?_eq_some_iff.1 hi).1; simp at this; exact this
    subst h0
    simp at hi
    subst hi
    exact ⟨hL.cell 0 rfl, hr⟩⟩⟩
  have hlen : (ctT l).length = l.length := by simp [ctT]
  have hll := tot_len hl fun _ => rfl
  have hfc := hf.cts
  refine (merge_any w _ [⟨pt, l, c⟩] 1 hrow (by rw [e1]; omega) (by rw [e1]; exact tot_names hl hf fun _ => rfl)).mono fun e w' hh => ?_
  obtain ⟨⟨p, l', c', rfl, hr', htt⟩, hb⟩ := hh
  have e := tot_eq htt hl fun n => one_row hl pt c n
  subst e
  exact ⟨p, c', rfl, hr', hb⟩
theorem same_tots (w : World) (pa pb : Option Addr) (l : List To) (c e : Nat) (hl : RowT w pa l) (hm : RowT w pb l) :
    Calls Try.prog 15 #[.slice pa l.length c, .slice pb l.length e] w fun e w' => e = .returned (.bool true) ∧ Below w.heap.size w w' :=
  (sameT_any w pa pb l l c e hl hm).mono fun _ _ hh => ⟨by rw [hh.1, decide_eq_true rfl], hh.2⟩
/-- The rows that great is asked of. -/
theorem great_row (W : World) {b9 : Nat} {pi pm po : Option Addr} {vs us : List Va} {ml : List As} {m : Va} (h : ExIn W b9 pi vs pm ml po us m) (ci cm co : Nat) :
    RowR ((W.alloc (.cells #[.int .i64 0, .slice pm ml.length cm, .int .i64 m.coin, .slice m.pa m.l.length m.c] 24)).alloc (.cells #[.slice pi vs.length ci, .slice po us.length co, .slice (some ⟨W.heap.size, 0, none⟩) 2 2] 29)) (some ⟨W.heap.size + 1, 0, none⟩) [⟨pi, vs, ci⟩, ⟨po, us, co⟩, ⟨some ⟨W.heap.size, 0, none⟩, [⟨0, pm, ml, cm⟩, m], 2⟩] := by
  have h1 := duo_row W ⟨0, pm, ml, cm⟩ m ⟨show (-9223372036854775808 : Int) ≤ 0 by omega, show (0 : Int) < 9223372036854775808 by omega, h.mint⟩ h.more
  have hb1 : Below W.heap.size W (W.alloc (.cells #[.int .i64 0, .slice pm ml.length cm, .int .i64 m.coin, .slice m.pa m.l.length m.c] 24)) := (Below.refl _ _).alloc (Nat.le_refl _) _
  have hL := Lies.new (W.alloc (.cells #[.int .i64 0, .slice pm ml.length cm, .int .i64 m.coin, .slice m.pa m.l.length m.c] 24)) #[.slice pi vs.length ci, .slice po us.length co, .slice (some ⟨W.heap.size, 0, none⟩) 2 2] 29
  have h1' : RowV (W.alloc (.cells #[.int .i64 0, .slice pm ml.length cm, .int .i64 m.coin, .slice m.pa m.l.length m.c] 24)) (some ⟨W.heap.size, 0, none⟩) [⟨0, pm, ml, cm⟩, m] := h1
  have hs : (W.alloc (.cells #[.int .i64 0, .slice pm ml.length cm, .int .i64 m.coin, .slice m.pa m.l.length m.c] 24)).heap.size = W.heap.size + 1 := by simp
  clear h1
  generalize W.alloc (.cells #[.int .i64 0, .slice pm ml.length cm, .int .i64 m.coin, .slice m.pa m.l.length m.c] 24) = W1 at h1' hb1 hL hs ⊢
  rw [hs] at hL
  have hb2 : Below W1.heap.size W1 (W1.alloc (.cells #[.slice pi vs.length ci, .slice po us.length co, .slice (some ⟨W.heap.size, 0, none⟩) 2 2] 29)) := (Below.refl _ _).alloc (Nat.le_refl _) _
  refine ⟨show 3 ≤ maxLen by decide, fun _ => ⟨W.heap.size + 1, 0, rfl, hL.lt, fun i r hr => ?_⟩⟩
  have hi : i = 0 ∨ i = 1 ∨ i = 2 := by have := (List.getElem?_eq_some_iff.1 hr).1; simp at this; omega
  rcases hi with rfl | rfl | rfl
  · simp at hr; subst hr; exact ⟨hL.cell 0 rfl, (h.vin.below hb1 (Nat.le_refl _)).below hb2 (Nat.le_refl _)⟩
  · simp at hr; subst hr; exact ⟨hL.cell 1 rfl, (h.out.below hb1 (Nat.le_refl _)).below hb2 (Nat.le_refl _)⟩
  · simp at hr; subst hr; exact ⟨hL.cell 2 rfl, h1'.below hb2 (Nat.le_refl _)⟩
/-- What is not too much is few. -/
structure FewX (vs us : List Va) (ml : List As) (m : Va) : Prop where
  vl : vs.length ≤ 200
  v : FewV vs
  ul : us.length ≤ 200
  u : FewV us
  mint : FewA ml
  more : FewA m.l
theorem few_all {W : World} {b9 : Nat} {pi pm po : Option Addr} {vs us : List Va} {ml : List As} {m : Va} (h : ExIn W b9 pi vs pm ml po us m) {ci cm co k : Nat} {p : Option Addr}
    (hs : ([⟨pi, vs, ci⟩, ⟨po, us, co⟩, ⟨p, [⟨0, pm, ml, cm⟩, m], k⟩].map fun r : Vr => cntVs r.vs).sum ≤ 200) : FewX vs us ml m := by
  have e : cntVs [(⟨0, pm, ml, cm⟩ : Va), m] = (1 + cntA ml) + (1 + cntA m.l) := by simp [cntVs, cntV]
  simp only [List.map_cons, List.map_nil, List.sum_cons, List.sum_nil, e] at hs
  have h1 := few_of h.vin (by omega)
  have h2 := few_of h.out (by omega)
  exact ⟨h1.1, h1.2, h2.1, h2.2, few_cnt h.mint.2.1 (by omega), few_cnt h.more.2.2.2.1 (by omega)⟩
theorem loop_start (Wb : World) : ExLoop Wb (Wb.alloc (.cells #[.int .i64 0, .int .u64 0] 39)) 0 (.slice none 0 0) (.slice none 0 0) [] [] :=
  ⟨(Below.refl _ _).alloc (Nat.le_refl _) _, by
    have h := Lies.new Wb #[.int .i64 0, .int .u64 0] 39
    have e : (#[.int .i64 (hiS 0), .int .u64 (loN 0)] : Array Value) = #[.int .i64 0, .int .u64 0] := wC_zero
    rw [e]
    exact h, World.ownsRow_nil _ _ _ _, World.ownsRow_nil _ _ _ _, fun x hx => by simp at hx⟩
/-- The lists of the first loop. -/
structure LoopR (vs : List Va) (n : Nat) (bk : List Va) (rs : List Tr) (S : BitVec 128) : Prop where
  le : n ≤ vs.length
  eqb : bk = (vs.drop n).reverse
  sum : S = coinS (vs.drop n)
  tots : Tots rs bk
theorem LoopR.start (vs : List Va) : LoopR vs vs.length [] [] 0 := ⟨Nat.le_refl _, by simp, by simp [coinS, sumL], rfl, fun i x v h => by simp at h⟩
theorem LoopR.next {vs : List Va} {k : Nat} {bk : List Va} {rs : List Tr} {S : BitVec 128} (h : LoopR vs (k + 1) bk rs S) {v : Va} (hv : vs[k]? = some v) {x : Tr} (hx : IsTot (Fw v) (ctT x.l)) : LoopR vs k (bk ++ [v]) (rs ++ [x]) (coinS [v] + S) := by
  obtain ⟨hk, e⟩ := List.getElem?_eq_some_iff.1 hv
  have hd : vs.drop k = v :: vs.drop (k + 1) := by rw [List.drop_eq_getElem_cons hk, e]
  exact ⟨Nat.le_of_lt hk, by rw [hd, List.reverse_cons, h.eqb], by rw [hd, coin_one, h.sum, coinS_cons], h.tots.snoc hx⟩
theorem LoopR.done {vs : List Va} {bk : List Va} {rs : List Tr} {S : BitVec 128} (h : LoopR vs 0 bk rs S) : vs.Perm bk ∧ S = coinS vs ∧ Tots rs bk := ⟨by rw [h.eqb, List.drop_zero]; exact (List.reverse_perm vs).symm, by rw [h.sum, List.drop_zero], h.tots⟩
theorem pend_new {W U : World} {b : Nat} {s r : Value} {x : Tr} {e e' : TypeId} {B C k k' n n' : Nat} {xs ys : List Value} (hs : W.ownsRow B e k s n xs) (hr : W.ownsRow C e' k' r n' ys) (hb : b < W.heap.size) (hx : RowT U x.pa x.l) (hf : Fresh W.heap.size x.pa) : Pend U b s r x :=
  ⟨hx, fun _ a ha => by
    have h1 := hf a ha
    refine ⟨by omega, fun e => ?_, fun e => ?_⟩
    · have := (hs.lt _ e.symm).2; omega
    · have := (hr.lt _ e.symm).2; omega⟩
theorem one_row_v (w : World) (v : Va) (h : VaOk w v) : RowV (w.alloc (.cells #[.int .i64 v.coin, .slice v.pa v.l.length v.c] 24)) (some ⟨w.heap.size, 0, none⟩) [v] :=
  rowV_of (Lies.new w _ 24) rfl (fun u hu => by
    rw [List.mem_singleton] at hu
    rw [hu]
    exact h.below ((Below.refl w.heap.size w).alloc (Nat.le_refl _) _) (Nat.le_refl _)) (show 1 ≤ maxLen by decide)
end Go.Proofs.Ytjngghihciimjaa
