/-
  WireWrites: its walk, for any row of Puts.
-/
import Derived.Test.YtjbjagdpemnhiaaGreatTwo
import Derived.Laws.AppendOwnNone
import Derived.Deep.CutRange
import Derived.Deep.MidRow
namespace Go.Proofs.YtjbjagdpemnhiaaGreat
open Go.RowKit

/-- append of bytes that came in, or of nothing. -/
theorem wpList_append_in {ops : Array Oper} {rest : List Oper} {o : Oper} {a : Act} {w : World} {Q : Exit → Act → World → Prop} (hgd : o.guard = none) (s x : Operand)
    (ho : o.op = .call { callee := .builtin .append, args := #[s, x], argTypes := #[26, 26] }) (B : Nat) (v bv : Value) (l xs : List UInt8) (hs : a.eval s = v) (hown : w.ownsRow B 5 1 v l.length (B8 l).toList) (hx : a.eval x = bv) (hraw : RawIn w bv xs) (hlen : l.length + xs.length ≤ 2000000) (hB : B ≤ w.heap.size)
    (h : ∀ v' w', w'.ownsRow B 5 1 v' (l ++ xs).length (B8 (l ++ xs)).toList → w.grownBy w' v.ownBlock → (v'.ownBlock = v.ownBlock ∨ v'.ownBlock = some w.heap.size) → wpList Tryz.prog ops Q rest (a.put o.dst v') w') : wpList Tryz.prog ops Q (o :: rest) a w := by
  obtain ⟨i0, hi0, hz0, hz1, hz2⟩ := info_parts info5
  rcases hraw with ⟨rfl, rfl⟩ | ⟨ad, c, rfl, hsrc⟩
  · refine wpList_append_own_none hgd s x 26 ho B 5 i0 1 Tryz.underlying26 hi0 v l.length _ hs hown hx ?_
    exact h v w (by simpa using hown) (grown_refl w _) (.inl rfl)
  · refine wpList_append_own_at _ hgd s x 26 ho B 5 i0 (.int .u8 0) 1 1 Tryz.underlying26 hi0 hz0 hz1 hz2 rfl (by decide) v l.length _ hs hown ad xs.length c (B8 xs).toList hx (by rw [Array.length_toList, B8_size, Nat.mul_one]) hsrc (byts_one _) (by unfold maxLen; omega) (by omega) hB ?_
    intro v' w' h1 h2 _ h3
    refine h v' w' ?_ h2 h3
    have e : (B8 (l ++ xs)).toList = (B8 l).toList ++ (B8 xs).toList := by simp [B8]
    rw [e, List.length_append]
    exact h1
theorem info35of {p : PutD} {W : World} (h : p.Ok W) : (Tryz.prog.info? 28).map (·.size) = some p.cells.size := info35 (PutD.size h)
theorem PutD.one {p : PutD} {W : World} (h : p.Ok W) : p.cells.all (·.oneCell') = true := by
  obtain ⟨A, c, hb⟩ := PutD.rawv h
  rw [Array.all_eq_true_iff_forall_mem]
  intro v hv
  simp only [PutD.cells, Array.mem_append] at hv
  rcases hv with (hv | hv) | hv
  · simp at hv; rcases hv with rfl | rfl | rfl <;> rfl
  · exact (Array.all_eq_true_iff_forall_mem.1 (B8_one p.hs)) v hv
  · simp at hv; rcases hv with rfl | rfl
    · rw [hb]; rfl
    · rfl
/-- A whole Put loaded out of the row. -/
theorem wpList_load_put {ops : Array Oper} {rest : List Oper} {o : Oper} {a : Act} {w : World} {Q : Exit → Act → World → Prop} (hgd : o.guard = none) (x : Operand) (ho : o.op = .load 28 x)
    (g off k : Nat) (ps : List PutD) (p : PutD) (hrow : PRow w g off ps) (hp : ps[k]? = some p) (hx : a.eval x = .pointer (some ⟨g, off + k * 37, none⟩))
    (h : wpList Tryz.prog ops Q rest (a.put o.dst (.agg p.cells)) w) : wpList Tryz.prog ops Q (o :: rest) a w := by
  refine wpList_load_mid hgd 28 x ho g (off + k * 37) hx p.cells.toList _ (fun j v hj => ?_) Tryz.underlying28 rfl (by rw [Array.length_toList]; exact info35of (hrow k p hp).1) (by simpa using h)
  rw [Array.getElem?_toList] at hj
  exact hrow.cell hp hj
/-- The Put with another row of the same bytes. -/
def PutD.with (p : PutD) (u : Value) : PutD := ⟨p.n0, p.n1, p.n2, p.hs, u, p.xs, p.s⟩
theorem PutD.with_cells {p : PutD} {W : World} (h : p.Ok W) (u : Value) : p.cells.setIfInBounds 35 u = (p.with u).cells := by
  have h35 : (#[.int .i64 p.n0, .int .i64 p.n1, .int .u64 p.n2] ++ B8 p.hs : Array Value).size = 35 := by simp [B8_size, h.hlen]
  show (#[.int .i64 p.n0, .int .i64 p.n1, .int .u64 p.n2] ++ B8 p.hs ++ #[p.bv, .string p.s] : Array Value).setIfInBounds 35 u = #[.int .i64 p.n0, .int .i64 p.n1, .int .u64 p.n2] ++ B8 p.hs ++ #[u, .string p.s]
  generalize (#[.int .i64 p.n0, .int .i64 p.n1, .int .u64 p.n2] ++ B8 p.hs : Array Value) = A at h35
  rw [Array.setIfInBounds_append_right (by omega), h35]
  rfl
theorem raw_of_own {w : World} {B : Nat} {u : Value} {xs : List UInt8} (h : w.ownsRow B 5 1 u xs.length (B8 xs).toList) : RawIn w u xs := by
  rcases h.2 with ⟨rfl, hn⟩ | ⟨k, cap, cur, rfl, _⟩
  · exact .inl ⟨rfl, List.eq_nil_of_length_eq_zero hn⟩
  · exact .inr ⟨_, cap, rfl, src_news (own_src h)⟩
theorem PutD.with_ok {p : PutD} {W W' : World} {B : Nat} {u : Value} (h : p.Ok W) (hown : W'.ownsRow B 5 1 u p.xs.length (B8 p.xs).toList) : (p.with u).Ok W' :=
  ⟨h.hlen, h.wlt, h.lo, h.hi, h.slen, raw_of_own hown, h.xlen⟩
theorem sumB_le (ps : List PutD) (k : Nat) : sumB ps k ≤ sumB ps (k + 1) := Nat.le_add_right _ _
theorem sumB_mono (ps : List PutD) {a b : Nat} (h : a ≤ b) : sumB ps a ≤ sumB ps b := by
  induction b with
  | zero => obtain rfl : a = 0 := by omega
            exact Nat.le_refl _
  | succ b ih =>
    by_cases hb : a = b + 1
    · subst hb; exact Nat.le_refl _
    · exact Nat.le_trans (ih (by omega)) (sumB_le ps b)
/-- The world within the inner loop: just the copy's own row turns. -/
structure Inner (w6 : World) (u : Value) (xs : List UInt8) (m : Nat) (W : World) : Prop where
  grown : w6.grownBy W u.ownBlock
  row : ∀ g c, u = .slice (some ⟨g, 0, none⟩) xs.length c → ∃ cur, Lies W g cur 5 ∧ ∀ j, m ≤ j → j < xs.length → cur[j]? = some (.int .u8 (xs.getD j 0).toNat)
theorem Inner.start {w6 : World} {B : Nat} {u : Value} {xs : List UInt8} (h : w6.ownsRow B 5 1 u xs.length (B8 xs).toList) : Inner w6 u xs 0 w6 := by
  refine ⟨grown_refl _ _, fun g c e => ?_⟩
  rcases h.2 with ⟨h1, _⟩ | ⟨k, cap, cur, h1, _, h3, h4, _, h5, h6⟩
  · rw [e] at h1; cases h1
  · rw [e] at h1
    cases h1
    refine ⟨cur, h3, fun j _ hj => ?_⟩
    have : cur.toList[j]? = (B8 xs).toList[j]? := by
      rw [← h6, List.getElem?_take]
      rw [if_pos (by omega)]
    rw [Array.getElem?_toList, Array.getElem?_toList, B8_get xs j hj] at this
    exact this
theorem Inner.next {w6 W : World} {g c : Nat} {xs : List UInt8} {m : Nat} (h : Inner w6 (.slice (some ⟨g, 0, none⟩) xs.length c) xs m W) (q : Nat) (v : Value) : Inner w6 (.slice (some ⟨g, 0, none⟩) xs.length c) xs (m + 1) ((W.drewN q).setCell ⟨g, m, none⟩ v) := by
  refine ⟨grown_set (grown_drewN h.grown q) m v, fun g' c' e => ?_⟩
  cases e
  obtain ⟨cur, hl, hc⟩ := h.row g c rfl
  refine ⟨_, (show Lies (W.drewN q) g cur 5 from hl).set m v, fun j hj hx => ?_⟩
  rw [Array.getElem?_setIfInBounds_ne (by omega)]
  exact hc j (by omega) hx
end Go.Proofs.YtjbjagdpemnhiaaGreat
