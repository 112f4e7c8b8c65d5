/-
  TermOf (7), TermsOf (12): how great terms are; SameNodes (39), SameTerm (15).
  TermsOf (12): how great terms are together; SameNodes (39), SameTerm (15).
-/
import Derived.Test.YtieoiklgoeclaaaTom
namespace Go.Proofs.Ytieoiklgoeclaaa
open Go.RowKit

def cost : List Nd → Nat
  | [] => 0
  | x :: xs => 1 + x.txt.size / 16 + cost xs
theorem cost_app : ∀ xs ys : List Nd, cost (xs ++ ys) = cost xs + cost ys
  | [], ys => by simp [cost]
  | x :: xs, ys => by simp only [List.cons_append, cost, cost_app xs ys]; omega
theorem cost_take {xs : List Nd} {k : Nat} (h : k < xs.length) : cost (xs.take (k + 1)) = cost (xs.take k) + 1 + xs[k].txt.size / 16 := by
  rw [List.take_succ_eq_append_getElem h, cost_app]
  simp only [cost]
  omega
theorem cost_len : ∀ xs : List Nd, xs.length ≤ cost xs
  | [] => Nat.zero_le _
  | x :: xs => by have := cost_len xs; simp only [List.length_cons, cost]; omega
theorem cost_txt : ∀ (xs : List Nd) (x : Nd), x ∈ xs → x.txt.size / 16 ≤ cost xs
  | [], _, h => by cases h
  | y :: ys, x, h => by
    simp only [cost]
    rcases List.mem_cons.1 h with rfl | h
    · omega
    · have := cost_txt ys x h; omega
/-- Nodes by a slice, however many. -/
def TRaw (w : World) (a : Option Addr) (xs : List Nd) : Prop := 0 < xs.length → ∃ g off, a = some ⟨g, off, none⟩ ∧ NAt w g off xs
theorem TRaw.below {B : Nat} {w w' : World} {a : Option Addr} {xs : List Nd} (h : TRaw w a xs) (hb : Below B w w') (hB : w.heap.size ≤ B) : TRaw w' a xs := fun h0 => by
  obtain ⟨g, off, h1, h2⟩ := h h0
  exact ⟨g, off, h1, h2.below hb (Nat.lt_of_lt_of_le h2.1 hB)⟩
def TxtRaw (xs : List Nd) : Prop := ∀ x ∈ xs, x.txt.size ≤ 140737488355328
set_option maxRecDepth 1000000 in
set_option maxHeartbeats 1000000 in
theorem termOf_any (w : World) (a : Option Addr) (c : Nat) (xs : List Nd) (hr : TRaw w a xs) (ht : TxtRaw xs) (hl : xs.length ≤ 140737488355328) :
    Calls Try.prog 7 #[.agg #[.slice a xs.length c], .int .i64 300] w fun e w' => ∃ r : Nat, e = .returned (.int .i64 r) ∧ (r ≤ 300 → r = cost xs) ∧ r ≤ 1000000000000000 ∧ Below w.heap.size w w' := by
  have hA : Lies (w.alloc (.cells #[.slice a xs.length c] 24)) w.heap.size #[.slice a xs.length c] 24 := Lies.new _ _ _
  have hb0 : Below w.heap.size w (w.alloc (.cells #[.slice a xs.length c] 24)) := (Below.refl _ _).alloc (Nat.le_refl _) _
  obtain ⟨n, hn⟩ : ∃ n, n = xs.length := ⟨_, rfl⟩
  rw [← hn] at hA hb0 hl ⊢
  have H := Lib.hid (And.intro hr (And.intro ht (And.intro hl hn)))
  clear hr ht hl hn
  go_enter Try.func7, Try.ntmps7
  go_upto_region 1 with fail
  generalize w.alloc (.cells #[.slice a n c] 24) = W0 at hA hb0 ⊢
  have c0 := hA.cell 0 (v := .slice a n c) rfl
  have HB := Lib.hid hb0
  clear hA hb0
  go_wp2_with fail
  go_loop [5, 6] (fun s i => ∃ k t : Nat, k ≤ n ∧ i = .int .i64 k ∧ s = .int .i64 t ∧ t = cost (xs.take k) ∧ t ≤ 1000000000000000) (fun _ i => (n - intOf i).toNat)
  case atStart => exact ⟨0, 0, by omega, by go_num, by go_num, rfl, by omega⟩
  case round =>
    obtain ⟨k, t, hk, rfl, rfl, hs, hts⟩ := hrel
    by_cases hlt : k < n
    · have q1 : (k : Int) < (n : Int) := by omega
      by_cases h3 : t ≤ 300
      · have q2 : (t : Int) ≤ 300 := by omega
        have hxl : k < xs.length := by rw [← H.out.2.2.2]; exact hlt
        obtain ⟨g, off, rfl, hN⟩ := H.out.1 (by omega)
        have hNW := hN.below HB.out hN.1
        obtain ⟨tx, htx⟩ : ∃ z, z = xs[k].txt := ⟨_, rfl⟩
        have c3 : W0.cell? ⟨g, off + k * 5 + 3, none⟩ = some (.string tx) := by rw [htx]; exact hNW.2 k hxl 3 _ rfl
        have hz : tx.size ≤ 140737488355328 := by rw [htx]; exact H.out.2.1 _ (List.getElem_mem hxl)
        have hct := cost_take hxl
        rw [← htx, ← hs] at hct
        have q0 : (0 : Int) ≤ (k : Int) := by omega
        have q3 : (k : Int) ≤ 140737488355328 := by have := H.out.2.2.1; omega
        have HC := Lib.hid (And.intro hct (And.intro hz hs))
        have q4 : (tx.size : Int) ≤ 140737488355328 := by omega
        have q5 : (0 : Int) ≤ (tx.size : Int) := by omega
        clear hN hNW htx hct hs hxl hz
        go_wp2_with fail
        have hz := HC.out.2.1
        refine ⟨⟨k + 1, t + 1 + tx.size / 16, by omega, by go_num, congrArg (Value.int .i64) (by omega), HC.out.1.symm, by omega⟩, by simp [intOf]; omega⟩
      · have q2 : ¬ (t : Int) ≤ 300 := by omega
        have HT := Lib.hid hs
        clear hs
        go_wp2_with fail
        go_ret
        exact ⟨t, rfl, fun h => by omega, hts, HB.out⟩
    · have q1 : ¬ (k : Int) < (n : Int) := by omega
      have hke : k = n := by omega
      have hz : t = cost xs := by rw [hs, hke, H.out.2.2.2, List.take_length]
      have HT := Lib.hid hz
      clear hs hz hke
      go_wp2_with fail
      go_ret
      exact ⟨t, rfl, fun _ => HT.out, hts, HB.out⟩
end Go.Proofs.Ytieoiklgoeclaaa
namespace Go.Proofs.Ytieoiklgoeclaaa
open Go.RowKit

/-- Terms in a row, however great. -/
def RsAt (w : World) (ad : Option Addr) (l : List TK) : Prop := (0 < l.length → ∃ g off, ad = some ⟨g, off, none⟩ ∧ g < w.heap.size ∧ ∀ j (h : j < l.length), w.cell? ⟨g, off + j, none⟩ = some l[j].v) ∧ ∀ t ∈ l, TRaw w t.a t.xs ∧ TxtRaw t.xs ∧ t.xs.length ≤ 140737488355328
theorem RsAt.below {B : Nat} {w w' : World} {ad : Option Addr} {l : List TK} (h : RsAt w ad l) (hb : Below B w w') (hB : w.heap.size ≤ B) : RsAt w' ad l :=
  ⟨fun h0 => by
    obtain ⟨g, off, h1, h2, h3⟩ := h.1 h0
    exact ⟨g, off, h1, Nat.lt_of_lt_of_le h2 hb.size, fun j hj => (hb.cell (p := ⟨g, off + j, none⟩) (Nat.lt_of_lt_of_le h2 hB)).trans (h3 j hj)⟩, fun t ht => ⟨(h.2 t ht).1.below hb hB, (h.2 t ht).2⟩⟩
set_option maxRecDepth 1000000 in
set_option maxHeartbeats 1000000 in
theorem termsOf_any (w : World) (ad : Option Addr) (c : Nat) (l : List TK) (hT : RsAt w ad l) (hm : l.length ≤ 1000000) :
    Calls Try.prog 12 #[.slice ad l.length c, .int .i64 300] w fun e w' => ∃ r : Nat, e = .returned (.int .i64 r) ∧ (r ≤ 300 → ∀ t ∈ l, cost t.xs ≤ 300) ∧ r ≤ 2000000000000000 ∧ Below w.heap.size w w' := by
  obtain ⟨m, hml⟩ : ∃ m, m = l.length := ⟨_, rfl⟩
  rw [← hml] at hm ⊢
  have H := Lib.hid (And.intro hT hml)
  have q3 : (m : Int) ≤ 1000000 := by omega
  clear hT hml hm
  go_enter Try.func12, Try.ntmps12
  go_wp2_with fail
  go_loopw [5, 6] (fun s i W => ∃ k t : Nat, k ≤ m ∧ i = .int .i64 k ∧ s = .int .i64 t ∧ (t ≤ 300 → ∀ j (h : j < l.length), j < k → cost l[j].xs ≤ 300) ∧ t ≤ 2000000000000000 ∧ Below w.heap.size w W) (fun _ i _ => (m - intOf i).toNat)
  case atStart => exact ⟨0, 0, by omega, by go_num, by go_num, fun _ j _ h => by omega, by omega, Below.refl _ _⟩
  case round =>
    obtain ⟨k, t, hk, rfl, rfl, hs, hts, hbr⟩ := hrel
    by_cases hlt : k < m
    · have q1 : (k : Int) < (m : Int) := by omega
      by_cases h3 : t ≤ 300
      · have q2 : (t : Int) ≤ 300 := by omega
        have hkl : k < l.length := by rw [← H.out.2]; exact hlt
        have hT := H.out.1.below hbr (Nat.le_refl _)
        obtain ⟨g, off, rfl, hg, hcs⟩ := hT.1 (by omega)
        have hck := hcs k hkl
        have htk := hT.2 l[k] (List.getElem_mem hkl)
        have hall := hs h3
        obtain ⟨tk, et⟩ : ∃ t, t = l[k] := ⟨_, rfl⟩
        rw [← et] at hck htk
        have hof := termOf_any wr tk.a tk.c tk.xs htk.1 htk.2.1 htk.2.2
        have hnext : cost tk.xs ≤ 300 → ∀ j (h : j < l.length), j < k + 1 → cost l[j].xs ≤ 300 := fun e j hj h => by
          by_cases e2 : j = k
          · subst e2; rw [← et]; exact e
          · exact hall j hj (by omega)
        obtain ⟨ta, tc, txs⟩ := tk
        unfold TK.v at hck
        simp only at hck hof hnext
        obtain ⟨nx, hnx⟩ : ∃ nx, nx = txs.length := ⟨_, rfl⟩
        rw [← hnx] at hck hof
        have q0 : (0 : Int) ≤ (k : Int) := by omega
        have q4 : (0 : Int) ≤ (t : Int) := by omega
        have HR := Lib.hid (And.intro hbr (And.intro hnext hof))
        clear hbr hnext hof hall hs hT hg hcs htk et hnx hkl
        go_wp2_with fail
        refine HR.out.2.2.mono ?_
        rintro e w2 ⟨r, rfl, hr1, hr2, hb2⟩
        have hn := HR.out.2.1
        have HX := Lib.hid (And.intro (HR.out.1.trans (hb2.mono HR.out.1.size)) (And.intro hr1 hn))
        have q5 : (r : Int) ≤ 1000000000000000 := by omega
        have q6 : (0 : Int) ≤ (r : Int) := by omega
        clear hb2 hr1 hn hck
        go_wp2_with fail
        refine ⟨⟨k + 1, t + 1 + r, by omega, by go_num, congrArg (Value.int .i64) (by omega), fun h => HX.out.2.2 (by have := HX.out.2.1 (by omega); omega), by omega, HX.out.1⟩, by simp [intOf]; omega⟩
      · have q2 : ¬ (t : Int) ≤ 300 := by omega
        have HT := Lib.hid hbr
        clear hs hbr
        go_wp2_with fail
        go_ret
        exact ⟨t, rfl, fun h => by omega, hts, HT.out⟩
    · have q1 : ¬ (k : Int) < (m : Int) := by omega
      have hke : k = m := by omega
      have HT := Lib.hid (And.intro hs (And.intro hbr hke))
      clear hs hbr hke
      go_wp2_with fail
      go_ret
      refine ⟨t, rfl, fun h x hx => ?_, hts, HT.out.2.1⟩
      obtain ⟨j, hj, rfl⟩ := List.getElem_of_mem hx
      exact HT.out.1 h j hj (by rw [HT.out.2.2, H.out.2]; exact hj)
theorem run_neq_struct (W : World) (t : TypeId) (xs ys : Array Value) : (binOp .neq t (.agg xs) (.agg ys)).run Try.prog W = ((Op.equalIn 10000 t (.agg xs) (.agg ys)).run Try.prog W).andThen fun b w' => .ok (.bool (!b)) w' := by
  simp only [binOp]
  simp [Op.equal, Op.maxDepth]
set_option maxRecDepth 100000 in
theorem neq_nodes (W : World) (k1 k2 n1 n2 : Int) (b1 b2 : Nat) (t1 t2 : ByteArray) (d1 d2 : Int) :
    (binOp .neq 32 (.agg #[.int .i64 k1, .int .i64 n1, .int .u64 b1, .string t1, .int .i64 d1]) (.agg #[.int .i64 k2, .int .i64 n2, .int .u64 b2, .string t2, .int .i64 d2])).run Try.prog W = .ok (.bool (!eqN ⟨k1, n1, b1, t1, d1⟩ ⟨k2, n2, b2, t2, d2⟩)) W := by
  have h2 := stood32
  rw [run_neq_struct, run_equalIn_agg W 9999 32 _ _ (by kernel_rfl) h2]
  unfold eqN
  simp only
  by_cases e0 : k1 = k2
  · by_cases e1 : n1 = n2
    · by_cases e2 : b1 = b2
      · by_cases e3 : t1.toList = t2.toList
        · by_cases e4 : d1 = d2 <;> simp [go_sem, e0, e1, e2, e3, e4]
        · simp [go_sem, e0, e1, e2, e3]
      · have e2' : ¬ (b1 : Int) = (b2 : Int) := by omega
        simp [go_sem, e0, e1, e2, e2']
    · simp [go_sem, e0, e1]
  · simp [go_sem, e0]
theorem sameN_false : ∀ {xs ys : List Nd} (j : Nat) (h1 : j < xs.length) (h2 : j < ys.length), eqN xs[j] ys[j] = false → sameN xs ys = false
  | x :: xs, y :: ys, 0, _, _, h => by
    have : eqN x y = false := h
    simp [sameN, this]
  | x :: xs, y :: ys, j + 1, h1, h2, h => by
    have := sameN_false (xs := xs) (ys := ys) j (by simpa using h1) (by simpa using h2) h
    simp [sameN, this]
theorem sameN_true : ∀ {xs ys : List Nd}, xs.length = ys.length → (∀ j (h1 : j < xs.length) (h2 : j < ys.length), eqN xs[j] ys[j] = true) → sameN xs ys = true
  | [], [], _, _ => rfl
  | [], _ :: _, h, _ => by simp at h
  | _ :: _, [], h, _ => by simp at h
  | x :: xs, y :: ys, hl, h => by
    have h0 : eqN x y = true := h 0 (by simp) (by simp)
    have := sameN_true (xs := xs) (ys := ys) (by simpa using hl) (fun j h1 h2 => h (j + 1) (by simpa using h1) (by simpa using h2))
    simp [sameN, h0, this]
set_option maxRecDepth 100000 in
set_option maxHeartbeats 1000000 in
theorem sameNodes_any (w : World) (a b : Option Addr) (c1 c2 : Nat) (xs ys : List Nd) (hx : TAt w a xs) (hy : TAt w b ys) :
    Calls Try.prog 39 #[.slice a xs.length c1, .slice b ys.length c2] w fun e w' => e = .returned (.bool (sameN xs ys)) ∧ Below w.heap.size w w' := by
  obtain ⟨res, hres⟩ : ∃ r, r = sameN xs ys := ⟨_, rfl⟩
  rw [← hres]
  obtain ⟨n, hn⟩ : ∃ n, n = xs.length := ⟨_, rfl⟩
  obtain ⟨m, hm⟩ : ∃ m, m = ys.length := ⟨_, rfl⟩
  have hle : n ≤ 1000000 := by rw [hn]; exact hx.2.1
  have hle2 : m ≤ 1000000 := by rw [hm]; exact hy.2.1
  rw [← hn, ← hm]
  have H := Lib.hid (And.intro hx (And.intro hy (And.intro hn (And.intro hm hres))))
  clear hx hy hn hm hres
  have q9 : (n : Int) ≤ 1000000 := by omega
  by_cases hnm : n = m
  · have HN := Lib.hid hnm
    have e1 : ((n : Int) != (m : Int)) = false := by rw [bne_eq_false_iff_eq]; omega
    clear hnm
    go_enter Try.func39, Try.ntmps39
    go_wp2_with fail
    clear e1
    go_loopw [5] (fun i W => ∃ k : Nat, k ≤ n ∧ i = .int .i64 k ∧ (∀ j (h1 : j < xs.length) (h2 : j < ys.length), j < k → eqN xs[j] ys[j] = true) ∧ Below w.heap.size w W) (fun i _ => (n - intOf i).toNat)
    case atStart => exact ⟨0, by omega, by go_num, fun j _ _ h => by omega, Below.refl _ _⟩
    case round =>
      obtain ⟨k, hk, rfl, hall, hbr⟩ := hrel
      by_cases hlt : k < n
      · have hx1 : k < xs.length := by rw [← H.out.2.2.1]; exact hlt
        have hy1 : k < ys.length := by rw [← H.out.2.2.2.1, ← HN.out]; exact hlt
        obtain ⟨g1, o1, ea, hN1⟩ := (H.out.1.below hbr (Nat.le_refl _)).1 (by omega)
        obtain ⟨g2, o2, eb, hN2⟩ := (H.out.2.1.below hbr (Nat.le_refl _)).1 (by omega)
        subst ea eb
        have hc1 := hN1.2 k hx1
        have hc2 := hN2.2 k hy1
        have hnext : eqN xs[k] ys[k] = true → ∀ j (h1 : j < xs.length) (h2 : j < ys.length), j < k + 1 → eqN xs[j] ys[j] = true := fun e j h1 h2 h => by
          by_cases e2 : j = k
          · subst e2; exact e
          · exact hall j h1 h2 (by omega)
        have hbad : eqN xs[k] ys[k] = false → res = false := fun e => by rw [H.out.2.2.2.2]; exact sameN_false k hx1 hy1 e
        obtain ⟨x, ex⟩ : ∃ x, x = xs[k] := ⟨_, rfl⟩
        obtain ⟨y, ey⟩ : ∃ y, y = ys[k] := ⟨_, rfl⟩
        rw [← ex] at hc1 hnext hbad
        rw [← ey] at hc2 hnext hbad
        obtain ⟨k1, n1, b1, t1, d1⟩ := x
        obtain ⟨k2, n2, b2, t2, d2⟩ := y
        have x0 : wr.cell? ⟨g1, o1 + k * 5, none⟩ = some (.int .i64 k1) := hc1 0 _ rfl
        have x1 : wr.cell? ⟨g1, o1 + k * 5 + 1, none⟩ = some (.int .i64 n1) := hc1 1 _ rfl
        have x2 : wr.cell? ⟨g1, o1 + k * 5 + 2, none⟩ = some (.int .u64 b1) := hc1 2 _ rfl
        have x3 : wr.cell? ⟨g1, o1 + k * 5 + 3, none⟩ = some (.string t1) := hc1 3 _ rfl
        have x4 : wr.cell? ⟨g1, o1 + k * 5 + 4, none⟩ = some (.int .i64 d1) := hc1 4 _ rfl
        have y0 : wr.cell? ⟨g2, o2 + k * 5, none⟩ = some (.int .i64 k2) := hc2 0 _ rfl
        have y1 : wr.cell? ⟨g2, o2 + k * 5 + 1, none⟩ = some (.int .i64 n2) := hc2 1 _ rfl
        have y2 : wr.cell? ⟨g2, o2 + k * 5 + 2, none⟩ = some (.int .u64 b2) := hc2 2 _ rfl
        have y3 : wr.cell? ⟨g2, o2 + k * 5 + 3, none⟩ = some (.string t2) := hc2 3 _ rfl
        have y4 : wr.cell? ⟨g2, o2 + k * 5 + 4, none⟩ = some (.int .i64 d2) := hc2 4 _ rfl
        have hqq := fun W => neq_nodes W k1 k2 n1 n2 b1 b2 t1 t2 d1 d2
        have hg := guard32
        obtain ⟨r, hr⟩ : ∃ r, r = eqN ⟨k1, n1, b1, t1, d1⟩ ⟨k2, n2, b2, t2, d2⟩ := ⟨_, rfl⟩
        rw [← hr] at hnext hbad
        simp only [← hr] at hqq
        have q0 : (0 : Int) ≤ (k : Int) := by omega
        have q1 : (k : Int) < (n : Int) := by omega
        have q2 : (k : Int) < (m : Int) := by have := HN.out; omega
        have HR := Lib.hid (And.intro hbr (And.intro hnext hbad))
        clear hbr hnext hbad hall hN1 hN2 hc1 hc2 ex ey hr hx1 hy1
        go_upto_region 6 with fail
        go_quiet (fail)
        have HW := Lib.hid (below_drewN HR.out.1 1)
        cases r with
        | true =>
          have HN2 := Lib.hid (HR.out.2.1 rfl)
          go_wp2_with fail
          refine ⟨⟨k + 1, by omega, by go_num, HN2.out, below_drewN HR.out.1 _⟩, by simp [intOf]; omega⟩
        | false =>
          have HB2 := Lib.hid (HR.out.2.2 rfl)
          go_wp2_with fail
          go_ret
          exact ⟨by rw [HB2.out]; rfl, below_drewN HR.out.1 _⟩
      · have hke : k = n := by omega
        have hz : res = true := by
          rw [H.out.2.2.2.2]
          exact sameN_true (by rw [← H.out.2.2.1, ← H.out.2.2.2.1]; exact HN.out) fun j h1 h2 => hall j h1 h2 (by rw [hke, H.out.2.2.1]; exact h1)
        have HZ := Lib.hid (And.intro hz hbr)
        clear hz hall hbr hke hk
        go_wp2_with fail
        go_ret
        exact ⟨by rw [HZ.out.1]; rfl, HZ.out.2⟩
  · have e1 : ((n : Int) != (m : Int)) = true := by rw [bne_iff_ne]; omega
    have HZ : Hid (res = false) := Lib.hid (by
      rw [H.out.2.2.2.2]
      cases hs : sameN xs ys with
      | false => rfl
      | true => exact absurd (sameN_len hs) (by rw [← H.out.2.2.1, ← H.out.2.2.2.1]; exact hnm))
    go_enter Try.func39, Try.ntmps39
    go_wp2_with fail
    go_ret
    exact ⟨by rw [HZ.out]; rfl, Below.refl _ _⟩
set_option maxRecDepth 100000 in
theorem sameTerm_any (w : World) (a b : Option Addr) (c1 c2 : Nat) (xs ys : List Nd) (hx : TAt w a xs) (hy : TAt w b ys) :
    Calls Try.prog 15 #[.agg #[.slice a xs.length c1], .agg #[.slice b ys.length c2]] w fun e w' => e = .returned (.bool (sameN xs ys)) ∧ Below w.heap.size w w' := by
  have hb0 : Below w.heap.size w ((w.alloc (.cells #[.slice a xs.length c1] 24)).alloc (.cells #[.slice b ys.length c2] 24)) := ((Below.refl _ _).alloc (Nat.le_refl _) _).alloc (by simp) _
  have h := sameNodes_any ((w.alloc (.cells #[.slice a xs.length c1] 24)).alloc (.cells #[.slice b ys.length c2] 24)) a b c1 c2 xs ys (hx.below hb0 (Nat.le_refl _)) (hy.below hb0 (Nat.le_refl _))
  obtain ⟨res, hres⟩ : ∃ r, r = sameN xs ys := ⟨_, rfl⟩
  rw [← hres] at h ⊢
  obtain ⟨n, hn⟩ : ∃ n, n = xs.length := ⟨_, rfl⟩
  obtain ⟨m, hm⟩ : ∃ m, m = ys.length := ⟨_, rfl⟩
  rw [← hn, ← hm] at h hb0 ⊢
  have H := Lib.hid (And.intro h hb0)
  clear h hb0 hx hy hn hm hres
  go_enter Try.func15, Try.ntmps15
  go_wp2_with fail
  refine H.out.1.mono ?_
  rintro e w2 ⟨rfl, hb2⟩
  have HB := Lib.hid (H.out.2.trans (hb2.mono H.out.2.size))
  clear hb2
  go_wp2_with fail
  go_ret
  exact ⟨rfl, HB.out⟩
end Go.Proofs.Ytieoiklgoeclaaa
