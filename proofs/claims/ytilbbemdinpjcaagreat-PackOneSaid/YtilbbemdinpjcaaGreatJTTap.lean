/-
  append(append([]Node{}, xs...), n) into a fresh box, in whatever order.
-/
import Derived.Test.YtilbbemdinpjcaaGreatJTTom
set_option maxHeartbeats 16000000
namespace Go.Proofs.YtilbbemdinpjcaaGreat.T
open Go.RowKit
def cost : List Nd → Nat
 | [] => 0
 | x :: xs => 1 + x.txt.size / 16 + cost xs
theorem cost_app : ∀ xs ys : List Nd, cost (xs ++ ys) = cost xs + cost ys
 | [], ys => by simp [cost]
 | x :: xs, ys => by simp only [List.cons_append, cost, cost_app xs ys]; omega
theorem cost_len : ∀ xs : List Nd, xs.length ≤ cost xs
 | [] => Nat.zero_le _
 | x :: xs => by have := cost_len xs; simp only [List.length_cons, cost]; omega
def TRaw (w : World) (a : Option Addr) (xs : List Nd) : Prop := 0 < xs.length → ∃ g off, a = some ⟨g, off, none⟩ ∧ NAt w g off xs
theorem TRaw.below {B : Nat} {w w' : World} {a : Option Addr} {xs : List Nd} (h : TRaw w a xs) (hb : Below B w w') (hB : w.heap.size ≤ B) : TRaw w' a xs := fun h0 => by
 obtain ⟨g, off, h1, h2⟩ := h h0
 exact ⟨g, off, h1, h2.below hb (Nat.lt_of_lt_of_le h2.1 hB)⟩
def TxtRaw (xs : List Nd) : Prop := ∀ x ∈ xs, x.txt.size ≤ 140737488355328
end Go.Proofs.YtilbbemdinpjcaaGreat.T
namespace Go.Proofs.YtilbbemdinpjcaaGreat.T
open Go.RowKit
def RsAt (w : World) (ad : Option Addr) (l : List TK) : Prop := (0 < l.length → ∃ g off, ad = some ⟨g, off, none⟩ ∧ g < w.heap.size ∧ ∀ j (h : j < l.length), w.cell? ⟨g, off + j, none⟩ = some l[j].v) ∧ ∀ t ∈ l, TRaw w t.a t.xs ∧ TxtRaw t.xs ∧ t.xs.length ≤ 140737488355328
theorem RsAt.below {B : Nat} {w w' : World} {ad : Option Addr} {l : List TK} (h : RsAt w ad l) (hb : Below B w w') (hB : w.heap.size ≤ B) : RsAt w' ad l :=
 ⟨fun h0 => by
  obtain ⟨g, off, h1, h2, h3⟩ := h.1 h0
  exact ⟨g, off, h1, Nat.lt_of_lt_of_le h2 hb.size, fun j hj => (hb.cell (p := ⟨g, off + j, none⟩) (Nat.lt_of_lt_of_le h2 hB)).trans (h3 j hj)⟩, fun t ht => ⟨(h.2 t ht).1.below hb hB, (h.2 t ht).2⟩⟩
theorem run_neq_struct (W : World) (t : TypeId) (xs ys : Array Value) : (binOp .neq t (.agg xs) (.agg ys)).run Tryz.prog W = ((Op.equalIn 10000 t (.agg xs) (.agg ys)).run Tryz.prog W).andThen fun b w' => .ok (.bool (!b)) w' := by
 simp only [binOp]
 simp [Op.equal, Op.maxDepth]
set_option maxRecDepth 100000 in
theorem neq_nodes (W : World) (k1 k2 n1 n2 : Int) (b1 b2 : Nat) (t1 t2 : ByteArray) (d1 d2 : Int) :
  (binOp .neq 72 (.agg #[.int .i64 k1, .int .i64 n1, .int .u64 b1, .string t1, .int .i64 d1]) (.agg #[.int .i64 k2, .int .i64 n2, .int .u64 b2, .string t2, .int .i64 d2])).run Tryz.prog W = .ok (.bool (!eqN ⟨k1, n1, b1, t1, d1⟩ ⟨k2, n2, b2, t2, d2⟩)) W := by
 have h2 := stood32
 rw [run_neq_struct, run_equalIn_agg W 9999 72 _ _ (by kernel_rfl) h2]
 unfold eqN
 simp only
 by_cases e0 : k1 = k2
 ·
  by_cases e1 : n1 = n2
  ·
   by_cases e2 : b1 = b2
   ·
    by_cases e3 : t1.toList = t2.toList
    ·
     by_cases e4 : d1 = d2 <;> simp [go_sem, e0, e1, e2, e3, e4]
    ·
     simp [go_sem, e0, e1, e2, e3]
   ·
    have e2' : ¬ (b1 : Int) = (b2 : Int) := by omega
    simp [go_sem, e0, e1, e2, e2']
  ·
   simp [go_sem, e0, e1]
 ·
  simp [go_sem, e0]
theorem sameN_false : ∀ {xs ys : List Nd} (j : Nat) (h1 : j < xs.length) (h2 : j < ys.length), eqN xs[j] ys[j] = false → sameN xs ys = false
  | x :: xs, y :: ys, 0, _, _, h => by
    have : eqN x y = false := h
    simp [sameN, this]
  | x :: xs, y :: ys, j + 1, h1, h2, h => by
    have := sameN_false (xs := xs) (ys := ys) j (by simpa using h1) (by simpa using h2) h
    simp [sameN, this]
theorem sameN_true : ∀ {xs ys : List Nd}, xs.length = ys.length → (∀ j (h1 : j < xs.length) (h2 : j < ys.length), eqN xs[j] ys[j] = true) → sameN xs ys = true
  | [], [], _, _ => rfl
  | [], _ :: _, h, _ => by simp at h
  | _ :: _, [], h, _ => by simp at h
  | x :: xs, y :: ys, hl, h => by
    have h0 : eqN x y = true := h 0 (by simp) (by simp)
    have := sameN_true (xs := xs) (ys := ys) (by simpa using hl) (fun j h1 h2 => h (j + 1) (by simpa using h1) (by simpa using h2))
    simp [sameN, h0, this]
set_option maxRecDepth 100000 in
theorem sameNodes_any (w : World) (a b : Option Addr) (c1 c2 : Nat) (xs ys : List Nd) (hx : TAt w a xs) (hy : TAt w b ys) :
    Calls Tryz.prog 122 #[.slice a xs.length c1, .slice b ys.length c2] w fun e w' => e = .returned (.bool (sameN xs ys)) ∧ Below w.heap.size w w' := by
  obtain ⟨res, hres⟩ : ∃ r, r = sameN xs ys := ⟨_, rfl⟩
  rw [← hres]
  obtain ⟨n, hn⟩ : ∃ n, n = xs.length := ⟨_, rfl⟩
  obtain ⟨m, hm⟩ : ∃ m, m = ys.length := ⟨_, rfl⟩
  have hle : n ≤ 1000000 := by rw [hn]; exact hx.2.1
  have hle2 : m ≤ 1000000 := by rw [hm]; exact hy.2.1
  rw [← hn, ← hm]
  have H := Lib.hid (And.intro hx (And.intro hy (And.intro hn (And.intro hm hres))))
  clear hx hy hn hm hres
  have q9 : (n : Int) ≤ 1000000 := by omega
  by_cases hnm : n = m
  · have HN := Lib.hid hnm
    have e1 : ((n : Int) != (m : Int)) = false := by rw [bne_eq_false_iff_eq]; omega
    clear hnm
    go_enter Tryz.func122, Tryz.ntmps122
    go_wp2_with fail
    clear e1
    go_loopw [5] (fun i W => ∃ k : Nat, k ≤ n ∧ i = .int .i64 k ∧ (∀ j (h1 : j < xs.length) (h2 : j < ys.length), j < k → eqN xs[j] ys[j] = true) ∧ Below w.heap.size w W) (fun i _ => (n - intOf i).toNat)
    case atStart => exact ⟨0, by omega, by go_num, fun j _ _ h => by omega, Below.refl _ _⟩
    case round =>
      obtain ⟨k, hk, rfl, hall, hbr⟩ := hrel
      by_cases hlt : k < n
      · have hx1 : k < xs.length := by rw [← H.out.2.2.1]; exact hlt
        have hy1 : k < ys.length := by rw [← H.out.2.2.2.1, ← HN.out]; exact hlt
        obtain ⟨g1, o1, ea, hN1⟩ := (H.out.1.below hbr (Nat.le_refl _)).1 (by omega)
        obtain ⟨g2, o2, eb, hN2⟩ := (H.out.2.1.below hbr (Nat.le_refl _)).1 (by omega)
        subst ea eb
        have hc1 := hN1.2 k hx1
        have hc2 := hN2.2 k hy1
        have hnext : eqN xs[k] ys[k] = true → ∀ j (h1 : j < xs.length) (h2 : j < ys.length), j < k + 1 → eqN xs[j] ys[j] = true := fun e j h1 h2 h => by
          by_cases e2 : j = k
          · subst e2; exact e
          · exact hall j h1 h2 (by omega)
        have hbad : eqN xs[k] ys[k] = false → res = false := fun e => by rw [H.out.2.2.2.2]; exact sameN_false k hx1 hy1 e
        obtain ⟨x, ex⟩ : ∃ x, x = xs[k] := ⟨_, rfl⟩
        obtain ⟨y, ey⟩ : ∃ y, y = ys[k] := ⟨_, rfl⟩
        rw [← ex] at hc1 hnext hbad
        rw [← ey] at hc2 hnext hbad
        obtain ⟨k1, n1, b1, t1, d1⟩ := x
        obtain ⟨k2, n2, b2, t2, d2⟩ := y
        have x0 : wr.cell? ⟨g1, o1 + k * 5, none⟩ = some (.int .i64 k1) := hc1 0 _ rfl
        have x1 : wr.cell? ⟨g1, o1 + k * 5 + 1, none⟩ = some (.int .i64 n1) := hc1 1 _ rfl
        have x2 : wr.cell? ⟨g1, o1 + k * 5 + 2, none⟩ = some (.int .u64 b1) := hc1 2 _ rfl
        have x3 : wr.cell? ⟨g1, o1 + k * 5 + 3, none⟩ = some (.string t1) := hc1 3 _ rfl
        have x4 : wr.cell? ⟨g1, o1 + k * 5 + 4, none⟩ = some (.int .i64 d1) := hc1 4 _ rfl
        have y0 : wr.cell? ⟨g2, o2 + k * 5, none⟩ = some (.int .i64 k2) := hc2 0 _ rfl
        have y1 : wr.cell? ⟨g2, o2 + k * 5 + 1, none⟩ = some (.int .i64 n2) := hc2 1 _ rfl
        have y2 : wr.cell? ⟨g2, o2 + k * 5 + 2, none⟩ = some (.int .u64 b2) := hc2 2 _ rfl
        have y3 : wr.cell? ⟨g2, o2 + k * 5 + 3, none⟩ = some (.string t2) := hc2 3 _ rfl
        have y4 : wr.cell? ⟨g2, o2 + k * 5 + 4, none⟩ = some (.int .i64 d2) := hc2 4 _ rfl
        have hqq := fun W => neq_nodes W k1 k2 n1 n2 b1 b2 t1 t2 d1 d2
        have hg := guard32
        obtain ⟨r, hr⟩ : ∃ r, r = eqN ⟨k1, n1, b1, t1, d1⟩ ⟨k2, n2, b2, t2, d2⟩ := ⟨_, rfl⟩
        rw [← hr] at hnext hbad
        simp only [← hr] at hqq
        have q0 : (0 : Int) ≤ (k : Int) := by omega
        have q1 : (k : Int) < (n : Int) := by omega
        have q2 : (k : Int) < (m : Int) := by have := HN.out; omega
        have HR := Lib.hid (And.intro hbr (And.intro hnext hbad))
        clear hbr hnext hbad hall hN1 hN2 hc1 hc2 ex ey hr hx1 hy1
        go_upto_region 6 with fail
        go_quiet (fail)
        have HW := Lib.hid (below_drewN HR.out.1 1)
        cases r with
        | true =>
          have HN2 := Lib.hid (HR.out.2.1 rfl)
          go_wp2_with fail
          refine ⟨⟨k + 1, by omega, by go_num, HN2.out, below_drewN HR.out.1 _⟩, by simp [intOf]; omega⟩
        | false =>
          have HB2 := Lib.hid (HR.out.2.2 rfl)
          go_wp2_with fail
          go_ret
          exact ⟨by rw [HB2.out]; rfl, below_drewN HR.out.1 _⟩
      · have hke : k = n := by omega
        have hz : res = true := by
          rw [H.out.2.2.2.2]
          exact sameN_true (by rw [← H.out.2.2.1, ← H.out.2.2.2.1]; exact HN.out) fun j h1 h2 => hall j h1 h2 (by rw [hke, H.out.2.2.1]; exact h1)
        have HZ := Lib.hid (And.intro hz hbr)
        clear hz hall hbr hke hk
        go_wp2_with fail
        go_ret
        exact ⟨by rw [HZ.out.1]; rfl, HZ.out.2⟩
  · have e1 : ((n : Int) != (m : Int)) = true := by rw [bne_iff_ne]; omega
    have HZ : Hid (res = false) := Lib.hid (by
      rw [H.out.2.2.2.2]
      cases hs : sameN xs ys with
      | false => rfl
      | true => exact absurd (sameN_len hs) (by rw [← H.out.2.2.1, ← H.out.2.2.2.1]; exact hnm))
    go_enter Tryz.func122, Tryz.ntmps122
    go_wp2_with fail
    go_ret
    exact ⟨by rw [HZ.out]; rfl, Below.refl _ _⟩
set_option maxRecDepth 100000 in
theorem sameTerm_any (w : World) (a b : Option Addr) (c1 c2 : Nat) (xs ys : List Nd) (hx : TAt w a xs) (hy : TAt w b ys) :
  Calls Tryz.prog 50 #[.agg #[.slice a xs.length c1], .agg #[.slice b ys.length c2]] w fun e w' => e = .returned (.bool (sameN xs ys)) ∧ Below w.heap.size w w' := by
 have hb0 : Below w.heap.size w ((w.alloc (.cells #[.slice a xs.length c1] 24)).alloc (.cells #[.slice b ys.length c2] 24)) := ((Below.refl _ _).alloc (Nat.le_refl _) _).alloc (by simp) _
 have h := sameNodes_any ((w.alloc (.cells #[.slice a xs.length c1] 24)).alloc (.cells #[.slice b ys.length c2] 24)) a b c1 c2 xs ys (hx.below hb0 (Nat.le_refl _)) (hy.below hb0 (Nat.le_refl _))
 obtain ⟨res, hres⟩ : ∃ r, r = sameN xs ys := ⟨_, rfl⟩
 rw [← hres] at h ⊢
 obtain ⟨n, hn⟩ : ∃ n, n = xs.length := ⟨_, rfl⟩
 obtain ⟨m, hm⟩ : ∃ m, m = ys.length := ⟨_, rfl⟩
 rw [← hn, ← hm] at h hb0 ⊢
 have H := Lib.hid (And.intro h hb0)
 clear h hb0 hx hy hn hm hres
 go_enter Tryz.func50, Tryz.ntmps50
 go_wp2_with fail
 refine H.out.1.mono ?_
 rintro e w2 ⟨rfl, hb2⟩
 have HB := Lib.hid (H.out.2.trans (hb2.mono H.out.2.size))
 clear hb2
 go_wp2_with fail
 go_ret
 exact ⟨rfl, HB.out⟩
end Go.Proofs.YtilbbemdinpjcaaGreat.T
namespace Go.Proofs.YtilbbemdinpjcaaGreat.T
open Go.RowKit
def putF (a : Act) : List Tmp → (Tmp → Value) → Act
 | [], _ => a
 | s :: l, f => (putF a l f).put (some s) (f s)
theorem OwnT.alloc {w : World} {B : Nat} {v : Value} {xs : List Nd} (h : OwnT w B v xs) (o : Obj) : OwnT (w.alloc o) B v xs := h.kept ((Below.refl _ _).alloc (Nat.le_refl _) _)
structure JIdx where
 b1 : Nat
 c1 : Nat
 b2 : Nat
 c2 : Nat
 a1 : Nat
 a2 : Nat
 d1 : Nat
 d2 : Nat
end Go.Proofs.YtilbbemdinpjcaaGreat.T
namespace Go.Proofs.YtilbbemdinpjcaaGreat.T
open Go.RowKit
theorem OwnT.far {w : World} {B : Nat} {v : Value} {xs : List Nd} (h : OwnT w B v xs) {k : Nat} {cs : Array Value} (hk : Lies w k cs 24) : some k ≠ v.ownBlock := by
 rcases h.2 with ⟨h1, -⟩ | ⟨g, cap, cur, h1, h2, h3, -⟩
 ·
  rw [h1]; exact fun e => by cases e
 ·
  rw [h1]
  intro e
  have : k = g := Option.some.inj e
  exact Lies.apart (t := 72) (u := 24) h3 hk (by decide) this.symm
theorem OwnT.fresh {w : World} {B : Nat} {v : Value} {xs : List Nd} (h : OwnT w B v xs) : v.ownBlock ≠ some w.heap.size := by
 rcases h.2 with ⟨h1, -⟩ | ⟨g, cap, cur, h1, h2, h3, -⟩
 ·
  rw [h1]; exact fun e => by cases e
 ·
  rw [h1]
  intro e
  have e2 : g = w.heap.size := Option.some.inj e
  have := (Array.getElem?_eq_some_iff.1 h3).1
  omega
theorem src_node {w : World} {g : Nat} {n : Nd} (h : Lies w g n.cells 72) : SrcT w (.slice (some ⟨g, 0, none⟩) 1 1) [n] :=
 .inr ⟨⟨g, 0, none⟩, 1, rfl, fun j u hu => by
  have : n.cells[j]? = some u := by
   rw [cellsL_cons] at hu
   simpa [cellsL] using hu
  have h2 := h.cell j this
  have e : (⟨g, 0, none⟩ : Addr).add j = ⟨g, j, none⟩ := by cases j <;> simp [Addr.add]
  rw [e]; exact h2⟩
theorem grown_lies {w w' : World} {v : Value} {g : Nat} {cs : Array Value} {t : TypeId} (hg : w.grownBy w' v.ownBlock) (h : Lies w g cs t) (hn : some g ≠ v.ownBlock) : Lies w' g cs t := (hg.block g h.lt hn).trans h
abbrev AL := Bool → Bool → Bool → Bool → Bool → Bool → Bool → Array Bool
def AI (w0 : World) (nd : Nd) (xs : List Nd) (L : AL) (a0 : Act) (s0 r1 s5 r2 t7 p : Tmp) (l : Array Bool) (a : Act) (w : World) : Prop :=
  ∃ b c e f g a' d : Bool, l = L b c e f g a' d ∧ ∃ (F : Tmp → Value) (gp : Nat), a = putF a0 [s0, r1, s5, r2, t7, p] F ∧
    (b = true → c = false → OwnT w w0.heap.size (F s0) []) ∧
    (c = true → f = false → OwnT w w0.heap.size (F r1) xs) ∧
    (e = true → f = false → ∃ g5, F s5 = .slice (some ⟨g5, 0, none⟩) 1 1 ∧ Lies w g5 nd.cells 72 ∧ (b = true → c = false → some g5 ≠ (F s0).ownBlock) ∧ (c = true → some g5 ≠ (F r1).ownBlock)) ∧
    (f = true → OwnT w w0.heap.size (F r2) (xs ++ [nd])) ∧
    (g = true → F t7 = .agg #[F r2]) ∧
    (a' = true → F p = .pointer (some ⟨gp, 0, none⟩) ∧ w0.heap.size ≤ gp ∧ Lies w gp (if d then #[F r2] else #[.slice none 0 0]) 24) ∧
    (c = true → b = true) ∧ (f = true → c = true ∧ e = true) ∧ (g = true → f = true) ∧ (d = true → g = true ∧ a' = true) ∧ Below w0.heap.size w0 w
end Go.Proofs.YtilbbemdinpjcaaGreat.T
