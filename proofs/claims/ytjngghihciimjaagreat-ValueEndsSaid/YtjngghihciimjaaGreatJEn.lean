/-
  Bundles about all ends: the closed law's walk (written by tools/gen_ends.py out of tools/ends.head).
-/
import Derived.Test.YtjngghihciimjaaGreatJEv
namespace Go.Proofs.YtjngghihciimjaaGreat
set_option maxRecDepth 100000
open Go.RowKit Go.Sort Go.Maps
def nL : List Int := [-9223372036854775808, -1, 0, 1, 2, 9223372036854775806, 9223372036854775807]
def sL : List (List UInt8) := [[], [97], [97, 0], [98], List.replicate 32 98, List.replicate 33 98]
def numC : Array Value := (nL.map fun x => Value.int .i64 x).toArray
def namC : Array Value := (sL.map fun t => Value.string (txt t)).toArray
theorem nL_ok : ∀ x, x ∈ nL → -9223372036854775808 ≤ x ∧ x < 9223372036854775808 := by decide
theorem sL_ok : ∀ t, t ∈ sL → t.length ≤ 33 := by decide
def wL : List (BitVec 128) := [170141183460469231731687303715884105728#128, 340282366920938463463374607431768211455#128, 0#128, 18446744073709551615#128, 170141183460469231731687303715884105727#128]
def widC : Array Value := #[.int .i64 (-9223372036854775808), .int .u64 0, .int .i64 (-1), .int .u64 18446744073709551615, .int .i64 0, .int .u64 0, .int .i64 0, .int .u64 18446744073709551615, .int .i64 9223372036854775807, .int .u64 18446744073709551615]
theorem wid_at {k : Nat} {x : BitVec 128} (h : wL[k]? = some x) : widC[k * 2]? = some (.int .i64 (hiS x)) ∧ widC[k * 2 + 1]? = some (.int .u64 (loN x)) := by
 have hk : k < 5 := (List.getElem?_eq_some_iff.1 h).1
 have : k = 0 ∨ k = 1 ∨ k = 2 ∨ k = 3 ∨ k = 4 := by omega
 rcases this with rfl | rfl | rfl | rfl | rfl
 all_goals
  obtain rfl := Option.some.inj (show some _ = some x from h)
  exact ⟨rfl, rfl⟩
theorem info_wide3 : (Tryz.prog.info? 48).map (fun i => (i.zero.map (·.cells.size), i.size, i.bytes)) = some (some 2, 2, 16) := by kernel_rfl
theorem info_total3 : (Tryz.prog.info? 75).map (fun i => (i.zero.map (·.cells.size), i.size, i.bytes)) = some (some 35, 35, 64) := by kernel_rfl
theorem run_wides5 (W : World) : (Instr.buildSlice 59 5 #[(0, .agg #[.int .i64 (-9223372036854775808), .int .u64 0]), (1, .agg #[.int .i64 (-1), .int .u64 18446744073709551615]), (2, .agg #[.int .i64 0, .int .u64 0]), (3, .agg #[.int .i64 0, .int .u64 18446744073709551615]), (4, .agg #[.int .i64 9223372036854775807, .int .u64 18446744073709551615])]).run Tryz.prog W = .ok (.slice (some ⟨W.heap.size, 0, none⟩) 5 5) (W.alloc (.cells widC 48)) :=
 run_sliceN W 59 48 2 16 5 [#[.int .i64 (-9223372036854775808), .int .u64 0], #[.int .i64 (-1), .int .u64 18446744073709551615], #[.int .i64 0, .int .u64 0], #[.int .i64 0, .int .u64 18446744073709551615], #[.int .i64 9223372036854775807, .int .u64 18446744073709551615]] Tryz.underlying59 info_wide3 (by decide) (by decide) rfl (by decide) (by intro c hc; simp only [List.mem_cons, List.not_mem_nil, or_false] at hc; rcases hc with rfl | rfl | rfl | rfl | rfl <;> rfl)
theorem run_wides3 (W : World) (a b c d e f : Value) : (Instr.buildSlice 59 3 #[(0, .agg #[a, b]), (1, .agg #[c, d]), (2, .agg #[e, f])]).run Tryz.prog W = .ok (.slice (some ⟨W.heap.size, 0, none⟩) 3 3) (W.alloc (.cells #[a, b, c, d, e, f] 48)) :=
 run_sliceN W 59 48 2 16 3 [#[a, b], #[c, d], #[e, f]] Tryz.underlying59 info_wide3 (by decide) (by decide) rfl (by decide) (by intro c hc; simp only [List.mem_cons, List.not_mem_nil, or_false] at hc; rcases hc with rfl | rfl | rfl <;> rfl)
theorem run_totals2 (W : World) (a b : Array Value) (ha : a.size = 35) (hb : b.size = 35) : (Instr.buildSlice 49 2 #[(0, .agg a), (1, .agg b)]).run Tryz.prog W = .ok (.slice (some ⟨W.heap.size, 0, none⟩) 2 2) (W.alloc (.cells (a ++ b) 75)) := by
 have h := run_sliceN W 49 75 35 64 2 [a, b] Tryz.underlying49 info_total3 (by decide) (by decide) rfl (by decide) (by intro c hc; simp only [List.mem_cons, List.not_mem_nil, or_false] at hc; rcases hc with rfl | rfl <;> assumption)
 have e : ([a, b].flatMap fun c => c.toList).toArray = a ++ b := by simp
 rw [e] at h
 exact h
theorem run_rows3 (W : World) (p q r : Option Addr) (a b c d e f : Nat) : (Instr.buildSlice 58 3 #[(0, .slice p a b), (1, .slice q c d), (2, .slice r e f)]).run Tryz.prog W = .ok (.slice (some ⟨W.heap.size, 0, none⟩) 3 3) (W.alloc (.cells #[.slice p a b, .slice q c d, .slice r e f] 49)) := by kernel_rfl
def toZ (t : List UInt8) (x : BitVec 128) : To := ⟨(List.replicate 32 0, t), x⟩
theorem built_toZ (t : List UInt8) (x : BitVec 128) : Tryz.prog.built 75 [(1, .string (txt t)), (2, .agg #[.int .i64 (hiS x), .int .u64 (loN x)])] = some (toC (toZ t x)) := by kernel_rfl
def aT (b : UInt8) (t : List UInt8) (x : Int) : As := ⟨(hash1 b, t), x⟩
def aX (x : Int) : As := aT 1 [97] x
def aB : As := aT 0 [98] 1
theorem aT_ok {b : UInt8} {t : List UInt8} {x : Int} (ht : t.length ≤ 33) (h0 : -9223372036854775808 ≤ x) (h1 : x < 9223372036854775808) : AsOk (aT b t x) := ⟨hash1_len b, Nat.le_trans ht (by decide), h0, h1⟩
theorem lit0 {W : World} {x : Int} (h0 : -9223372036854775808 ≤ x) (h1 : x < 9223372036854775808) : LitV W ⟨x, none, [], 0⟩ := ⟨h0, h1, fun a ha => by simp at ha, by simp, .inl ⟨rfl, rfl, rfl⟩⟩
theorem lit1 {W : World} {x : Int} {g : Nat} {a : As} {cs : Array Value} (h0 : -9223372036854775808 ≤ x) (h1 : x < 9223372036854775808) (ha : AsOk a) (hc : cs = asC a) (hl : Lies W g cs 38) : LitV W ⟨x, some ⟨g, 0, none⟩, [a], 1⟩ :=
 ⟨h0, h1, fun b hb => by rw [List.mem_singleton.1 hb]; exact ha, by simp, .inr ⟨g, cs, rfl, hl, by rw [hc]; simp [cellsF]⟩⟩
theorem lit2 {W : World} {x : Int} {g : Nat} {a b : As} {cs ds : Array Value} (h0 : -9223372036854775808 ≤ x) (h1 : x < 9223372036854775808) (ha : AsOk a) (hb : AsOk b) (hc : cs = asC a) (hd : ds = asC b) (hl : Lies W g (cs ++ ds) 38) : LitV W ⟨x, some ⟨g, 0, none⟩, [a, b], 2⟩ :=
 ⟨h0, h1, fun u hu => by
  rcases List.mem_cons.1 hu with rfl | hu
  ·
   exact ha
  ·
   rw [List.mem_singleton.1 hu]; exact hb, by simp, .inr ⟨g, cs ++ ds, rfl, hl, by rw [hc, hd]; simp [cellsF]⟩⟩
theorem new7 {W : World} {x : Int} {av bv : Array Value} {g1 g2 g3 : Nat} (h0 : -9223372036854775808 ≤ x) (h1 : x < 9223372036854775808) (ha : av = asC (aX x)) (hb : bv = asC aB) (l1 : Lies W g1 av 38) (l2 : Lies W g2 (bv ++ av) 38) (l3 : Lies W g3 (av ++ av) 38) :
  ∀ v, v ∈ [(⟨x, none, [], 0⟩ : Va), ⟨1, some ⟨g1, 0, none⟩, [aX x], 1⟩, ⟨0, some ⟨g2, 0, none⟩, [aB, aX x], 2⟩, ⟨x, some ⟨g3, 0, none⟩, [aX x, aX x], 2⟩] → LitV W v := fun v hv => by
 have kx : AsOk (aX x) := aT_ok (by decide) h0 h1
 have kb : AsOk aB := aT_ok (by decide) (by decide) (by decide)
 simp only [List.mem_cons, List.not_mem_nil, or_false] at hv
 rcases hv with rfl | rfl | rfl | rfl
 ·
  exact lit0 h0 h1
 ·
  exact lit1 (by decide) (by decide) kx ha l1
 ·
  exact lit2 (by decide) (by decide) kb kx hb ha l2
 ·
  exact lit2 h0 h1 kx kx ha ha l3
theorem new11 {W : World} {t : List UInt8} {c1 c2 c3 c4 c5 c6 : Array Value} {g1 g2 g3 : Nat} (ht : t.length ≤ 33) (h1 : c1 = asC (aX 1)) (h2 : c2 = asC (aT 1 t 1)) (h3 : c3 = asC (aT 1 t 9223372036854775807)) (h4 : c4 = asC (aT 2 [] 1)) (h5 : c5 = asC (aT 200 t 2)) (h6 : c6 = asC (aT 100 [122] 2))
  (l1 : Lies W g1 (c1 ++ c2) 38) (l2 : Lies W g2 (c3 ++ c4) 38) (l3 : Lies W g3 (c5 ++ c6) 38) :
  ∀ v, v ∈ [(⟨0, some ⟨g1, 0, none⟩, [aX 1, aT 1 t 1], 2⟩ : Va), ⟨0, some ⟨g2, 0, none⟩, [aT 1 t 9223372036854775807, aT 2 [] 1], 2⟩, ⟨0, some ⟨g3, 0, none⟩, [aT 200 t 2, aT 100 [122] 2], 2⟩] → LitV W v := fun v hv => by
 simp only [List.mem_cons, List.not_mem_nil, or_false] at hv
 rcases hv with rfl | rfl | rfl
 ·
  exact lit2 (by decide) (by decide) (aT_ok (by decide) (by decide) (by decide)) (aT_ok ht (by decide) (by decide)) h1 h2 l1
 ·
  exact lit2 (by decide) (by decide) (aT_ok ht (by decide) (by decide)) (aT_ok (by decide) (by decide) (by decide)) h3 h4 l2
 ·
  exact lit2 (by decide) (by decide) (aT_ok ht (by decide) (by decide)) (aT_ok (by decide) (by decide) (by decide)) h5 h6 l3
theorem run_values4 (W : World) (a b c d e f g h : Value) : (Instr.buildSlice 28 4 #[(0, .agg #[a, b]), (1, .agg #[c, d]), (2, .agg #[e, f]), (3, .agg #[g, h])]).run Tryz.prog W = .ok (.slice (some ⟨W.heap.size, 0, none⟩) 4 4) (W.alloc (.cells #[a, b, c, d, e, f, g, h] 24)) :=
 run_sliceN W 28 24 2 32 4 [#[a, b], #[c, d], #[e, f], #[g, h]] Tryz.underlying28 info24 (by decide) (by decide) rfl (by decide) (by intro c hc; simp only [List.mem_cons, List.not_mem_nil, or_false] at hc; rcases hc with rfl | rfl | rfl | rfl <;> rfl)
theorem run_values3 (W : World) (a b c d e f : Value) : (Instr.buildSlice 28 3 #[(0, .agg #[a, b]), (1, .agg #[c, d]), (2, .agg #[e, f])]).run Tryz.prog W = .ok (.slice (some ⟨W.heap.size, 0, none⟩) 3 3) (W.alloc (.cells #[a, b, c, d, e, f] 24)) :=
 run_sliceN W 28 24 2 32 3 [#[a, b], #[c, d], #[e, f]] Tryz.underlying28 info24 (by decide) (by decide) rfl (by decide) (by intro c hc; simp only [List.mem_cons, List.not_mem_nil, or_false] at hc; rcases hc with rfl | rfl | rfl <;> rfl)
theorem run_assets2 (W : World) (a b : Array Value) (ha : a.size = 34) (hb : b.size = 34) : (Instr.buildSlice 22 2 #[(0, .agg a), (1, .agg b)]).run Tryz.prog W = .ok (.slice (some ⟨W.heap.size, 0, none⟩) 2 2) (W.alloc (.cells (a ++ b) 38)) := by
 have h := run_sliceN W 22 38 34 56 2 [a, b] Tryz.underlying22 info54 (by decide) (by decide) rfl (by decide) (by intro c hc; simp only [List.mem_cons, List.not_mem_nil, or_false] at hc; rcases hc with rfl | rfl <;> assumption)
 have e : ([a, b].flatMap fun c => c.toList).toArray = a ++ b := by simp
 rw [e] at h
 exact h
theorem run_nums (W : World) : (Instr.buildSlice 70 7 #[(0, .int .i64 (-9223372036854775808)), (1, .int .i64 (-1)), (2, .int .i64 0), (3, .int .i64 1), (4, .int .i64 2), (5, .int .i64 9223372036854775806), (6, .int .i64 9223372036854775807)]).run Tryz.prog W = .ok (.slice (some ⟨W.heap.size, 0, none⟩) 7 7) (W.alloc (.cells numC 2)) := by kernel_rfl
theorem run_names (W : World) : (Instr.buildSlice 71 6 #[(0, .string ⟨#[]⟩), (1, .string ⟨#[97]⟩), (2, .string ⟨#[97, 0]⟩), (3, .string ⟨#[98]⟩), (4, .string ⟨#[98, 98, 98, 98, 98, 98, 98, 98, 98, 98, 98, 98, 98, 98, 98, 98, 98, 98, 98, 98, 98, 98, 98, 98, 98, 98, 98, 98, 98, 98, 98, 98]⟩), (5, .string ⟨#[98, 98, 98, 98, 98, 98, 98, 98, 98, 98, 98, 98, 98, 98, 98, 98, 98, 98, 98, 98, 98, 98, 98, 98, 98, 98, 98, 98, 98, 98, 98, 98, 98]⟩)]).run Tryz.prog W = .ok (.slice (some ⟨W.heap.size, 0, none⟩) 6 6) (W.alloc (.cells namC 9)) := by kernel_rfl
theorem asset_at {b : UInt8} {t : List UInt8} {x : Int} {cs : Array Value} (h : cs = asC (aT b t x)) (U : World) : Calls Tryz.prog 47 #[.int .u8 b.toNat, .string (txt t), .int .i64 x] U fun e w' => e = .returned (.agg cs) ∧ Below U.heap.size U w' := by
 rw [h]; exact asset_any U b t x
theorem of_at (U : World) (x : Int) (p : Option Addr) (n c : Nat) : Calls Tryz.prog 46 #[.int .i64 x, .slice p n c] U fun e w' => e = .returned (.agg #[.int .i64 x, .slice p n c]) ∧ Below U.heap.size U w' := ofV_any U x p n c
theorem slice_one (W : World) (gl i N cl : Nat) (hi : i < N) (hc : N ≤ cl) : (Instr.slice 28 (.slice (some ⟨gl, 0, none⟩) N cl) (some (.int .i64 (i : Int))) (some (.int .i64 ((i : Int) + 1))) none).run Tryz.prog W = .ok (.slice (some ⟨gl, i * 2, none⟩) 1 (cl - i)) W := by
 have q1 : (0 : Int) ≤ (i : Int) := by omega
 have q2 : (i : Int) ≤ (i : Int) + 1 := by omega
 have q3 : (i : Int) + 1 ≤ (cl : Int) := by omega
 have q4 : ¬ cl = i := by omega
 have q9 : ((i : Int) + 1).toNat = i + 1 := by omega
 have q11 : i + 1 - i = 1 := by omega
 simp [go_sem, q1, q2, q3, q4, q9, q11]
theorem slice_to (W : World) (gt r : Nat) (hr : r ≤ 2) : (Instr.slice 49 (.slice (some ⟨gt, 0, none⟩) 2 2) none (some (.int .i64 (r : Int))) none).run Tryz.prog W = .ok (.slice (some ⟨gt, 0, none⟩) r 2) W := by
 have : r = 0 ∨ r = 1 ∨ r = 2 := by omega
 rcases this with rfl | rfl | rfl
 ·
  show (Instr.slice 49 (.slice (some ⟨gt, 0, none⟩) 2 2) none (some (.int .i64 0)) none).run Tryz.prog W = .ok (.slice (some ⟨gt, 0, none⟩) 0 2) W
  kernel_rfl
 ·
  show (Instr.slice 49 (.slice (some ⟨gt, 0, none⟩) 2 2) none (some (.int .i64 1)) none).run Tryz.prog W = .ok (.slice (some ⟨gt, 0, none⟩) 1 2) W
  kernel_rfl
 ·
  show (Instr.slice 49 (.slice (some ⟨gt, 0, none⟩) 2 2) none (some (.int .i64 2)) none).run Tryz.prog W = .ok (.slice (some ⟨gt, 0, none⟩) 2 2) W
  kernel_rfl
theorem slice_from (W : World) (gt : Nat) : (Instr.slice 49 (.slice (some ⟨gt, 0, none⟩) 2 2) (some (.int .i64 1)) none none).run Tryz.prog W = .ok (.slice (some ⟨gt, 35, none⟩) 1 1) W := by kernel_rfl
attribute [-go_sem] Instr.buildSlice
attribute [-go_sem] Instr.build
set_option maxHeartbeats 40000000 in
theorem ends_walk (w : World) : Calls Tryz.prog 6 #[] w fun e w' => e = .returned (.bool true) ∧ Below w.heap.size w w' := by
 have hqn := run_nums
 have hqs := run_names
 have HQ := Lib.hid (And.intro hqn hqs)
 have hb0 : Below w.heap.size w ((w.alloc (.cells numC 2)).alloc (.cells namC 9)) := ((Below.refl _ _).alloc (Nat.le_refl _) _).alloc (by simp) _
 have hN : Lies ((w.alloc (.cells numC 2)).alloc (.cells namC 9)) w.heap.size numC 2 := (Lies.new _ _ _).alloc _
 have hS : Lies ((w.alloc (.cells numC 2)).alloc (.cells namC 9)) (w.heap.size + 1) namC 9 := lies_new2 _ _ _ _ (by simp)
 go_enter Tryz.func6, Tryz.ntmps6
 go_upto_region 3 with fail
 generalize (w.alloc (.cells numC 2)).alloc (.cells namC 9) = W0 at hb0 hN hS ⊢
 obtain ⟨bN, hbN⟩ : ∃ b, b = w.heap.size := ⟨_, rfl⟩
 obtain ⟨bS, hbS⟩ : ∃ b, b = w.heap.size + 1 := ⟨_, rfl⟩
 rw [← hbS] at hS ⊢
 rw [← hbN] at hN ⊢
 have HN : Hid (∀ V, Below W0.heap.size W0 V → ∀ (k : Nat) x, nL[k]? = some x → V.cell? ⟨bN, k, none⟩ = some (.int .i64 x)) := Lib.hid fun V hV k x hx => (hN.below hV hN.lt).cell k (by simp [numC, hx])
 have HS : Hid (∀ V, Below W0.heap.size W0 V → ∀ (k : Nat) t, sL[k]? = some t → V.cell? ⟨bS, k, none⟩ = some (.string (txt t))) := Lib.hid fun V hV k t ht => (hS.below hV hS.lt).cell k (by simp [namC, ht])
 have H0 := Lib.hid hb0
 clear hb0 hN hS hbN hbS hqn hqs
 go_wp2_with fail
 go_loopw [3, 4] (fun s i W => ∃ (sv : Value) (k : Nat) (vs : List Va), sv = s ∧ k ≤ 7 ∧ i = .int .i64 k ∧ vs.length = 4 * k ∧ LW W0.heap.size W sv vs ∧ Below W0.heap.size W0 W) (fun _ i _ => 7 - (intOf i).toNat)
 case atStart => exact ⟨_, 0, [], rfl, Nat.zero_le _, rfl, rfl, ⟨World.ownsRow_nil _ _ _ _, fun v hv => by simp at hv⟩, Below.refl _ _⟩
 case round =>
  obtain ⟨sv, k, vs, hsv, hk, rfl, hlen, hl, hb⟩ := hrel
  subst hsv
  have q0 : (0 : Int) ≤ (k : Int) := by omega
  by_cases hlt : k < 7
  ·
   as_aux_lemma =>
   have q1 : (k : Int) < 7 := by omega
   obtain ⟨x, hx⟩ : ∃ x, nL[k]? = some x := ⟨nL[k]'hlt, List.getElem?_eq_getElem _⟩
   have hxo := nL_ok x (List.mem_of_getElem? hx)
   obtain ⟨av, hav⟩ : ∃ v, v = asC (aX x) := ⟨_, rfl⟩
   obtain ⟨bv, hbv⟩ : ∃ v, v = asC aB := ⟨_, rfl⟩
   have sa : av.size = 34 := by rw [hav]; exact asC_size _ (hash1_len 1)
   have sb : bv.size = 34 := by rw [hbv]; exact asC_size _ (hash1_len 0)
   have HAX := Lib.hid (fun U => asset_at (b := 1) (t := [97]) (x := x) hav U)
   have HAB := Lib.hid (fun U => asset_at (b := 0) (t := [98]) (x := 1) hbv U)
   have HOF := Lib.hid of_at
   have hq1 := Lib.hid (fun W => run_slice1 (P := Tryz.prog) W 22 38 34 56 av Tryz.underlying22 info54 (by decide) (by decide) sa)
   have hq2 := Lib.hid (fun W => run_assets2 W bv av sb sa)
   have hq3 := Lib.hid (fun W => run_assets2 W av av sa sa)
   have HAV := Lib.hid (And.intro hav hbv)
   have HX := Lib.hid hxo
   have HC := Lib.hid (fun V (hV : Below W0.heap.size W0 V) => HN.out V hV k x hx)
   have HV := Lib.hid (And.intro (show vs.length ≤ 100 by omega) hb)
   have HK := Lib.hid (And.intro hlen hlt)
   have HL := Lib.hid hl
   clear hav hbv sa sb hx hxo hl hlen hk hlt
   go_upto_region 7 with fail
   refine wp_region_held (S := Below W0.heap.size W0) (by kernel_rfl) ?_
   change wpAnyH _ _ _ _ _ 40 _ _ (World.drew wr)
   have hcur : Below W0.heap.size W0 wr.drew := hb.drew
   have hloc : Below wr.heap.size wr wr.drew := (Below.refl _ _).drew
   refine tk 0 (sv) 23 rfl rfl hcur ?_
   refine tk 1 (.slice (some ⟨bN, 0, none⟩) 7 7) 24 rfl rfl hcur ?_
   refine tk 2 (.int .i64 (k : Int)) 25 rfl rfl hcur ?_
   refine tk 3 (.pointer (some ⟨bN, k, none⟩)) 26 rfl rfl hcur ?_ (by intro w' hS'; unfold execOp; simp [go_sem, q0, q1])
   refine tk 4 (.int .i64 x) 27 rfl rfl hcur ?_ (by intro w' hS'; have c0 := HC.out w' hS'; unfold execOp; simp [go_sem, c0])
   refine tk 6 (.slice (some ⟨bN, 0, none⟩) 7 7) 29 rfl rfl hcur ?_
   refine tk 7 (.int .i64 (k : Int)) 30 rfl rfl hcur ?_
   refine tk 8 (.pointer (some ⟨bN, k, none⟩)) 31 rfl rfl hcur ?_ (by intro w' hS'; unfold execOp; simp [go_sem, q0, q1])
   refine tk 9 (.int .i64 x) 32 rfl rfl hcur ?_ (by intro w' hS'; have c0 := HC.out w' hS'; unfold execOp; simp [go_sem, c0])
   refine tk 14 (.slice (some ⟨bN, 0, none⟩) 7 7) 37 rfl rfl hcur ?_
   refine tk 15 (.int .i64 (k : Int)) 38 rfl rfl hcur ?_
   refine tk 16 (.pointer (some ⟨bN, k, none⟩)) 39 rfl rfl hcur ?_ (by intro w' hS'; unfold execOp; simp [go_sem, q0, q1])
   refine tk 17 (.int .i64 x) 40 rfl rfl hcur ?_ (by intro w' hS'; have c0 := HC.out w' hS'; unfold execOp; simp [go_sem, c0])
   refine tk 21 (.slice (some ⟨bN, 0, none⟩) 7 7) 44 rfl rfl hcur ?_
   refine tk 22 (.int .i64 (k : Int)) 45 rfl rfl hcur ?_
   refine tk 23 (.pointer (some ⟨bN, k, none⟩)) 46 rfl rfl hcur ?_ (by intro w' hS'; unfold execOp; simp [go_sem, q0, q1])
   refine tk 24 (.int .i64 x) 47 rfl rfl hcur ?_ (by intro w' hS'; have c0 := HC.out w' hS'; unfold execOp; simp [go_sem, c0])
   refine tk 25 (.slice (some ⟨bN, 0, none⟩) 7 7) 48 rfl rfl hcur ?_
   refine tk 26 (.int .i64 (k : Int)) 49 rfl rfl hcur ?_
   refine tk 27 (.pointer (some ⟨bN, k, none⟩)) 50 rfl rfl hcur ?_ (by intro w' hS'; unfold execOp; simp [go_sem, q0, q1])
   refine tk 28 (.int .i64 x) 51 rfl rfl hcur ?_ (by intro w' hS'; have c0 := HC.out w' hS'; unfold execOp; simp [go_sem, c0])
   refine tk 30 (.slice (some ⟨bN, 0, none⟩) 7 7) 53 rfl rfl hcur ?_
   refine tk 31 (.int .i64 (k : Int)) 54 rfl rfl hcur ?_
   refine tk 32 (.pointer (some ⟨bN, k, none⟩)) 55 rfl rfl hcur ?_ (by intro w' hS'; unfold execOp; simp [go_sem, q0, q1])
   refine tk 33 (.int .i64 x) 56 rfl rfl hcur ?_ (by intro w' hS'; have c0 := HC.out w' hS'; unfold execOp; simp [go_sem, c0])
   generalize wr.drew = V0 at hcur hloc ⊢
   refine held_one (i := 5) (by kernel_rfl) _ rfl (wpOp_callG rfl (by rfl) 28 rfl 46 #[.int .i64 x, .slice none 0 0] (by unfold execOp; simp [go_sem]) _ (ret_gro (HOF.out V0 _ _ _ _)) ?_)
   rintro _ U1 ⟨rfl, hb⟩
   have hloc := chB hloc hb
   have hcur := hcur.trans (hb.mono hcur.size)
   clear hb
   refine ⟨hcur, ?_⟩
   simp only [Act.put, List.setIfInBounds_toArray, List.set_cons_zero, List.set_cons_succ]
   refine held_one (i := 10) (by kernel_rfl) _ rfl (wpOp_callG rfl (by rfl) 33 rfl 47 #[.int .u8 1, .string ⟨#[97]⟩, .int .i64 x] (by unfold execOp; simp [go_sem]) _ (ret_gro (HAX.out U1)) ?_)
   rintro _ U2 ⟨rfl, hb⟩
   have hloc := chB hloc hb
   have hcur := hcur.trans (hb.mono hcur.size)
   clear hb
   refine ⟨hcur, ?_⟩
   simp only [Act.put, List.setIfInBounds_toArray, List.set_cons_zero, List.set_cons_succ]
   obtain ⟨g1, eg1⟩ : ∃ g, g = U2.heap.size := ⟨_, rfl⟩
   obtain ⟨U3, eU3⟩ : ∃ W, W = U2.alloc (.cells (av) 38) := ⟨_, rfl⟩
   have hb : Below U2.heap.size U2 U3 := by rw [eU3]; exact (Below.refl _ _).alloc (Nat.le_refl _) _
   have hg1 : Lies U3 g1 (av) 38 := by rw [eU3, eg1]; exact Lies.new _ _ _
   have hrun : (Instr.buildSlice 22 1 #[(0, .agg av)]).run Tryz.prog U2 = .ok (.slice (some ⟨g1, 0, none⟩) 1 1) U3 := by rw [eU3, eg1]; exact hq1.out _
   clear eU3 eg1
   refine held_one (i := 11) (by kernel_rfl) _ rfl (wpOp_valG rfl (by rfl) 34 rfl (v := .slice (some ⟨g1, 0, none⟩) 1 1) (w' := U3) (by unfold execOp; simp [go_sem, hrun]) ?_)
   have hloc := chB hloc hb
   have hcur := hcur.trans (hb.mono hcur.size)
   clear hb hrun
   refine ⟨hcur, ?_⟩
   simp only [Act.put, List.setIfInBounds_toArray, List.set_cons_zero, List.set_cons_succ]
   refine held_one (i := 12) (by kernel_rfl) _ rfl (wpOp_callG rfl (by rfl) 35 rfl 46 #[.int .i64 1, .slice (some ⟨g1, 0, none⟩) 1 1] (by unfold execOp; simp [go_sem]) _ (ret_gro (HOF.out U3 _ _ _ _)) ?_)
   rintro _ U4 ⟨rfl, hb⟩
   have hloc := chB hloc hb
   have hcur := hcur.trans (hb.mono hcur.size)
   have hg1 := hg1.below hb hg1.lt
   clear hb
   refine ⟨hcur, ?_⟩
   simp only [Act.put, List.setIfInBounds_toArray, List.set_cons_zero, List.set_cons_succ]
   refine held_one (i := 13) (by kernel_rfl) _ rfl (wpOp_callG rfl (by rfl) 36 rfl 47 #[.int .u8 0, .string ⟨#[98]⟩, .int .i64 1] (by unfold execOp; simp [go_sem]) _ (ret_gro (HAB.out U4)) ?_)
   rintro _ U5 ⟨rfl, hb⟩
   have hloc := chB hloc hb
   have hcur := hcur.trans (hb.mono hcur.size)
   have hg1 := hg1.below hb hg1.lt
   clear hb
   refine ⟨hcur, ?_⟩
   simp only [Act.put, List.setIfInBounds_toArray, List.set_cons_zero, List.set_cons_succ]
   refine held_one (i := 18) (by kernel_rfl) _ rfl (wpOp_callG rfl (by rfl) 41 rfl 47 #[.int .u8 1, .string ⟨#[97]⟩, .int .i64 x] (by unfold execOp; simp [go_sem]) _ (ret_gro (HAX.out U5)) ?_)
   rintro _ U6 ⟨rfl, hb⟩
   have hloc := chB hloc hb
   have hcur := hcur.trans (hb.mono hcur.size)
   have hg1 := hg1.below hb hg1.lt
   clear hb
   refine ⟨hcur, ?_⟩
   simp only [Act.put, List.setIfInBounds_toArray, List.set_cons_zero, List.set_cons_succ]
   obtain ⟨g2, eg2⟩ : ∃ g, g = U6.heap.size := ⟨_, rfl⟩
   obtain ⟨U7, eU7⟩ : ∃ W, W = U6.alloc (.cells (bv ++ av) 38) := ⟨_, rfl⟩
   have hb : Below U6.heap.size U6 U7 := by rw [eU7]; exact (Below.refl _ _).alloc (Nat.le_refl _) _
   have hg2 : Lies U7 g2 (bv ++ av) 38 := by rw [eU7, eg2]; exact Lies.new _ _ _
   have hrun : (Instr.buildSlice 22 2 #[(0, .agg bv), (1, .agg av)]).run Tryz.prog U6 = .ok (.slice (some ⟨g2, 0, none⟩) 2 2) U7 := by rw [eU7, eg2]; exact hq2.out _
   clear eU7 eg2
   refine held_one (i := 19) (by kernel_rfl) _ rfl (wpOp_valG rfl (by rfl) 42 rfl (v := .slice (some ⟨g2, 0, none⟩) 2 2) (w' := U7) (by unfold execOp; simp [go_sem, hrun]) ?_)
   have hloc := chB hloc hb
   have hcur := hcur.trans (hb.mono hcur.size)
   have hg1 := hg1.below hb hg1.lt
   clear hb hrun
   refine ⟨hcur, ?_⟩
   simp only [Act.put, List.setIfInBounds_toArray, List.set_cons_zero, List.set_cons_succ]
   refine held_one (i := 20) (by kernel_rfl) _ rfl (wpOp_callG rfl (by rfl) 43 rfl 46 #[.int .i64 0, .slice (some ⟨g2, 0, none⟩) 2 2] (by unfold execOp; simp [go_sem]) _ (ret_gro (HOF.out U7 _ _ _ _)) ?_)
   rintro _ U8 ⟨rfl, hb⟩
   have hloc := chB hloc hb
   have hcur := hcur.trans (hb.mono hcur.size)
   have hg1 := hg1.below hb hg1.lt
   have hg2 := hg2.below hb hg2.lt
   clear hb
   refine ⟨hcur, ?_⟩
   simp only [Act.put, List.setIfInBounds_toArray, List.set_cons_zero, List.set_cons_succ]
   refine held_one (i := 29) (by kernel_rfl) _ rfl (wpOp_callG rfl (by rfl) 52 rfl 47 #[.int .u8 1, .string ⟨#[97]⟩, .int .i64 x] (by unfold execOp; simp [go_sem]) _ (ret_gro (HAX.out U8)) ?_)
   rintro _ U9 ⟨rfl, hb⟩
   have hloc := chB hloc hb
   have hcur := hcur.trans (hb.mono hcur.size)
   have hg1 := hg1.below hb hg1.lt
   have hg2 := hg2.below hb hg2.lt
   clear hb
   refine ⟨hcur, ?_⟩
   simp only [Act.put, List.setIfInBounds_toArray, List.set_cons_zero, List.set_cons_succ]
   refine held_one (i := 34) (by kernel_rfl) _ rfl (wpOp_callG rfl (by rfl) 57 rfl 47 #[.int .u8 1, .string ⟨#[97]⟩, .int .i64 x] (by unfold execOp; simp [go_sem]) _ (ret_gro (HAX.out U9)) ?_)
   rintro _ U10 ⟨rfl, hb⟩
   have hloc := chB hloc hb
   have hcur := hcur.trans (hb.mono hcur.size)
   have hg1 := hg1.below hb hg1.lt
   have hg2 := hg2.below hb hg2.lt
   clear hb
   refine ⟨hcur, ?_⟩
   simp only [Act.put, List.setIfInBounds_toArray, List.set_cons_zero, List.set_cons_succ]
   obtain ⟨g3, eg3⟩ : ∃ g, g = U10.heap.size := ⟨_, rfl⟩
   obtain ⟨U11, eU11⟩ : ∃ W, W = U10.alloc (.cells (av ++ av) 38) := ⟨_, rfl⟩
   have hb : Below U10.heap.size U10 U11 := by rw [eU11]; exact (Below.refl _ _).alloc (Nat.le_refl _) _
   have hg3 : Lies U11 g3 (av ++ av) 38 := by rw [eU11, eg3]; exact Lies.new _ _ _
   have hrun : (Instr.buildSlice 22 2 #[(0, .agg av), (1, .agg av)]).run Tryz.prog U10 = .ok (.slice (some ⟨g3, 0, none⟩) 2 2) U11 := by rw [eU11, eg3]; exact hq3.out _
   clear eU11 eg3
   refine held_one (i := 35) (by kernel_rfl) _ rfl (wpOp_valG rfl (by rfl) 58 rfl (v := .slice (some ⟨g3, 0, none⟩) 2 2) (w' := U11) (by unfold execOp; simp [go_sem, hrun]) ?_)
   have hloc := chB hloc hb
   have hcur := hcur.trans (hb.mono hcur.size)
   have hg1 := hg1.below hb hg1.lt
   have hg2 := hg2.below hb hg2.lt
   clear hb hrun
   refine ⟨hcur, ?_⟩
   simp only [Act.put, List.setIfInBounds_toArray, List.set_cons_zero, List.set_cons_succ]
   refine held_one (i := 36) (by kernel_rfl) _ rfl (wpOp_callG rfl (by rfl) 59 rfl 46 #[.int .i64 x, .slice (some ⟨g3, 0, none⟩) 2 2] (by unfold execOp; simp [go_sem]) _ (ret_gro (HOF.out U11 _ _ _ _)) ?_)
   rintro _ U12 ⟨rfl, hb⟩
   have hloc := chB hloc hb
   have hcur := hcur.trans (hb.mono hcur.size)
   have hg1 := hg1.below hb hg1.lt
   have hg2 := hg2.below hb hg2.lt
   have hg3 := hg3.below hb hg3.lt
   clear hb
   refine ⟨hcur, ?_⟩
   simp only [Act.put, List.setIfInBounds_toArray, List.set_cons_zero, List.set_cons_succ]
   have hnew := new7 HX.out.1 HX.out.2 HAV.out.1 HAV.out.2 hg1 hg2 hg3
   obtain ⟨g4, eg4⟩ : ∃ g, g = U12.heap.size := ⟨_, rfl⟩
   obtain ⟨U13, eU13⟩ : ∃ W, W = U12.alloc (.cells (#[.int .i64 x, .slice none 0 0, .int .i64 1, .slice (some ⟨g1, 0, none⟩) 1 1, .int .i64 0, .slice (some ⟨g2, 0, none⟩) 2 2, .int .i64 x, .slice (some ⟨g3, 0, none⟩) 2 2]) 24) := ⟨_, rfl⟩
   have hb : Below U12.heap.size U12 U13 := by rw [eU13]; exact (Below.refl _ _).alloc (Nat.le_refl _) _
   have hg4 : Lies U13 g4 (#[.int .i64 x, .slice none 0 0, .int .i64 1, .slice (some ⟨g1, 0, none⟩) 1 1, .int .i64 0, .slice (some ⟨g2, 0, none⟩) 2 2, .int .i64 x, .slice (some ⟨g3, 0, none⟩) 2 2]) 24 := by rw [eU13, eg4]; exact Lies.new _ _ _
   have hrun : (Instr.buildSlice 28 4 #[(0, .agg #[.int .i64 x, .slice none 0 0]), (1, .agg #[.int .i64 1, .slice (some ⟨g1, 0, none⟩) 1 1]), (2, .agg #[.int .i64 0, .slice (some ⟨g2, 0, none⟩) 2 2]), (3, .agg #[.int .i64 x, .slice (some ⟨g3, 0, none⟩) 2 2])]).run Tryz.prog U12 = .ok (.slice (some ⟨g4, 0, none⟩) 4 4) U13 := by rw [eU13, eg4]; exact run_values4 _ _ _ _ _ _ _ _ _
   clear eU13 eg4
   refine held_one (i := 37) (by kernel_rfl) _ rfl (wpOp_valG rfl (by rfl) 60 rfl (v := .slice (some ⟨g4, 0, none⟩) 4 4) (w' := U13) (by unfold execOp; simp [go_sem, hrun]) ?_)
   have hloc := chB hloc hb
   have hcur := hcur.trans (hb.mono hcur.size)
   have hg1 := hg1.below hb hg1.lt
   have hg2 := hg2.below hb hg2.lt
   have hg3 := hg3.below hb hg3.lt
   have hnew := fun v hv => (hnew v hv).below hb; clear hb hrun
   refine ⟨hcur, ?_⟩
   simp only [Act.put, List.setIfInBounds_toArray, List.set_cons_zero, List.set_cons_succ]
   have hL := HL.out.below hloc
   have hsrc : SrcV U13 (.slice (some ⟨g4, 0, none⟩) 4 4) [(⟨x, none, [], 0⟩ : Va), ⟨1, some ⟨g1, 0, none⟩, [aX x], 1⟩, ⟨0, some ⟨g2, 0, none⟩, [aB, aX x], 2⟩, ⟨x, some ⟨g3, 0, none⟩, [aX x, aX x], 2⟩] := lies_srcV hg4 (by rfl) rfl (by decide)
   obtain ⟨v9, w9, hrun, hown, hgr⟩ := append_V_runZ (.tmp 23) (.tmp 60) W0.heap.size sv _ vs _ hL.own hsrc (by have := HV.out.1; show vs.length + 4 ≤ 1000000; omega) hcur.size
   have hL9 := hL.more hnew hown hgr
   have hb9 : Below W0.heap.size W0 w9 := hcur.grown hgr hcur.size (fun j hj => (hL.own.lt j hj).1)
   refine held_one (i := 38) (by kernel_rfl) _ rfl (wpOp_valG rfl (by rfl) 61 rfl (v := v9) (w' := w9) (hrun _ _ rfl rfl rfl) ⟨hb9, ?_⟩)
   simp only [Act.put, List.setIfInBounds_toArray, List.set_cons_zero, List.set_cons_succ]
   refine held_one (i := 39) (by kernel_rfl) _ rfl (wpOp_valG rfl (by rfl) 3 rfl (v := v9) (w' := w9) (by unfold execOp; simp [go_sem]) ⟨hb9, ?_⟩)
   simp only [Act.put, List.setIfInBounds_toArray, List.set_cons_zero, List.set_cons_succ]
   refine held_done (by kernel_rfl) ?_
   have H9 := Lib.hid (And.intro hL9 hb9)
   clear hL9 hb9 hgr hown hrun hsrc hL hnew hg1 hg2 hg3 hg4 hloc hcur
   go_wp2_with fail
   refine ⟨⟨_, k + 1, _, rfl, ?_, by go_num, ?_, H9.out.1, H9.out.2⟩, ?_⟩
   ·
    have := HK.out.2; omega
   ·
    rw [List.length_append, HK.out.1]; show 4 * k + 4 = 4 * (k + 1); omega
   ·
    have := HK.out.2; simp [intOf]; omega
  ·
   have q1 : ¬ (k : Int) < 7 := by omega
   obtain rfl : k = 7 := by omega
   have hlen : vs.length = 28 := hlen
   have q2 : ¬ ((7 : Nat) : Int) < 7 := by omega
   clear hk hlt q0 q1
   have HL := Lib.hid (And.intro hl (And.intro hb hlen))
   clear hl hb hlen
   go_wp2_with fail
   go_loopw [3, 5] (fun s i W => ∃ (sv : Value) (k : Nat) (vs : List Va), sv = s ∧ k ≤ 6 ∧ i = .int .i64 k ∧ vs.length = 28 + 3 * k ∧ LW W0.heap.size W sv vs ∧ Below W0.heap.size W0 W) (fun _ i _ => 6 - (intOf i).toNat)
   case atStart => exact ⟨_, 0, vs, rfl, Nat.zero_le _, rfl, HL.out.2.2, HL.out.1, HL.out.2.1⟩
   case round =>
    clear HL
    obtain ⟨sv, k, vs, hsv, hk, rfl, hlen, hl, hb⟩ := hrel
    subst hsv
    have q0 : (0 : Int) ≤ (k : Int) := by omega
    by_cases hlt : k < 6
    ·
     as_aux_lemma =>
     have q1 : (k : Int) < 6 := by omega
     obtain ⟨t, hx⟩ : ∃ t, sL[k]? = some t := ⟨sL[k]'hlt, List.getElem?_eq_getElem _⟩
     have hto := sL_ok t (List.mem_of_getElem? hx)
     obtain ⟨tv, htv⟩ : ∃ v, v = txt t := ⟨_, rfl⟩
     obtain ⟨c1, h1⟩ : ∃ v, v = asC (aX 1) := ⟨_, rfl⟩
     obtain ⟨c2, h2⟩ : ∃ v, v = asC (aT 1 t 1) := ⟨_, rfl⟩
     obtain ⟨c3, h3⟩ : ∃ v, v = asC (aT 1 t 9223372036854775807) := ⟨_, rfl⟩
     obtain ⟨c4, h4⟩ : ∃ v, v = asC (aT 2 [] 1) := ⟨_, rfl⟩
     obtain ⟨c5, h5⟩ : ∃ v, v = asC (aT 200 t 2) := ⟨_, rfl⟩
     obtain ⟨c6, h6⟩ : ∃ v, v = asC (aT 100 [122] 2) := ⟨_, rfl⟩
     have s1 : c1.size = 34 := by rw [h1]; exact asC_size _ (hash1_len 1)
     have s2 : c2.size = 34 := by rw [h2]; exact asC_size _ (hash1_len 1)
     have s3 : c3.size = 34 := by rw [h3]; exact asC_size _ (hash1_len 1)
     have s4 : c4.size = 34 := by rw [h4]; exact asC_size _ (hash1_len 2)
     have s5 : c5.size = 34 := by rw [h5]; exact asC_size _ (hash1_len 200)
     have s6 : c6.size = 34 := by rw [h6]; exact asC_size _ (hash1_len 100)
     have K1 := Lib.hid (fun U => asset_at (b := 1) (t := [97]) (x := 1) h1 U)
     have k2 := fun U => asset_at (b := 1) (t := t) (x := 1) h2 U
     have k3 := fun U => asset_at (b := 1) (t := t) (x := 9223372036854775807) h3 U
     have K4 := Lib.hid (fun U => asset_at (b := 2) (t := []) (x := 1) h4 U)
     have k5 := fun U => asset_at (b := 200) (t := t) (x := 2) h5 U
     have K6 := Lib.hid (fun U => asset_at (b := 100) (t := [122]) (x := 2) h6 U)
     rw [← htv] at k2 k3 k5
     have K2 := Lib.hid k2
     have K3 := Lib.hid k3
     have K5 := Lib.hid k5
     have HOF := Lib.hid of_at
     have hq1 := Lib.hid (fun W => run_assets2 W c1 c2 s1 s2)
     have hq2 := Lib.hid (fun W => run_assets2 W c3 c4 s3 s4)
     have hq3 := Lib.hid (fun W => run_assets2 W c5 c6 s5 s6)
     have HA := Lib.hid (And.intro h1 (And.intro h2 (And.intro h3 (And.intro h4 (And.intro h5 h6)))))
     have HT := Lib.hid hto
     have HC : Hid (∀ V, Below W0.heap.size W0 V → V.cell? ⟨bS, k, none⟩ = some (.string tv)) := Lib.hid (fun V hV => by rw [htv]; exact HS.out V hV k t hx)
     have HV := Lib.hid (And.intro (show vs.length ≤ 100 by omega) hb)
     have HK := Lib.hid (And.intro hlen hlt)
     have HL := Lib.hid hl
     clear h1 h2 h3 h4 h5 h6 s1 s2 s3 s4 s5 s6 k2 k3 k5 hx hto hl hlen hk hlt htv
     go_upto_region 11 with fail
     refine wp_region_held (S := Below W0.heap.size W0) (by kernel_rfl) ?_
     change wpAnyH _ _ _ _ _ 28 _ _ (World.drew wr)
     have hcur : Below W0.heap.size W0 wr.drew := hb.drew
     have hloc : Below wr.heap.size wr wr.drew := (Below.refl _ _).drew
     refine tk 0 (sv) 68 rfl rfl hcur ?_
     refine tk 2 (.slice (some ⟨bS, 0, none⟩) 6 6) 70 rfl rfl hcur ?_
     refine tk 3 (.int .i64 (k : Int)) 71 rfl rfl hcur ?_
     refine tk 4 (.pointer (some ⟨bS, k, none⟩)) 72 rfl rfl hcur ?_ (by intro w' hS'; unfold execOp; simp [go_sem, q0, q1])
     refine tk 5 (.string tv) 73 rfl rfl hcur ?_ (by intro w' hS'; have c0 := HC.out w' hS'; unfold execOp; simp [go_sem, c0])
     refine tk 9 (.slice (some ⟨bS, 0, none⟩) 6 6) 77 rfl rfl hcur ?_
     refine tk 10 (.int .i64 (k : Int)) 78 rfl rfl hcur ?_
     refine tk 11 (.pointer (some ⟨bS, k, none⟩)) 79 rfl rfl hcur ?_ (by intro w' hS'; unfold execOp; simp [go_sem, q0, q1])
     refine tk 12 (.string tv) 80 rfl rfl hcur ?_ (by intro w' hS'; have c0 := HC.out w' hS'; unfold execOp; simp [go_sem, c0])
     refine tk 17 (.slice (some ⟨bS, 0, none⟩) 6 6) 85 rfl rfl hcur ?_
     refine tk 18 (.int .i64 (k : Int)) 86 rfl rfl hcur ?_
     refine tk 19 (.pointer (some ⟨bS, k, none⟩)) 87 rfl rfl hcur ?_ (by intro w' hS'; unfold execOp; simp [go_sem, q0, q1])
     refine tk 20 (.string tv) 88 rfl rfl hcur ?_ (by intro w' hS'; have c0 := HC.out w' hS'; unfold execOp; simp [go_sem, c0])
     generalize wr.drew = V0 at hcur hloc ⊢
     refine held_one (i := 1) (by kernel_rfl) _ rfl (wpOp_callG rfl (by rfl) 69 rfl 47 #[.int .u8 1, .string ⟨#[97]⟩, .int .i64 1] (by unfold execOp; simp [go_sem]) _ (ret_gro (K1.out V0)) ?_)
     rintro _ U1 ⟨rfl, hb⟩
     have hloc := chB hloc hb
     have hcur := hcur.trans (hb.mono hcur.size)
     clear hb
     refine ⟨hcur, ?_⟩
     simp only [Act.put, List.setIfInBounds_toArray, List.set_cons_zero, List.set_cons_succ]
     refine held_one (i := 6) (by kernel_rfl) _ rfl (wpOp_callG rfl (by rfl) 74 rfl 47 #[.int .u8 1, .string tv, .int .i64 1] (by unfold execOp; simp [go_sem]) _ (ret_gro (K2.out U1)) ?_)
     rintro _ U2 ⟨rfl, hb⟩
     have hloc := chB hloc hb
     have hcur := hcur.trans (hb.mono hcur.size)
     clear hb
     refine ⟨hcur, ?_⟩
     simp only [Act.put, List.setIfInBounds_toArray, List.set_cons_zero, List.set_cons_succ]
     obtain ⟨g1, eg1⟩ : ∃ g, g = U2.heap.size := ⟨_, rfl⟩
     obtain ⟨U3, eU3⟩ : ∃ W, W = U2.alloc (.cells (c1 ++ c2) 38) := ⟨_, rfl⟩
     have hb : Below U2.heap.size U2 U3 := by rw [eU3]; exact (Below.refl _ _).alloc (Nat.le_refl _) _
     have hg1 : Lies U3 g1 (c1 ++ c2) 38 := by rw [eU3, eg1]; exact Lies.new _ _ _
     have hrun : (Instr.buildSlice 22 2 #[(0, .agg c1), (1, .agg c2)]).run Tryz.prog U2 = .ok (.slice (some ⟨g1, 0, none⟩) 2 2) U3 := by rw [eU3, eg1]; exact hq1.out _
     clear eU3 eg1
     refine held_one (i := 7) (by kernel_rfl) _ rfl (wpOp_valG rfl (by rfl) 75 rfl (v := .slice (some ⟨g1, 0, none⟩) 2 2) (w' := U3) (by unfold execOp; simp [go_sem, hrun]) ?_)
     have hloc := chB hloc hb
     have hcur := hcur.trans (hb.mono hcur.size)
     clear hb hrun
     refine ⟨hcur, ?_⟩
     simp only [Act.put, List.setIfInBounds_toArray, List.set_cons_zero, List.set_cons_succ]
     refine held_one (i := 8) (by kernel_rfl) _ rfl (wpOp_callG rfl (by rfl) 76 rfl 46 #[.int .i64 0, .slice (some ⟨g1, 0, none⟩) 2 2] (by unfold execOp; simp [go_sem]) _ (ret_gro (HOF.out U3 _ _ _ _)) ?_)
     rintro _ U4 ⟨rfl, hb⟩
     have hloc := chB hloc hb
     have hcur := hcur.trans (hb.mono hcur.size)
     have hg1 := hg1.below hb hg1.lt
     clear hb
     refine ⟨hcur, ?_⟩
     simp only [Act.put, List.setIfInBounds_toArray, List.set_cons_zero, List.set_cons_succ]
     refine held_one (i := 13) (by kernel_rfl) _ rfl (wpOp_callG rfl (by rfl) 81 rfl 47 #[.int .u8 1, .string tv, .int .i64 9223372036854775807] (by unfold execOp; simp [go_sem]) _ (ret_gro (K3.out U4)) ?_)
     rintro _ U5 ⟨rfl, hb⟩
     have hloc := chB hloc hb
     have hcur := hcur.trans (hb.mono hcur.size)
     have hg1 := hg1.below hb hg1.lt
     clear hb
     refine ⟨hcur, ?_⟩
     simp only [Act.put, List.setIfInBounds_toArray, List.set_cons_zero, List.set_cons_succ]
     refine held_one (i := 14) (by kernel_rfl) _ rfl (wpOp_callG rfl (by rfl) 82 rfl 47 #[.int .u8 2, .string ⟨#[]⟩, .int .i64 1] (by unfold execOp; simp [go_sem]) _ (ret_gro (K4.out U5)) ?_)
     rintro _ U6 ⟨rfl, hb⟩
     have hloc := chB hloc hb
     have hcur := hcur.trans (hb.mono hcur.size)
     have hg1 := hg1.below hb hg1.lt
     clear hb
     refine ⟨hcur, ?_⟩
     simp only [Act.put, List.setIfInBounds_toArray, List.set_cons_zero, List.set_cons_succ]
     obtain ⟨g2, eg2⟩ : ∃ g, g = U6.heap.size := ⟨_, rfl⟩
     obtain ⟨U7, eU7⟩ : ∃ W, W = U6.alloc (.cells (c3 ++ c4) 38) := ⟨_, rfl⟩
     have hb : Below U6.heap.size U6 U7 := by rw [eU7]; exact (Below.refl _ _).alloc (Nat.le_refl _) _
     have hg2 : Lies U7 g2 (c3 ++ c4) 38 := by rw [eU7, eg2]; exact Lies.new _ _ _
     have hrun : (Instr.buildSlice 22 2 #[(0, .agg c3), (1, .agg c4)]).run Tryz.prog U6 = .ok (.slice (some ⟨g2, 0, none⟩) 2 2) U7 := by rw [eU7, eg2]; exact hq2.out _
     clear eU7 eg2
     refine held_one (i := 15) (by kernel_rfl) _ rfl (wpOp_valG rfl (by rfl) 83 rfl (v := .slice (some ⟨g2, 0, none⟩) 2 2) (w' := U7) (by unfold execOp; simp [go_sem, hrun]) ?_)
     have hloc := chB hloc hb
     have hcur := hcur.trans (hb.mono hcur.size)
     have hg1 := hg1.below hb hg1.lt
     clear hb hrun
     refine ⟨hcur, ?_⟩
     simp only [Act.put, List.setIfInBounds_toArray, List.set_cons_zero, List.set_cons_succ]
     refine held_one (i := 16) (by kernel_rfl) _ rfl (wpOp_callG rfl (by rfl) 84 rfl 46 #[.int .i64 0, .slice (some ⟨g2, 0, none⟩) 2 2] (by unfold execOp; simp [go_sem]) _ (ret_gro (HOF.out U7 _ _ _ _)) ?_)
     rintro _ U8 ⟨rfl, hb⟩
     have hloc := chB hloc hb
     have hcur := hcur.trans (hb.mono hcur.size)
     have hg1 := hg1.below hb hg1.lt
     have hg2 := hg2.below hb hg2.lt
     clear hb
     refine ⟨hcur, ?_⟩
     simp only [Act.put, List.setIfInBounds_toArray, List.set_cons_zero, List.set_cons_succ]
     refine held_one (i := 21) (by kernel_rfl) _ rfl (wpOp_callG rfl (by rfl) 89 rfl 47 #[.int .u8 200, .string tv, .int .i64 2] (by unfold execOp; simp [go_sem]) _ (ret_gro (K5.out U8)) ?_)
     rintro _ U9 ⟨rfl, hb⟩
     have hloc := chB hloc hb
     have hcur := hcur.trans (hb.mono hcur.size)
     have hg1 := hg1.below hb hg1.lt
     have hg2 := hg2.below hb hg2.lt
     clear hb
     refine ⟨hcur, ?_⟩
     simp only [Act.put, List.setIfInBounds_toArray, List.set_cons_zero, List.set_cons_succ]
     refine held_one (i := 22) (by kernel_rfl) _ rfl (wpOp_callG rfl (by rfl) 90 rfl 47 #[.int .u8 100, .string ⟨#[122]⟩, .int .i64 2] (by unfold execOp; simp [go_sem]) _ (ret_gro (K6.out U9)) ?_)
     rintro _ U10 ⟨rfl, hb⟩
     have hloc := chB hloc hb
     have hcur := hcur.trans (hb.mono hcur.size)
     have hg1 := hg1.below hb hg1.lt
     have hg2 := hg2.below hb hg2.lt
     clear hb
     refine ⟨hcur, ?_⟩
     simp only [Act.put, List.setIfInBounds_toArray, List.set_cons_zero, List.set_cons_succ]
     obtain ⟨g3, eg3⟩ : ∃ g, g = U10.heap.size := ⟨_, rfl⟩
     obtain ⟨U11, eU11⟩ : ∃ W, W = U10.alloc (.cells (c5 ++ c6) 38) := ⟨_, rfl⟩
     have hb : Below U10.heap.size U10 U11 := by rw [eU11]; exact (Below.refl _ _).alloc (Nat.le_refl _) _
     have hg3 : Lies U11 g3 (c5 ++ c6) 38 := by rw [eU11, eg3]; exact Lies.new _ _ _
     have hrun : (Instr.buildSlice 22 2 #[(0, .agg c5), (1, .agg c6)]).run Tryz.prog U10 = .ok (.slice (some ⟨g3, 0, none⟩) 2 2) U11 := by rw [eU11, eg3]; exact hq3.out _
     clear eU11 eg3
     refine held_one (i := 23) (by kernel_rfl) _ rfl (wpOp_valG rfl (by rfl) 91 rfl (v := .slice (some ⟨g3, 0, none⟩) 2 2) (w' := U11) (by unfold execOp; simp [go_sem, hrun]) ?_)
     have hloc := chB hloc hb
     have hcur := hcur.trans (hb.mono hcur.size)
     have hg1 := hg1.below hb hg1.lt
     have hg2 := hg2.below hb hg2.lt
     clear hb hrun
     refine ⟨hcur, ?_⟩
     simp only [Act.put, List.setIfInBounds_toArray, List.set_cons_zero, List.set_cons_succ]
     refine held_one (i := 24) (by kernel_rfl) _ rfl (wpOp_callG rfl (by rfl) 92 rfl 46 #[.int .i64 0, .slice (some ⟨g3, 0, none⟩) 2 2] (by unfold execOp; simp [go_sem]) _ (ret_gro (HOF.out U11 _ _ _ _)) ?_)
     rintro _ U12 ⟨rfl, hb⟩
     have hloc := chB hloc hb
     have hcur := hcur.trans (hb.mono hcur.size)
     have hg1 := hg1.below hb hg1.lt
     have hg2 := hg2.below hb hg2.lt
     have hg3 := hg3.below hb hg3.lt
     clear hb
     refine ⟨hcur, ?_⟩
     simp only [Act.put, List.setIfInBounds_toArray, List.set_cons_zero, List.set_cons_succ]
     have hnew := new11 HT.out HA.out.1 HA.out.2.1 HA.out.2.2.1 HA.out.2.2.2.1 HA.out.2.2.2.2.1 HA.out.2.2.2.2.2 hg1 hg2 hg3
     obtain ⟨g4, eg4⟩ : ∃ g, g = U12.heap.size := ⟨_, rfl⟩
     obtain ⟨U13, eU13⟩ : ∃ W, W = U12.alloc (.cells (#[.int .i64 0, .slice (some ⟨g1, 0, none⟩) 2 2, .int .i64 0, .slice (some ⟨g2, 0, none⟩) 2 2, .int .i64 0, .slice (some ⟨g3, 0, none⟩) 2 2]) 24) := ⟨_, rfl⟩
     have hb : Below U12.heap.size U12 U13 := by rw [eU13]; exact (Below.refl _ _).alloc (Nat.le_refl _) _
     have hg4 : Lies U13 g4 (#[.int .i64 0, .slice (some ⟨g1, 0, none⟩) 2 2, .int .i64 0, .slice (some ⟨g2, 0, none⟩) 2 2, .int .i64 0, .slice (some ⟨g3, 0, none⟩) 2 2]) 24 := by rw [eU13, eg4]; exact Lies.new _ _ _
     have hrun : (Instr.buildSlice 28 3 #[(0, .agg #[.int .i64 0, .slice (some ⟨g1, 0, none⟩) 2 2]), (1, .agg #[.int .i64 0, .slice (some ⟨g2, 0, none⟩) 2 2]), (2, .agg #[.int .i64 0, .slice (some ⟨g3, 0, none⟩) 2 2])]).run Tryz.prog U12 = .ok (.slice (some ⟨g4, 0, none⟩) 3 3) U13 := by rw [eU13, eg4]; exact run_values3 _ _ _ _ _ _ _
     clear eU13 eg4
     refine held_one (i := 25) (by kernel_rfl) _ rfl (wpOp_valG rfl (by rfl) 93 rfl (v := .slice (some ⟨g4, 0, none⟩) 3 3) (w' := U13) (by unfold execOp; simp [go_sem, hrun]) ?_)
     have hloc := chB hloc hb
     have hcur := hcur.trans (hb.mono hcur.size)
     have hg1 := hg1.below hb hg1.lt
     have hg2 := hg2.below hb hg2.lt
     have hg3 := hg3.below hb hg3.lt
     have hnew := fun v hv => (hnew v hv).below hb; clear hb hrun
     refine ⟨hcur, ?_⟩
     simp only [Act.put, List.setIfInBounds_toArray, List.set_cons_zero, List.set_cons_succ]
     have hL := HL.out.below hloc
     have hsrc : SrcV U13 (.slice (some ⟨g4, 0, none⟩) 3 3) [(⟨0, some ⟨g1, 0, none⟩, [aX 1, aT 1 t 1], 2⟩ : Va), ⟨0, some ⟨g2, 0, none⟩, [aT 1 t 9223372036854775807, aT 2 [] 1], 2⟩, ⟨0, some ⟨g3, 0, none⟩, [aT 200 t 2, aT 100 [122] 2], 2⟩] := lies_srcV hg4 (by rfl) rfl (by decide)
     obtain ⟨v9, w9, hrun, hown, hgr⟩ := append_V_runZ (.tmp 68) (.tmp 93) W0.heap.size sv _ vs _ hL.own hsrc (by have := HV.out.1; show vs.length + 3 ≤ 1000000; omega) hcur.size
     have hL9 := hL.more hnew hown hgr
     have hb9 : Below W0.heap.size W0 w9 := hcur.grown hgr hcur.size (fun j hj => (hL.own.lt j hj).1)
     refine held_one (i := 26) (by kernel_rfl) _ rfl (wpOp_valG rfl (by rfl) 94 rfl (v := v9) (w' := w9) (hrun _ _ rfl rfl rfl) ⟨hb9, ?_⟩)
     simp only [Act.put, List.setIfInBounds_toArray, List.set_cons_zero, List.set_cons_succ]
     refine held_one (i := 27) (by kernel_rfl) _ rfl (wpOp_valG rfl (by rfl) 3 rfl (v := v9) (w' := w9) (by unfold execOp; simp [go_sem]) ⟨hb9, ?_⟩)
     simp only [Act.put, List.setIfInBounds_toArray, List.set_cons_zero, List.set_cons_succ]
     refine held_done (by kernel_rfl) ?_
     have H9 := Lib.hid (And.intro hL9 hb9)
     clear hL9 hb9 hgr hown hrun hsrc hL hnew hg1 hg2 hg3 hg4 hloc hcur
     go_wp2_with fail
     refine ⟨⟨_, k + 1, _, rfl, ?_, by go_num, ?_, H9.out.1, H9.out.2⟩, ?_⟩
     ·
      have := HK.out.2; omega
     ·
      rw [List.length_append, HK.out.1]; show 28 + 3 * k + 3 = 28 + 3 * (k + 1); omega
     ·
      have := HK.out.2; simp [intOf]; omega
    ·
     have q1 : ¬ (k : Int) < 6 := by omega
     obtain rfl : k = 6 := by omega
     have hlen : vs.length = 46 := hlen
     have q2 : ¬ ((6 : Nat) : Int) < 6 := by omega
     obtain ⟨WL, hWL⟩ : ∃ W, W = wr := ⟨_, rfl⟩
     subst hWL
     obtain ⟨gl, cl, hsl, hncl, hclm, hgl, hrow⟩ := hl.form (by omega) (by rw [hlen]; decide)
     subst hsl
     obtain ⟨gl', ol, hpl, -, hhas⟩ := hrow.2 (by omega)
     cases hpl
     obtain ⟨N, hN⟩ : ∃ N, N = vs.length := ⟨_, rfl⟩
     rw [← hN] at hlen hncl ⊢
     have n0 : (0 : Int) < (N : Int) := by omega
     have n1 : (N : Int) ≤ 46 := by omega
     have HV : Hid (∀ V, Below WL.heap.size WL V → ∀ (i : Nat) v, vs[i]? = some v → V.cell? ⟨gl, i * 2, none⟩ = some (.int .i64 v.coin) ∧ V.cell? ⟨gl, i * 2 + 1, none⟩ = some (.slice v.pa v.l.length v.c) ∧ VaOk V v ∧ Room v) := Lib.hid fun V hV i v hi => by
      have h1 := hhas.below hV hgl (Nat.le_refl _) i v hi
      rw [Nat.zero_add] at h1
      exact ⟨h1.1 0 (.int .i64 v.coin) rfl, h1.1 1 (.slice v.pa v.l.length v.c) rfl, h1.2, (hl.each v (List.mem_of_getElem? hi)).room⟩
     have HW := Lib.hid (And.intro hrow (And.intro hb (And.intro hN (And.intro hlen (And.intro hncl hclm)))))
     clear hrow hb hlen hncl hclm hhas hl hgl hk hlt q0 q1 hN
     go_wp2_with fail
     go_loopw [6] (fun i W => ∃ k : Nat, k ≤ N ∧ i = .int .i64 k ∧ Below WL.heap.size WL W) (fun i _ => N - (intOf i).toNat)
     case atStart => exact ⟨0, Nat.zero_le _, rfl, Below.refl _ _⟩
     case round =>
      obtain ⟨i, hi, rfl, hb⟩ := hrel
      have i0 : (0 : Int) ≤ (i : Int) := by omega
      by_cases hlt : i < N
      ·
       as_aux_lemma =>
       have i1 : (i : Int) < (N : Int) := by omega
       have HB := Lib.hid (And.intro hb hlt)
       clear hb hlt hi
       go_wp2_with fail
       go_loopw [7] (fun jv W => ∃ j : Nat, j ≤ N ∧ jv = .int .i64 j ∧ Below WL.heap.size WL W) (fun jv _ => N - (intOf jv).toNat)
       case atStart => exact ⟨0, Nat.zero_le _, rfl, HB.out.1⟩
       case round =>
        obtain ⟨j, hj, rfl, hb⟩ := hrel
        have j0 : (0 : Int) ≤ (j : Int) := by omega
        by_cases hjt : j < N
        ·
         as_aux_lemma =>
         have j1 : (j : Int) < (N : Int) := by omega
         obtain ⟨m7, h7⟩ : ∃ m, m = (i + j) % 7 := ⟨_, rfl⟩
         obtain ⟨m6, h6⟩ : ∃ m, m = (i + j) % 6 := ⟨_, rfl⟩
         obtain ⟨pr, hpr⟩ : ∃ m, m = i * j := ⟨_, rfl⟩
         obtain ⟨mN, hmN⟩ : ∃ m, m = pr % N := ⟨_, rfl⟩
         obtain ⟨pN, hpN⟩ : ∃ m, m = (i + j) % N := ⟨_, rfl⟩
         have e7 : ((i : Int) + (j : Int)) % 7 = (m7 : Int) := by omega
         have e6 : ((i : Int) + (j : Int)) % 6 = (m6 : Int) := by omega
         have epr : IntKind.i64.wrap ((i : Int) * (j : Int)) = (pr : Int) := by
          have h1 : pr ≤ 46 * 46 := by rw [hpr]; exact Nat.mul_le_mul (by omega) (by omega)
          have h2 : (i : Int) * (j : Int) = (pr : Int) := by rw [hpr]; simp
          rw [h2, IntKind.wrap_i64]; omega
         have emN : (pr : Int) % (N : Int) = (mN : Int) := by rw [hmN]; simp
         have epN : ((i : Int) + (j : Int)) % (N : Int) = (pN : Int) := by rw [hpN]; simp
         have l7 : m7 < 7 := by omega
         have l6 : m6 < 6 := by omega
         have lmN : mN < N := by rw [hmN]; exact Nat.mod_lt _ (by omega)
         have lpN : pN < N := by rw [hpN]; exact Nat.mod_lt _ (by omega)
         have b7 : (m7 : Int) < 7 := by omega
         have b6 : (m6 : Int) < 6 := by omega
         have bm : (mN : Int) < (N : Int) := by omega
         have bp : (pN : Int) < (N : Int) := by omega
         obtain ⟨x, hx⟩ : ∃ x, nL[m7]? = some x := ⟨nL[m7]'l7, List.getElem?_eq_getElem _⟩
         obtain ⟨t, ht⟩ : ∃ t, sL[m6]? = some t := ⟨sL[m6]'l6, List.getElem?_eq_getElem _⟩
         have hvN := HW.out.2.2.1
         obtain ⟨va, hva⟩ : ∃ v, vs[i]? = some v := ⟨vs[i]'(by omega), List.getElem?_eq_getElem _⟩
         obtain ⟨vb, hvb⟩ : ∃ v, vs[j]? = some v := ⟨vs[j]'(by omega), List.getElem?_eq_getElem _⟩
         obtain ⟨vm, hvm⟩ : ∃ v, vs[mN]? = some v := ⟨vs[mN]'(by omega), List.getElem?_eq_getElem _⟩
         obtain ⟨vp, hvp⟩ : ∃ v, vs[pN]? = some v := ⟨vs[pN]'(by omega), List.getElem?_eq_getElem _⟩
         have HD : Hid (∀ V, Below WL.heap.size WL V → V.cell? ⟨bN, m7, none⟩ = some (.int .i64 x) ∧ V.cell? ⟨bS, m6, none⟩ = some (.string (txt t))) := Lib.hid fun V hV => ⟨HN.out V (chB HW.out.2.1 hV) m7 x hx, HS.out V (chB HW.out.2.1 hV) m6 t ht⟩
         have HE : Hid (∀ V, Below WL.heap.size WL V → (V.cell? ⟨gl, i * 2, none⟩ = some (.int .i64 va.coin) ∧ V.cell? ⟨gl, i * 2 + 1, none⟩ = some (.slice va.pa va.l.length va.c)) ∧ (V.cell? ⟨gl, j * 2, none⟩ = some (.int .i64 vb.coin) ∧ V.cell? ⟨gl, j * 2 + 1, none⟩ = some (.slice vb.pa vb.l.length vb.c)) ∧ V.cell? ⟨gl, mN * 2 + 1, none⟩ = some (.slice vm.pa vm.l.length vm.c) ∧ (V.cell? ⟨gl, pN * 2, none⟩ = some (.int .i64 vp.coin) ∧ V.cell? ⟨gl, pN * 2 + 1, none⟩ = some (.slice vp.pa vp.l.length vp.c))) := Lib.hid fun V hV => by
          have h1 := HV.out V hV i va hva
          have h2 := HV.out V hV j vb hvb
          have h3 := HV.out V hV mN vm hvm
          have h4 := HV.out V hV pN vp hvp
          exact ⟨⟨h1.1, h1.2.1⟩, ⟨h2.1, h2.2.1⟩, h3.2.1, h4.1, h4.2.1⟩
         have HO : Hid (∀ V, Below WL.heap.size WL V → (VaOk V va ∧ Room va) ∧ (VaOk V vb ∧ Room vb) ∧ (VaOk V vm ∧ Room vm) ∧ (VaOk V vp ∧ Room vp)) := Lib.hid fun V hV => ⟨(HV.out V hV i va hva).2.2, (HV.out V hV j vb hvb).2.2, (HV.out V hV mN vm hvm).2.2, (HV.out V hV pN vp hvp).2.2⟩
         have HR : Hid (∀ V, Below WL.heap.size WL V → RowV V (some ⟨gl, i * 2, none⟩) [va]) := Lib.hid fun V hV => by
          have h := (HW.out.1.below hV (Nat.le_refl _)).part hva
          rwa [Nat.zero_add] at h
         have HX := Lib.hid (And.intro (nL_ok x (List.mem_of_getElem? hx)) (sL_ok t (List.mem_of_getElem? ht)))
         obtain ⟨hv, hhv⟩ : ∃ v, v = B8 (hash1 1) := ⟨_, rfl⟩
         have hbld : ∀ W, (Instr.build 26 #[(0, .int .u8 1)]).run Tryz.prog W = .ok (.agg hv) W := fun W => by rw [hhv]; exact run_build W 26 _ _ (built_hash1 1)
         have HH := Lib.hid hhv
         have HB := Lib.hid (And.intro hb (And.intro hjt (show i < N from HB.out.2)))
         have hcur := HD.out wr hb
         have hcel := HE.out wr hb
         obtain ⟨cN, cS⟩ := hcur
         obtain ⟨⟨a0, a1⟩, ⟨d0, d1⟩, -, -⟩ := hcel
         clear hb hjt hj hx ht hva hvb hvm hvp hvN l7 l6 lmN lpN h7 h6 hpr hmN hpN hhv
         have ht := fun U (hU : Below wr.heap.size wr U) => tells_at U va vb (hash1 1) t (HO.out U (chB HB.out.1 hU)).1.1 (HO.out U (chB HB.out.1 hU)).2.1.1 (HO.out U (chB HB.out.1 hU)).1.2 (HO.out U (chB HB.out.1 hU)).2.1.2 (hash1_len 1) HX.out.2
         simp only [← HH.out] at ht
         have k1 := fun U (hU : Below wr.heap.size wr U) => (ht U hU).mono fun e w' (h : e = .returned (.bool true) ∧ Below U.heap.size U w') => (⟨h.1, chB hU h.2⟩ : e = .returned (.bool true) ∧ Below wr.heap.size wr w')
         have k2 := fun U (hU : Below wr.heap.size wr U) => (sums_two U va vb vm x (HO.out U (chB HB.out.1 hU)).1.1 (HO.out U (chB HB.out.1 hU)).2.1.1 (HO.out U (chB HB.out.1 hU)).2.2.1.1 (HO.out U (chB HB.out.1 hU)).1.2 (HO.out U (chB HB.out.1 hU)).2.1.2 (HO.out U (chB HB.out.1 hU)).2.2.1.2 HX.out.1.1 HX.out.1.2).mono fun e w' (h : e = .returned (.bool true) ∧ Below U.heap.size U w') => (⟨h.1, chB hU h.2⟩ : e = .returned (.bool true) ∧ Below wr.heap.size wr w')
         have k3 := fun U (hU : Below wr.heap.size wr U) => (sums_two' U va vb vm x (HO.out U (chB HB.out.1 hU)).1.1 (HO.out U (chB HB.out.1 hU)).2.1.1 (HO.out U (chB HB.out.1 hU)).2.2.1.1 (HO.out U (chB HB.out.1 hU)).1.2 (HO.out U (chB HB.out.1 hU)).2.1.2 (HO.out U (chB HB.out.1 hU)).2.2.1.2 HX.out.1.1 HX.out.1.2).mono fun e w' (h : e = .returned (.bool true) ∧ Below U.heap.size U w') => (⟨h.1, chB hU h.2⟩ : e = .returned (.bool true) ∧ Below wr.heap.size wr w')
         have k4 := fun U (hU : Below wr.heap.size wr U) => (sums_three U va vb vp va (some ⟨gl, i * 2, none⟩) (cl - i) x (HO.out U (chB HB.out.1 hU)).1.1 (HO.out U (chB HB.out.1 hU)).2.1.1 (HO.out U (chB HB.out.1 hU)).2.2.2.1 (HR.out U (chB HB.out.1 hU)) (HO.out U (chB HB.out.1 hU)).1.2 (HO.out U (chB HB.out.1 hU)).2.1.2 (HO.out U (chB HB.out.1 hU)).2.2.2.2 (HO.out U (chB HB.out.1 hU)).1.2 (fun e => by cases e) HX.out.1.1 HX.out.1.2).mono fun e w' (h : e = .returned (.bool true) ∧ Below U.heap.size U w') => (⟨h.1, chB hU h.2⟩ : e = .returned (.bool true) ∧ Below wr.heap.size wr w')
         have K1 := Lib.hid k1
         have K2 := Lib.hid k2
         have K3 := Lib.hid k3
         have K4 := Lib.hid k4
         have HAL : Hid (∀ U o, Below wr.heap.size wr U → Below wr.heap.size wr (U.alloc o)) := Lib.hid fun U o hU => hU.alloc hU.size o
         have hq2 := run_slice2
         have hq3 := run_values3
         have hsl : ∀ W, (Instr.slice 28 (.slice (some ⟨gl, 0, none⟩) N cl) (some (.int .i64 (i : Int))) (some (.int .i64 ((i : Int) + 1))) none).run Tryz.prog W = .ok (.slice (some ⟨gl, i * 2, none⟩) 1 (cl - i)) W := fun W => by
          have hncl := HW.out.2.2.2.2.1
          have hit := HB.out.2.2
          exact slice_one W gl i N cl hit hncl
         have hd0 : Below wr.heap.size wr wr.drew := (Below.refl _ _).drew
         clear ht k1 k2 k3 k4
         go_upto_region 19 with fail
         clear cN
         go_cut [196] from 325 (fun v W => v = .bool false ∧ Below wr.heap.size wr W)
         case first =>
          as_aux_lemma =>
           have HSS : Hid (∀ V, Below wr.heap.size wr V → V.cell? ⟨bS, m6, none⟩ = some (.string (txt t)) ∧ V.cell? ⟨gl, i * 2, none⟩ = some (.int .i64 va.coin) ∧ V.cell? ⟨gl, i * 2 + 1, none⟩ = some (.slice va.pa va.l.length va.c) ∧ V.cell? ⟨gl, j * 2, none⟩ = some (.int .i64 vb.coin) ∧ V.cell? ⟨gl, j * 2 + 1, none⟩ = some (.slice vb.pa vb.l.length vb.c) ∧ V.cell? ⟨gl, mN * 2 + 1, none⟩ = some (.slice vm.pa vm.l.length vm.c) ∧ V.cell? ⟨gl, pN * 2, none⟩ = some (.int .i64 vp.coin) ∧ V.cell? ⟨gl, pN * 2 + 1, none⟩ = some (.slice vp.pa vp.l.length vp.c)) := Lib.hid fun V hV => by
            have h1 := HE.out V (chB HB.out.1 hV)
            exact ⟨(HD.out V (chB HB.out.1 hV)).2, h1.1.1, h1.1.2, h1.2.1.1, h1.2.1.2, h1.2.2.1, h1.2.2.2.1, h1.2.2.2.2⟩
           have ij0 : (0 : Int) ≤ (i : Int) + (j : Int) := by omega
           have wij : IntKind.i64.wrap ((i : Int) + (j : Int)) = (i : Int) + (j : Int) := by rw [IntKind.wrap_i64]; omega
           have t6 : ((i : Int) + (j : Int)).tmod 6 = (m6 : Int) := by rw [Int.tmod_eq_emod_of_nonneg ij0]; exact e6
           have tN : ((i : Int) + (j : Int)).tmod (N : Int) = (pN : Int) := by rw [Int.tmod_eq_emod_of_nonneg ij0]; exact epN
           have tp : (pr : Int).tmod (N : Int) = (mN : Int) := by rw [Int.tmod_eq_emod_of_nonneg (by omega)]; exact emN
           have w6 : IntKind.i64.wrap (m6 : Int) = (m6 : Int) := by rw [IntKind.wrap_i64]; omega
           have wN : IntKind.i64.wrap (pN : Int) = (pN : Int) := by rw [IntKind.wrap_i64]; omega
           have wp : IntKind.i64.wrap (mN : Int) = (mN : Int) := by rw [IntKind.wrap_i64]; omega
           have wi1 : IntKind.i64.wrap ((i : Int) + 1) = (i : Int) + 1 := by rw [IntKind.wrap_i64]; omega
           have z6 : (0 : Int) ≤ (m6 : Int) := by omega
           have zN : (0 : Int) ≤ (pN : Int) := by omega
           have zm : (0 : Int) ≤ (mN : Int) := by omega
           have nz : ¬ N = 0 := by omega
           have Hwij := Lib.hid wij
           have Ht6 := Lib.hid t6
           have Hz6 := Lib.hid z6
           have Hb6 := Lib.hid b6
           have Hepr := Lib.hid epr
           have Hnz := Lib.hid nz
           have Htp := Lib.hid tp
           have Hzm := Lib.hid zm
           have Hbm := Lib.hid bm
           have HtN := Lib.hid tN
           have HzN := Lib.hid zN
           have Hbp := Lib.hid bp
           have Hwi1 := Lib.hid wi1
           have Hhsl := Lib.hid hsl
           have Hi0 := Lib.hid i0
           have Hi1 := Lib.hid i1
           have Hj0 := Lib.hid j0
           have Hj1 := Lib.hid j1
           have Hhbld := Lib.hid hbld
           clear cS a0 a1 d0 d1 e7 e6 emN epN b7 w6 wN wp ij0 n0 n1 wij t6 z6 b6 epr nz tp zm bm tN zN bp wi1 hsl i0 i1 j0 j1 hbld
           refine wp_region_held (S := Below wr.heap.size wr) (by kernel_rfl) ?_
           change wpAnyH _ _ _ _ _ 81 _ _ (World.drew wr)
           have hcur : Below wr.heap.size wr wr.drew := hd0
           refine tk 0 (.slice (some ⟨gl, 0, none⟩) N cl) 116 rfl rfl hcur ?_
           refine tk 1 (.int .i64 (i : Int)) 117 rfl rfl hcur ?_
           refine tk 2 (.pointer (some ⟨gl, i * 2, none⟩)) 118 rfl rfl hcur ?_ (by intro w' hS'; have i0 := Hi0.out; have i1 := Hi1.out; unfold execOp; simp [go_sem, i0, i1])
           refine tk 3 (.agg #[.int .i64 va.coin, .slice va.pa va.l.length va.c]) 119 rfl rfl hcur ?_ (by intro w' hS'; obtain ⟨x0, x1, x2, x3, x4, x5, x6, x7⟩ := HSS.out w' hS'; unfold execOp; simp [go_sem, x1, x2])
           refine tk 4 (.slice (some ⟨gl, 0, none⟩) N cl) 120 rfl rfl hcur ?_
           refine tk 5 (.int .i64 (j : Int)) 121 rfl rfl hcur ?_
           refine tk 6 (.pointer (some ⟨gl, j * 2, none⟩)) 122 rfl rfl hcur ?_ (by intro w' hS'; have j0 := Hj0.out; have j1 := Hj1.out; unfold execOp; simp [go_sem, j0, j1])
           refine tk 7 (.agg #[.int .i64 vb.coin, .slice vb.pa vb.l.length vb.c]) 123 rfl rfl hcur ?_ (by intro w' hS'; obtain ⟨x0, x1, x2, x3, x4, x5, x6, x7⟩ := HSS.out w' hS'; unfold execOp; simp [go_sem, x3, x4])
           refine tk 8 (.agg hv) 124 rfl rfl hcur ?_ (by intro w' hS'; have hbld := Hhbld.out; unfold execOp; simp [go_sem, hbld])
           refine tk 9 (.slice (some ⟨bS, 0, none⟩) 6 6) 125 rfl rfl hcur ?_
           refine tk 10 (.int .i64 (i : Int)) 126 rfl rfl hcur ?_
           refine tk 11 (.int .i64 (j : Int)) 127 rfl rfl hcur ?_
           refine tk 12 (.int .i64 ((i : Int) + (j : Int))) 128 rfl rfl hcur ?_ (by intro w' hS'; have wij := Hwij.out; unfold execOp; simp [go_sem, wij])
           refine tk 13 (.slice (some ⟨bS, 0, none⟩) 6 6) 129 rfl rfl hcur ?_
           refine tk 14 (.int .i64 6) 130 rfl rfl hcur ?_
           refine tk 15 (.int .i64 (m6 : Int)) 131 rfl rfl hcur ?_ (by intro w' hS'; have t6 := Ht6.out; unfold execOp; simp [go_sem, t6])
           refine tk 16 (.pointer (some ⟨bS, m6, none⟩)) 132 rfl rfl hcur ?_ (by intro w' hS'; have z6 := Hz6.out; have b6 := Hb6.out; unfold execOp; simp [go_sem, z6, b6])
           refine tk 17 (.string (txt t)) 133 rfl rfl hcur ?_ (by intro w' hS'; obtain ⟨x0, x1, x2, x3, x4, x5, x6, x7⟩ := HSS.out w' hS'; unfold execOp; simp [go_sem, x0])
           generalize wr.drew = V0 at hcur ⊢
           refine held_one (i := 18) (by kernel_rfl) _ rfl (wpOp_callG rfl (by rfl) 134 rfl 3 #[.agg #[.int .i64 va.coin, .slice va.pa va.l.length va.c], .agg #[.int .i64 vb.coin, .slice vb.pa vb.l.length vb.c], .agg hv, .string (txt t)] (by unfold execOp; simp [go_sem]) _ (ret_gro (K1.out V0 hcur)) ?_)
           rintro _ U1 ⟨rfl, hn⟩
           clear hcur
           have hcur := hn
           clear hn
           refine ⟨hcur, ?_⟩
           simp only [Act.put, List.setIfInBounds_toArray, List.set_cons_zero, List.set_cons_succ]
           refine tk 19 (.bool false) 135 rfl rfl hcur ?_
           refine tk 20 (.bool false) 136 rfl rfl hcur ?_
           refine tk 21 (.slice (some ⟨gl, 0, none⟩) N cl) 137 rfl rfl hcur ?_
           refine tk 22 (.int .i64 (i : Int)) 138 rfl rfl hcur ?_
           refine tk 23 (.pointer (some ⟨gl, i * 2, none⟩)) 139 rfl rfl hcur ?_ (by intro w' hS'; have i0 := Hi0.out; have i1 := Hi1.out; unfold execOp; simp [go_sem, i0, i1])
           refine tk 24 (.agg #[.int .i64 va.coin, .slice va.pa va.l.length va.c]) 140 rfl rfl hcur ?_ (by intro w' hS'; obtain ⟨x0, x1, x2, x3, x4, x5, x6, x7⟩ := HSS.out w' hS'; unfold execOp; simp [go_sem, x1, x2])
           refine tk 25 (.slice (some ⟨gl, 0, none⟩) N cl) 141 rfl rfl hcur ?_
           refine tk 26 (.int .i64 (j : Int)) 142 rfl rfl hcur ?_
           refine tk 27 (.pointer (some ⟨gl, j * 2, none⟩)) 143 rfl rfl hcur ?_ (by intro w' hS'; have j0 := Hj0.out; have j1 := Hj1.out; unfold execOp; simp [go_sem, j0, j1])
           refine tk 28 (.agg #[.int .i64 vb.coin, .slice vb.pa vb.l.length vb.c]) 144 rfl rfl hcur ?_ (by intro w' hS'; obtain ⟨x0, x1, x2, x3, x4, x5, x6, x7⟩ := HSS.out w' hS'; unfold execOp; simp [go_sem, x3, x4])
           refine tk 30 (.slice (some ⟨gl, 0, none⟩) N cl) 146 rfl rfl hcur ?_
           refine tk 31 (.int .i64 (i : Int)) 147 rfl rfl hcur ?_
           refine tk 32 (.int .i64 (j : Int)) 148 rfl rfl hcur ?_
           refine tk 33 (.int .i64 (pr : Int)) 149 rfl rfl hcur ?_ (by intro w' hS'; have epr := Hepr.out; unfold execOp; simp [go_sem, epr])
           refine tk 34 (.slice (some ⟨gl, 0, none⟩) N cl) 150 rfl rfl hcur ?_
           refine tk 35 (.int .i64 (N : Int)) 151 rfl rfl hcur ?_
           refine tk 36 (.int .i64 (mN : Int)) 152 rfl rfl hcur ?_ (by intro w' hS'; have nz := Hnz.out; have tp := Htp.out; unfold execOp; simp [go_sem, nz, tp])
           refine tk 37 (.pointer (some ⟨gl, mN * 2, none⟩)) 153 rfl rfl hcur ?_ (by intro w' hS'; have zm := Hzm.out; have bm := Hbm.out; unfold execOp; simp [go_sem, zm, bm])
           refine tk 38 (.pointer (some ⟨gl, mN * 2 + 1, none⟩)) 154 rfl rfl hcur ?_
           refine tk 39 (.slice vm.pa vm.l.length vm.c) 155 rfl rfl hcur ?_ (by intro w' hS'; obtain ⟨x0, x1, x2, x3, x4, x5, x6, x7⟩ := HSS.out w' hS'; unfold execOp; simp [go_sem, x5])
           refine tk 40 (.slice (some ⟨gl, 0, none⟩) N cl) 156 rfl rfl hcur ?_
           refine tk 41 (.int .i64 (j : Int)) 157 rfl rfl hcur ?_
           refine tk 42 (.pointer (some ⟨gl, j * 2, none⟩)) 158 rfl rfl hcur ?_ (by intro w' hS'; have j0 := Hj0.out; have j1 := Hj1.out; unfold execOp; simp [go_sem, j0, j1])
           refine tk 43 (.agg #[.int .i64 vb.coin, .slice vb.pa vb.l.length vb.c]) 159 rfl rfl hcur ?_ (by intro w' hS'; obtain ⟨x0, x1, x2, x3, x4, x5, x6, x7⟩ := HSS.out w' hS'; unfold execOp; simp [go_sem, x3, x4])
           refine tk 44 (.slice (some ⟨gl, 0, none⟩) N cl) 160 rfl rfl hcur ?_
           refine tk 45 (.int .i64 (i : Int)) 161 rfl rfl hcur ?_
           refine tk 46 (.pointer (some ⟨gl, i * 2, none⟩)) 162 rfl rfl hcur ?_ (by intro w' hS'; have i0 := Hi0.out; have i1 := Hi1.out; unfold execOp; simp [go_sem, i0, i1])
           refine tk 47 (.agg #[.int .i64 va.coin, .slice va.pa va.l.length va.c]) 163 rfl rfl hcur ?_ (by intro w' hS'; obtain ⟨x0, x1, x2, x3, x4, x5, x6, x7⟩ := HSS.out w' hS'; unfold execOp; simp [go_sem, x1, x2])
           refine tk 49 (.int .i64 x) 165 rfl rfl hcur ?_
           have r1 : ∀ W, (Instr.buildSlice 28 2 #[(0, .agg #[.int .i64 va.coin, .slice va.pa va.l.length va.c]), (1, .agg #[.int .i64 vb.coin, .slice vb.pa vb.l.length vb.c])]).run Tryz.prog W = .ok (.slice (some ⟨W.heap.size, 0, none⟩) 2 2) (W.alloc (.cells #[.int .i64 va.coin, .slice va.pa va.l.length va.c, .int .i64 vb.coin, .slice vb.pa vb.l.length vb.c] 24)) := fun W => run_slice2 W _ _ _ _
           have r2 : ∀ W, (Instr.buildSlice 28 2 #[(0, .agg #[.int .i64 vb.coin, .slice vb.pa vb.l.length vb.c]), (1, .agg #[.int .i64 va.coin, .slice va.pa va.l.length va.c])]).run Tryz.prog W = .ok (.slice (some ⟨W.heap.size, 0, none⟩) 2 2) (W.alloc (.cells #[.int .i64 vb.coin, .slice vb.pa vb.l.length vb.c, .int .i64 va.coin, .slice va.pa va.l.length va.c] 24)) := fun W => run_slice2 W _ _ _ _
           have r1b : (Instr.buildSlice 28 2 #[(0, .agg #[.int .i64 va.coin, .slice va.pa va.l.length va.c]), (1, .agg #[.int .i64 vb.coin, .slice vb.pa vb.l.length vb.c])]).run Tryz.prog (U1.alloc (.cells #[.int .i64 vb.coin, .slice vb.pa vb.l.length vb.c, .int .i64 va.coin, .slice va.pa va.l.length va.c] 24)) = .ok (.slice (some ⟨U1.heap.size + 1, 0, none⟩) 2 2) ((U1.alloc (.cells #[.int .i64 vb.coin, .slice vb.pa vb.l.length vb.c, .int .i64 va.coin, .slice va.pa va.l.length va.c] 24)).alloc (.cells #[.int .i64 va.coin, .slice va.pa va.l.length va.c, .int .i64 vb.coin, .slice vb.pa vb.l.length vb.c] 24)) := by simpa using r1 (U1.alloc (.cells #[.int .i64 vb.coin, .slice vb.pa vb.l.length vb.c, .int .i64 va.coin, .slice va.pa va.l.length va.c] 24))
           have r2b : (Instr.buildSlice 28 2 #[(0, .agg #[.int .i64 vb.coin, .slice vb.pa vb.l.length vb.c]), (1, .agg #[.int .i64 va.coin, .slice va.pa va.l.length va.c])]).run Tryz.prog (U1.alloc (.cells #[.int .i64 va.coin, .slice va.pa va.l.length va.c, .int .i64 vb.coin, .slice vb.pa vb.l.length vb.c] 24)) = .ok (.slice (some ⟨U1.heap.size + 1, 0, none⟩) 2 2) ((U1.alloc (.cells #[.int .i64 va.coin, .slice va.pa va.l.length va.c, .int .i64 vb.coin, .slice vb.pa vb.l.length vb.c] 24)).alloc (.cells #[.int .i64 vb.coin, .slice vb.pa vb.l.length vb.c, .int .i64 va.coin, .slice va.pa va.l.length va.c] 24)) := by simpa using r2 (U1.alloc (.cells #[.int .i64 va.coin, .slice va.pa va.l.length va.c, .int .i64 vb.coin, .slice vb.pa vb.l.length vb.c] 24))
           have hcur1 := hcur
           refine held_both (i := 29) (j := 48) (by kernel_rfl) _ rfl _ rfl ?_ ?_
           ·
            as_aux_lemma =>
             refine wpOp_valG rfl (by rfl) 145 rfl (v := .slice (some ⟨U1.heap.size, 0, none⟩) 2 2) (w' := U1.alloc (.cells #[.int .i64 va.coin, .slice va.pa va.l.length va.c, .int .i64 vb.coin, .slice vb.pa vb.l.length vb.c] 24)) (by unfold execOp; simp [go_sem, r1]) ⟨hcur.alloc hcur.size _, ?_⟩
             simp only [Act.put, List.setIfInBounds_toArray, List.set_cons_zero, List.set_cons_succ]
             have hcur := hcur.alloc hcur.size (.cells #[.int .i64 va.coin, .slice va.pa va.l.length va.c, .int .i64 vb.coin, .slice vb.pa vb.l.length vb.c] 24)
             refine held_one (i := 48) (by kernel_rfl) _ rfl (wpOp_valG rfl (by rfl) 164 rfl (v := .slice (some ⟨U1.heap.size + 1, 0, none⟩) 2 2) (w' := (U1.alloc (.cells #[.int .i64 va.coin, .slice va.pa va.l.length va.c, .int .i64 vb.coin, .slice vb.pa vb.l.length vb.c] 24)).alloc (.cells #[.int .i64 vb.coin, .slice vb.pa vb.l.length vb.c, .int .i64 va.coin, .slice va.pa va.l.length va.c] 24)) (by unfold execOp; simp [go_sem, r2b]) ⟨hcur.alloc hcur.size _, ?_⟩)
             simp only [Act.put, List.setIfInBounds_toArray, List.set_cons_zero, List.set_cons_succ]
             refine held_one (i := 50) (by kernel_rfl) _ rfl (wpOp_callG rfl (by rfl) 166 rfl 4 #[.slice (some ⟨U1.heap.size, 0, none⟩) 2 2, .slice vm.pa vm.l.length vm.c, .slice (some ⟨U1.heap.size + 1, 0, none⟩) 2 2, .int .i64 x] (by unfold execOp; simp [go_sem]) _ (ret_gro (K2.out U1 hcur1)) ?_)
             rintro _ U2 ⟨rfl, hn⟩
             clear hcur
             have hcur := hn
             clear hn
             refine ⟨hcur, ?_⟩
             simp only [Act.put, List.setIfInBounds_toArray, List.set_cons_zero, List.set_cons_succ]
             refine tk 51 (.bool false) 167 rfl rfl hcur ?_
             refine tk 52 (.bool false) 168 rfl rfl hcur ?_
             refine tk 53 (.bool false) 169 rfl rfl hcur ?_
             refine tk 54 (.slice (some ⟨gl, 0, none⟩) N cl) 170 rfl rfl hcur ?_
             refine tk 55 (.int .i64 (i : Int)) 171 rfl rfl hcur ?_
             refine tk 56 (.pointer (some ⟨gl, i * 2, none⟩)) 172 rfl rfl hcur ?_ (by intro w' hS'; have i0 := Hi0.out; have i1 := Hi1.out; unfold execOp; simp [go_sem, i0, i1])
             refine tk 57 (.agg #[.int .i64 va.coin, .slice va.pa va.l.length va.c]) 173 rfl rfl hcur ?_ (by intro w' hS'; obtain ⟨x0, x1, x2, x3, x4, x5, x6, x7⟩ := HSS.out w' hS'; unfold execOp; simp [go_sem, x1, x2])
             refine tk 58 (.slice (some ⟨gl, 0, none⟩) N cl) 174 rfl rfl hcur ?_
             refine tk 59 (.int .i64 (j : Int)) 175 rfl rfl hcur ?_
             refine tk 60 (.pointer (some ⟨gl, j * 2, none⟩)) 176 rfl rfl hcur ?_ (by intro w' hS'; have j0 := Hj0.out; have j1 := Hj1.out; unfold execOp; simp [go_sem, j0, j1])
             refine tk 61 (.agg #[.int .i64 vb.coin, .slice vb.pa vb.l.length vb.c]) 177 rfl rfl hcur ?_ (by intro w' hS'; obtain ⟨x0, x1, x2, x3, x4, x5, x6, x7⟩ := HSS.out w' hS'; unfold execOp; simp [go_sem, x3, x4])
             refine tk 62 (.slice (some ⟨gl, 0, none⟩) N cl) 178 rfl rfl hcur ?_
             refine tk 63 (.int .i64 (i : Int)) 179 rfl rfl hcur ?_
             refine tk 64 (.int .i64 (j : Int)) 180 rfl rfl hcur ?_
             refine tk 65 (.int .i64 ((i : Int) + (j : Int))) 181 rfl rfl hcur ?_ (by intro w' hS'; have wij := Hwij.out; unfold execOp; simp [go_sem, wij])
             refine tk 66 (.slice (some ⟨gl, 0, none⟩) N cl) 182 rfl rfl hcur ?_
             refine tk 67 (.int .i64 (N : Int)) 183 rfl rfl hcur ?_
             refine tk 68 (.int .i64 (pN : Int)) 184 rfl rfl hcur ?_ (by intro w' hS'; have nz := Hnz.out; have tN := HtN.out; unfold execOp; simp [go_sem, nz, tN])
             refine tk 69 (.pointer (some ⟨gl, pN * 2, none⟩)) 185 rfl rfl hcur ?_ (by intro w' hS'; have zN := HzN.out; have bp := Hbp.out; unfold execOp; simp [go_sem, zN, bp])
             refine tk 70 (.agg #[.int .i64 vp.coin, .slice vp.pa vp.l.length vp.c]) 186 rfl rfl hcur ?_ (by intro w' hS'; obtain ⟨x0, x1, x2, x3, x4, x5, x6, x7⟩ := HSS.out w' hS'; unfold execOp; simp [go_sem, x6, x7])
             refine tk 72 (.slice (some ⟨gl, 0, none⟩) N cl) 188 rfl rfl hcur ?_
             refine tk 73 (.int .i64 (i : Int)) 189 rfl rfl hcur ?_
             refine tk 74 (.int .i64 (i : Int)) 190 rfl rfl hcur ?_
             refine tk 75 (.int .i64 ((i : Int) + 1)) 191 rfl rfl hcur ?_ (by intro w' hS'; have wi1 := Hwi1.out; unfold execOp; simp [go_sem, wi1])
             refine tk 76 (.slice (some ⟨gl, i * 2, none⟩) 1 (cl - i)) 192 rfl rfl hcur ?_ (by intro w' hS'; have hsl := Hhsl.out; unfold execOp; simp [go_sem, hsl])
             refine tk 77 (.int .i64 x) 193 rfl rfl hcur ?_
             have r3 : (Instr.buildSlice 28 3 #[(0, .agg #[.int .i64 va.coin, .slice va.pa va.l.length va.c]), (1, .agg #[.int .i64 vb.coin, .slice vb.pa vb.l.length vb.c]), (2, .agg #[.int .i64 vp.coin, .slice vp.pa vp.l.length vp.c])]).run Tryz.prog U2 = .ok (.slice (some ⟨U2.heap.size, 0, none⟩) 3 3) (U2.alloc (.cells #[.int .i64 va.coin, .slice va.pa va.l.length va.c, .int .i64 vb.coin, .slice vb.pa vb.l.length vb.c, .int .i64 vp.coin, .slice vp.pa vp.l.length vp.c] 24)) := hq3 U2 _ _ _ _ _ _
             have hcur2 := hcur
             refine held_one (i := 71) (by kernel_rfl) _ rfl (wpOp_valG rfl (by rfl) 187 rfl (v := .slice (some ⟨U2.heap.size, 0, none⟩) 3 3) (w' := U2.alloc (.cells #[.int .i64 va.coin, .slice va.pa va.l.length va.c, .int .i64 vb.coin, .slice vb.pa vb.l.length vb.c, .int .i64 vp.coin, .slice vp.pa vp.l.length vp.c] 24)) (by unfold execOp; simp [go_sem, r3]) ⟨hcur.alloc hcur.size _, ?_⟩)
             simp only [Act.put, List.setIfInBounds_toArray, List.set_cons_zero, List.set_cons_succ]
             refine held_one (i := 78) (by kernel_rfl) _ rfl (wpOp_callG rfl (by rfl) 194 rfl 4 #[.slice (some ⟨U2.heap.size, 0, none⟩) 3 3, .slice none 0 0, .slice (some ⟨gl, i * 2, none⟩) 1 (cl - i), .int .i64 x] (by unfold execOp; simp [go_sem]) _ (ret_gro (K4.out U2 hcur2)) ?_)
             rintro _ U3 ⟨rfl, hn⟩
             clear hcur
             have hcur := hn
             clear hn
             refine ⟨hcur, ?_⟩
             simp only [Act.put, List.setIfInBounds_toArray, List.set_cons_zero, List.set_cons_succ]
             refine tk 79 (.bool false) 195 rfl rfl hcur ?_
             refine tk 80 (.bool false) 196 rfl rfl hcur ?_
             refine held_done (by kernel_rfl) ?_
             have U3H := Lib.hid hcur
             clear hcur
             go_wp2_with fail
             go_meet
             case rel => exact ⟨rfl, U3H.out⟩
           ·
            as_aux_lemma =>
             refine wpOp_valG rfl (by rfl) 164 rfl (v := .slice (some ⟨U1.heap.size, 0, none⟩) 2 2) (w' := U1.alloc (.cells #[.int .i64 vb.coin, .slice vb.pa vb.l.length vb.c, .int .i64 va.coin, .slice va.pa va.l.length va.c] 24)) (by unfold execOp; simp [go_sem, r2]) ⟨hcur.alloc hcur.size _, ?_⟩
             simp only [Act.put, List.setIfInBounds_toArray, List.set_cons_zero, List.set_cons_succ]
             have hcur := hcur.alloc hcur.size (.cells #[.int .i64 vb.coin, .slice vb.pa vb.l.length vb.c, .int .i64 va.coin, .slice va.pa va.l.length va.c] 24)
             refine held_one (i := 29) (by kernel_rfl) _ rfl (wpOp_valG rfl (by rfl) 145 rfl (v := .slice (some ⟨U1.heap.size + 1, 0, none⟩) 2 2) (w' := (U1.alloc (.cells #[.int .i64 vb.coin, .slice vb.pa vb.l.length vb.c, .int .i64 va.coin, .slice va.pa va.l.length va.c] 24)).alloc (.cells #[.int .i64 va.coin, .slice va.pa va.l.length va.c, .int .i64 vb.coin, .slice vb.pa vb.l.length vb.c] 24)) (by unfold execOp; simp [go_sem, r1b]) ⟨hcur.alloc hcur.size _, ?_⟩)
             simp only [Act.put, List.setIfInBounds_toArray, List.set_cons_zero, List.set_cons_succ]
             refine held_one (i := 50) (by kernel_rfl) _ rfl (wpOp_callG rfl (by rfl) 166 rfl 4 #[.slice (some ⟨U1.heap.size + 1, 0, none⟩) 2 2, .slice vm.pa vm.l.length vm.c, .slice (some ⟨U1.heap.size, 0, none⟩) 2 2, .int .i64 x] (by unfold execOp; simp [go_sem]) _ (ret_gro (K3.out U1 hcur1)) ?_)
             rintro _ U2 ⟨rfl, hn⟩
             clear hcur
             have hcur := hn
             clear hn
             refine ⟨hcur, ?_⟩
             simp only [Act.put, List.setIfInBounds_toArray, List.set_cons_zero, List.set_cons_succ]
             refine tk 51 (.bool false) 167 rfl rfl hcur ?_
             refine tk 52 (.bool false) 168 rfl rfl hcur ?_
             refine tk 53 (.bool false) 169 rfl rfl hcur ?_
             refine tk 54 (.slice (some ⟨gl, 0, none⟩) N cl) 170 rfl rfl hcur ?_
             refine tk 55 (.int .i64 (i : Int)) 171 rfl rfl hcur ?_
             refine tk 56 (.pointer (some ⟨gl, i * 2, none⟩)) 172 rfl rfl hcur ?_ (by intro w' hS'; have i0 := Hi0.out; have i1 := Hi1.out; unfold execOp; simp [go_sem, i0, i1])
             refine tk 57 (.agg #[.int .i64 va.coin, .slice va.pa va.l.length va.c]) 173 rfl rfl hcur ?_ (by intro w' hS'; obtain ⟨x0, x1, x2, x3, x4, x5, x6, x7⟩ := HSS.out w' hS'; unfold execOp; simp [go_sem, x1, x2])
             refine tk 58 (.slice (some ⟨gl, 0, none⟩) N cl) 174 rfl rfl hcur ?_
             refine tk 59 (.int .i64 (j : Int)) 175 rfl rfl hcur ?_
             refine tk 60 (.pointer (some ⟨gl, j * 2, none⟩)) 176 rfl rfl hcur ?_ (by intro w' hS'; have j0 := Hj0.out; have j1 := Hj1.out; unfold execOp; simp [go_sem, j0, j1])
             refine tk 61 (.agg #[.int .i64 vb.coin, .slice vb.pa vb.l.length vb.c]) 177 rfl rfl hcur ?_ (by intro w' hS'; obtain ⟨x0, x1, x2, x3, x4, x5, x6, x7⟩ := HSS.out w' hS'; unfold execOp; simp [go_sem, x3, x4])
             refine tk 62 (.slice (some ⟨gl, 0, none⟩) N cl) 178 rfl rfl hcur ?_
             refine tk 63 (.int .i64 (i : Int)) 179 rfl rfl hcur ?_
             refine tk 64 (.int .i64 (j : Int)) 180 rfl rfl hcur ?_
             refine tk 65 (.int .i64 ((i : Int) + (j : Int))) 181 rfl rfl hcur ?_ (by intro w' hS'; have wij := Hwij.out; unfold execOp; simp [go_sem, wij])
             refine tk 66 (.slice (some ⟨gl, 0, none⟩) N cl) 182 rfl rfl hcur ?_
             refine tk 67 (.int .i64 (N : Int)) 183 rfl rfl hcur ?_
             refine tk 68 (.int .i64 (pN : Int)) 184 rfl rfl hcur ?_ (by intro w' hS'; have nz := Hnz.out; have tN := HtN.out; unfold execOp; simp [go_sem, nz, tN])
             refine tk 69 (.pointer (some ⟨gl, pN * 2, none⟩)) 185 rfl rfl hcur ?_ (by intro w' hS'; have zN := HzN.out; have bp := Hbp.out; unfold execOp; simp [go_sem, zN, bp])
             refine tk 70 (.agg #[.int .i64 vp.coin, .slice vp.pa vp.l.length vp.c]) 186 rfl rfl hcur ?_ (by intro w' hS'; obtain ⟨x0, x1, x2, x3, x4, x5, x6, x7⟩ := HSS.out w' hS'; unfold execOp; simp [go_sem, x6, x7])
             refine tk 72 (.slice (some ⟨gl, 0, none⟩) N cl) 188 rfl rfl hcur ?_
             refine tk 73 (.int .i64 (i : Int)) 189 rfl rfl hcur ?_
             refine tk 74 (.int .i64 (i : Int)) 190 rfl rfl hcur ?_
             refine tk 75 (.int .i64 ((i : Int) + 1)) 191 rfl rfl hcur ?_ (by intro w' hS'; have wi1 := Hwi1.out; unfold execOp; simp [go_sem, wi1])
             refine tk 76 (.slice (some ⟨gl, i * 2, none⟩) 1 (cl - i)) 192 rfl rfl hcur ?_ (by intro w' hS'; have hsl := Hhsl.out; unfold execOp; simp [go_sem, hsl])
             refine tk 77 (.int .i64 x) 193 rfl rfl hcur ?_
             have r3 : (Instr.buildSlice 28 3 #[(0, .agg #[.int .i64 va.coin, .slice va.pa va.l.length va.c]), (1, .agg #[.int .i64 vb.coin, .slice vb.pa vb.l.length vb.c]), (2, .agg #[.int .i64 vp.coin, .slice vp.pa vp.l.length vp.c])]).run Tryz.prog U2 = .ok (.slice (some ⟨U2.heap.size, 0, none⟩) 3 3) (U2.alloc (.cells #[.int .i64 va.coin, .slice va.pa va.l.length va.c, .int .i64 vb.coin, .slice vb.pa vb.l.length vb.c, .int .i64 vp.coin, .slice vp.pa vp.l.length vp.c] 24)) := hq3 U2 _ _ _ _ _ _
             have hcur2 := hcur
             refine held_one (i := 71) (by kernel_rfl) _ rfl (wpOp_valG rfl (by rfl) 187 rfl (v := .slice (some ⟨U2.heap.size, 0, none⟩) 3 3) (w' := U2.alloc (.cells #[.int .i64 va.coin, .slice va.pa va.l.length va.c, .int .i64 vb.coin, .slice vb.pa vb.l.length vb.c, .int .i64 vp.coin, .slice vp.pa vp.l.length vp.c] 24)) (by unfold execOp; simp [go_sem, r3]) ⟨hcur.alloc hcur.size _, ?_⟩)
             simp only [Act.put, List.setIfInBounds_toArray, List.set_cons_zero, List.set_cons_succ]
             refine held_one (i := 78) (by kernel_rfl) _ rfl (wpOp_callG rfl (by rfl) 194 rfl 4 #[.slice (some ⟨U2.heap.size, 0, none⟩) 3 3, .slice none 0 0, .slice (some ⟨gl, i * 2, none⟩) 1 (cl - i), .int .i64 x] (by unfold execOp; simp [go_sem]) _ (ret_gro (K4.out U2 hcur2)) ?_)
             rintro _ U3 ⟨rfl, hn⟩
             clear hcur
             have hcur := hn
             clear hn
             refine ⟨hcur, ?_⟩
             simp only [Act.put, List.setIfInBounds_toArray, List.set_cons_zero, List.set_cons_succ]
             refine tk 79 (.bool false) 195 rfl rfl hcur ?_
             refine tk 80 (.bool false) 196 rfl rfl hcur ?_
             refine held_done (by kernel_rfl) ?_
             have U3H := Lib.hid hcur
             clear hcur
             go_wp2_with fail
             go_meet
             case rel => exact ⟨rfl, U3H.out⟩
         case rest =>
          obtain ⟨rfl, hb8⟩ := hcut
          rename World => v8
          have V8 := Lib.hid (chB HB.out.1 hb8)
          clear hb8 cS hbld a0 a1 d0 d1 K1 K2 K3 K4 HAL hq2 hq3 hsl hd0
          go_wp2_with fail
          refine ⟨⟨j + 1, HB.out.2.1, by go_num, V8.out⟩, ?_⟩
          have := HB.out.2.1
          simp [intOf]; omega
        ·
         as_aux_lemma =>
         have j1 : ¬ (j : Int) < (N : Int) := by omega
         have HE := Lib.hid hb
         clear hb hjt hj
         go_wp2_with fail
         refine ⟨⟨i + 1, HB.out.2, by go_num, HE.out⟩, ?_⟩
         have := HB.out.2
         simp [intOf]; omega
      ·
       have i1 : ¬ (i : Int) < (N : Int) := by omega
       obtain ⟨W5, hW5⟩ : ∃ W, W = wr := ⟨_, rfl⟩
       subst hW5
       have HB := Lib.hid (HW.out.2.1.trans (hb.mono HW.out.2.1.size))
       clear hb hlt hi HW HV
       go_wp2_with fail
       go_loopw [9, 10, 11] (fun r o n W => ∃ (rv ov : Value) (k : Nat) (l m : List As), rv = r ∧ ov = o ∧ k ≤ 32 ∧ n = .int .i64 k ∧ TwoA W5.heap.size W rv ov l m k ∧ Below W5.heap.size W5 W) (fun _ _ n _ => 32 - (intOf n).toNat)
       case atStart => exact ⟨_, _, 0, [], [], rfl, rfl, Nat.zero_le _, rfl, TwoA.start _ _, Below.refl _ _⟩
       case round =>
        obtain ⟨rv, ov, k, l, m, hrv, hov, hk, rfl, htw, hb⟩ := hrel
        subst hrv hov
        have q0 : (0 : Int) ≤ (k : Int) := by omega
        by_cases hlt : k < 32
        ·
         as_aux_lemma =>
         have q1 : (k : Int) < 32 := by omega
         obtain ⟨a, ea0, ea1, hrv, hao, har⟩ := own_va htw.own1 htw.ok1 (by have := htw.len1; omega)
         obtain ⟨b, eb0, eb1, hov, hbo, hbr⟩ := own_va htw.own2 htw.ok2 (by have := htw.len2; omega)
         subst hrv hov
         subst ea1 eb1
         obtain ⟨hv, hhv⟩ : ∃ v, v = B8 (hash1 (UInt8.ofNat k)) := ⟨_, rfl⟩
         have hun : ((UInt8.ofNat k).toNat : Int) = (k : Int) := u8nv (by omega)
         have hbld : ∀ W, (Instr.build 26 #[(0, .int .u8 (k : Int))]).run Tryz.prog W = .ok (.agg hv) W := fun W => by
          rw [hhv, ← hun]; exact run_build W 26 _ _ (built_hash1 _)
         have hcv : IntKind.u8.wrap (k : Int) = (k : Int) := by rw [IntKind.wrap_u8]; omega
         have hk1 : ∀ U, Below wr.heap.size wr U → Calls Tryz.prog 3 #[.agg #[.int .i64 0, .slice a.pa a.l.length a.c], .agg #[.int .i64 0, .slice b.pa b.l.length b.c], .agg hv, .string ⟨#[]⟩] U fun e w' => e = .returned (.bool true) ∧ Below U.heap.size U w' := fun U hU => by
          have h := tells_at U a b (hash1 (UInt8.ofNat k)) [] (hao.below hU (Nat.le_refl _)) (hbo.below hU (Nat.le_refl _)) har hbr (hash1_len _) (by decide)
          rw [ea0, eb0, ← hhv] at h
          exact h
         have hk2 : ∀ U, Below wr.heap.size wr U → Calls Tryz.prog 4 #[.slice (some ⟨U.heap.size, 0, none⟩) 2 2, .slice a.pa a.l.length a.c, .slice none 0 0, .int .i64 0] (U.alloc (.cells #[.int .i64 0, .slice a.pa a.l.length a.c, .int .i64 0, .slice b.pa b.l.length b.c] 24)) fun e w' => e = .returned (.bool true) ∧ Below U.heap.size U w' := fun U hU => by
          have h := sums_rows U a b a (hao.below hU (Nat.le_refl _)) (hbo.below hU (Nat.le_refl _)) (hao.below hU (Nat.le_refl _)) har hbr har
          rw [ea0, eb0] at h
          exact h
         have HK1 := Lib.hid hk1
         have HK2 := Lib.hid hk2
         have HOF := Lib.hid of_at
         have HT := Lib.hid (And.intro htw (And.intro hb hlt))
         have hq2 := run_slice2
         clear hk1 hk2 hhv hun htw hb hlt hk hao hbo har hbr ea0 eb0
         go_wp2_with fail
         refine (HOF.out _ _ _ _ _).mono ?_
         rintro e U1 ⟨rfl, hb1⟩
         have HB1 := Lib.hid hb1
         clear hb1
         go_wp2_with fail
         refine (HOF.out _ _ _ _ _).mono ?_
         rintro e U2 ⟨rfl, hb2⟩
         have HB2 := Lib.hid (chB HB1.out hb2)
         clear hb2 HB1
         go_wp2_with fail
         refine (HK1.out _ HB2.out).mono ?_
         rintro e U3 ⟨rfl, hb3⟩
         have HB3 := Lib.hid (chB HB2.out hb3)
         clear hb3 HB2
         go_wp2_with fail
         refine (HOF.out _ _ _ _ _).mono ?_
         rintro e U4 ⟨rfl, hb4⟩
         have HB4 := Lib.hid (chB HB3.out hb4)
         clear hb4 HB3
         go_wp2_with fail
         refine (HOF.out _ _ _ _ _).mono ?_
         rintro e U5 ⟨rfl, hb5⟩
         have HB5 := Lib.hid (chB HB4.out hb5)
         clear hb5 HB4
         go_wp2_with fail
         refine (HK2.out _ HB5.out).mono ?_
         rintro e U6 ⟨rfl, hb6⟩
         have HB6 := Lib.hid (chB HB5.out hb6)
         have htw6 := HT.out.1.below HB6.out
         have hbW6 := chB HT.out.2.1 HB6.out
         clear hb6 HB5 hbld hcv
         obtain ⟨av, hav⟩ : ∃ v, v = asC (aT (UInt8.ofNat (2 * k)) [] 1) := ⟨_, rfl⟩
         obtain ⟨cv, hcvv⟩ : ∃ v, v = asC (aT (UInt8.ofNat (3 * k)) [] 1) := ⟨_, rfl⟩
         have sa : av.size = 34 := by rw [hav]; exact asC_size _ (hash1_len _)
         have sc : cv.size = 34 := by rw [hcvv]; exact asC_size _ (hash1_len _)
         have ka : ∀ U, Calls Tryz.prog 47 #[.int .u8 (2 * (k : Int)), .string ⟨#[]⟩, .int .i64 1] U fun e w' => e = .returned (.agg av) ∧ Below U.heap.size U w' := fun U => by
          have h := asset_at (b := UInt8.ofNat (2 * k)) (t := []) (x := 1) hav U
          rw [u8nv (by have := HT.out.2.2; omega)] at h
          rw [show (2 * (k : Int)) = ((2 * k : Nat) : Int) by omega]
          exact h
         have kc : k % 2 = 0 → ∀ U, Calls Tryz.prog 47 #[.int .u8 (3 * (k : Int)), .string ⟨#[]⟩, .int .i64 1] U fun e w' => e = .returned (.agg cv) ∧ Below U.heap.size U w' := fun _ U => by
          have h := asset_at (b := UInt8.ofNat (3 * k)) (t := []) (x := 1) hcvv U
          rw [u8nv (by have := HT.out.2.2; omega)] at h
          rw [show (3 * (k : Int)) = ((3 * k : Nat) : Int) by omega]
          exact h
         have hr1 := fun W => run_slice1 (P := Tryz.prog) W 22 38 34 56 av Tryz.underlying22 info54 (by decide) (by decide) sa
         have hr2 := fun W => run_slice1 (P := Tryz.prog) W 22 38 34 56 cv Tryz.underlying22 info54 (by decide) (by decide) sc
         have w2 : IntKind.u8.wrap (2 * (k : Int)) = 2 * (k : Int) := by rw [IntKind.wrap_u8]; omega
         have w3 : IntKind.u8.wrap (3 * (k : Int)) = 3 * (k : Int) := by rw [IntKind.wrap_u8]; omega
         have HTW := Lib.hid (And.intro htw6 hbW6)
         have HA := Lib.hid (And.intro hav (And.intro hcvv (And.intro ka kc)))
         clear hav hcvv sa sc ka kc htw6 hbW6 HK1 HK2 HOF hq2
         go_wp2_with fail
         refine (HA.out.2.2.1 _).mono ?_
         rintro e U7 ⟨rfl, hb7⟩
         have hl8 : Lies (U7.alloc (.cells av 38)) U7.heap.size av 38 := Lies.new _ _ _
         have hb8 : Below U6.heap.size U6 (U7.alloc (.cells av 38)) := hb7.alloc hb7.size _
         have hla : Lies (U7.alloc (.cells av 38)) U7.heap.size (asC (aT (UInt8.ofNat (2 * k)) [] 1)) 38 := by rw [← HA.out.1]; exact hl8
         have H8 := Lib.hid (And.intro (HTW.out.1.below hb8) (And.intro (HTW.out.2.trans (hb8.mono HTW.out.2.size)) hla))
         clear hb7 hb8 hl8 hla
         go_upto_region 28 with (at_builtin; go_must (refine wpList_append_A1 rfl _ _ rfl W5.heap.size _ _ a.l (aT (UInt8.ofNat (2 * k)) [] 1) rfl H8.out.1.own1 rfl H8.out.2.2 (aT_ok (by decide) (by decide) (by decide)) (by have h1 := H8.out.1.len1; have h2 := HT.out.2.2; omega) H8.out.2.1.size ?_; intro v9 W9 hown hgr hat; have htw9 := H8.out.1.first (aT_ok (by decide) (by decide) (by decide)) hown hgr hat; have hb9 := H8.out.2.1.grown hgr H8.out.2.1.size (fun j hj => (H8.out.1.own1.lt j hj).1); have H9 := Lib.hid (And.intro htw9 hb9); clear hown hgr hat htw9 hb9))
         by_cases hev : k % 2 = 0
         ·
          have e0 : (k : Int) % 2 = 0 := by omega
          have HA2 := Lib.hid (HA.out.2.2.2 hev)
          clear hev
          go_wp2_with fail
          refine (HA2.out _).mono ?_
          rintro e U10 ⟨rfl, hb10⟩
          have hl11 : Lies (U10.alloc (.cells cv 38)) U10.heap.size cv 38 := Lies.new _ _ _
          have hb11 : Below W9.heap.size W9 (U10.alloc (.cells cv 38)) := hb10.alloc hb10.size _
          have hla : Lies (U10.alloc (.cells cv 38)) U10.heap.size (asC (aT (UInt8.ofNat (3 * k)) [] 1)) 38 := by rw [← HA.out.2.1]; exact hl11
          have H11 := Lib.hid (And.intro (H9.out.1.below hb11) (And.intro (H9.out.2.trans (hb11.mono H9.out.2.size)) hla))
          clear hb10 hb11 hl11 hla
          go_wp2_with (at_builtin; go_must (refine wpList_append_A1 rfl _ _ rfl W5.heap.size _ _ b.l (aT (UInt8.ofNat (3 * k)) [] 1) rfl H11.out.1.own2 rfl H11.out.2.2 (aT_ok (by decide) (by decide) (by decide)) (by have h1 := HT.out.1.len2; have h2 := HT.out.2.2; omega) H11.out.2.1.size ?_; intro v12 W12 hown hgr hat; have htw12 := H11.out.1.second HT.out.1.len2 (aT_ok (by decide) (by decide) (by decide)) hown hgr hat; have hb12 := H11.out.2.1.grown hgr H11.out.2.1.size (fun j hj => (H11.out.1.own2.lt j hj).1); have H12 := Lib.hid (And.intro htw12 hb12); clear hown hgr hat htw12 hb12))
          refine ⟨⟨_, _, k + 1, _, _, rfl, rfl, HT.out.2.2, by go_num, H12.out.1, H12.out.2⟩, ?_⟩
          have := HT.out.2.2
          simp [intOf]; omega
         ·
          have e0 : ¬ (k : Int) % 2 = 0 := by omega
          clear hev
          go_wp2_with fail
          refine ⟨⟨_, _, k + 1, _, _, rfl, rfl, HT.out.2.2, by go_num, H9.out.1, H9.out.2⟩, ?_⟩
          have := HT.out.2.2
          simp [intOf]; omega
        ·
         as_aux_lemma =>
         have q1 : ¬ (k : Int) < 32 := by omega
         have HB5 := Lib.hid (chB HB.out hb)
         have hw5 := run_wides5
         have hz1 : ∀ W, (Instr.build 48 #[(0, .int .i64 (-9223372036854775808))]).run Tryz.prog W = .ok (.agg #[.int .i64 (-9223372036854775808), .int .u64 0]) W := fun W => run_build W 48 _ _ (by kernel_rfl)
         have hz2 : ∀ W, (Instr.build 48 #[(0, .int .i64 (-1)), (1, .int .u64 18446744073709551615)]).run Tryz.prog W = .ok (.agg #[.int .i64 (-1), .int .u64 18446744073709551615]) W := fun W => run_build W 48 _ _ (by kernel_rfl)
         have hz3 : ∀ W, (Instr.build 48 #[]).run Tryz.prog W = .ok (.agg #[.int .i64 0, .int .u64 0]) W := fun W => run_build W 48 _ _ (by kernel_rfl)
         have hz4 : ∀ W, (Instr.build 48 #[(1, .int .u64 18446744073709551615)]).run Tryz.prog W = .ok (.agg #[.int .i64 0, .int .u64 18446744073709551615]) W := fun W => run_build W 48 _ _ (by kernel_rfl)
         have hz5 : ∀ W, (Instr.build 48 #[(0, .int .i64 9223372036854775807), (1, .int .u64 18446744073709551615)]).run Tryz.prog W = .ok (.agg #[.int .i64 9223372036854775807, .int .u64 18446744073709551615]) W := fun W => run_build W 48 _ _ (by kernel_rfl)
         clear htw hb hlt hk
         go_upto_region 31 with fail
         have hbW : Below wr.heap.size wr (wr.alloc (.cells widC 48)) := (Below.refl _ _).alloc (Nat.le_refl _) _
         have hLW : Lies (wr.alloc (.cells widC 48)) wr.heap.size widC 48 := Lies.new _ _ _
         generalize wr.alloc (.cells widC 48) = W6 at hbW hLW ⊢
         obtain ⟨bW, hbe⟩ : ∃ b, b = wr.heap.size := ⟨_, rfl⟩
         rw [← hbe] at hLW ⊢
         clear hbe
         have HWC : Hid (∀ V, Below W6.heap.size W6 V → ∀ (k : Nat) x, wL[k]? = some x → V.cell? ⟨bW, k * 2, none⟩ = some (.int .i64 (hiS x)) ∧ V.cell? ⟨bW, k * 2 + 1, none⟩ = some (.int .u64 (loN x))) := Lib.hid fun V hV k x hx => ⟨(hLW.below hV hLW.lt).cell _ (wid_at hx).1, (hLW.below hV hLW.lt).cell _ (wid_at hx).2⟩
         have H6 := Lib.hid (HB5.out.trans (hbW.mono HB5.out.size))
         clear hbW hLW hw5 hz1 hz2 hz3 hz4 hz5
         go_wp2_with fail
         go_loopw [13] (fun n W => ∃ k : Nat, k ≤ 25 ∧ n = .int .i64 k ∧ Below W6.heap.size W6 W) (fun n _ => 25 - (intOf n).toNat)
         case atStart => exact ⟨0, Nat.zero_le _, rfl, Below.refl _ _⟩
         case round =>
          obtain ⟨k, hk, rfl, hb⟩ := hrel
          have q0 : (0 : Int) ≤ (k : Int) := by omega
          by_cases hlt : k < 25
          ·
           as_aux_lemma =>
           have q1 : (k : Int) < 25 := by omega
           obtain ⟨a5, ha5⟩ : ∃ m, m = k % 5 := ⟨_, rfl⟩
           obtain ⟨b5, hb5⟩ : ∃ m, m = k / 5 := ⟨_, rfl⟩
           obtain ⟨c3, hc3⟩ : ∃ m, m = k % 3 := ⟨_, rfl⟩
           obtain ⟨n7, hn7⟩ : ∃ m, m = k % 7 := ⟨_, rfl⟩
           obtain ⟨s6, hs6⟩ : ∃ m, m = k % 6 := ⟨_, rfl⟩
           obtain ⟨r2, hr2⟩ : ∃ m, m = k % 2 := ⟨_, rfl⟩
           obtain ⟨ta, ga, la, na⟩ := mod_facts ha5 (by decide)
           obtain ⟨tc, gc, lc', nc⟩ := mod_facts hc3 (by decide)
           obtain ⟨tn, gn, ln, nn⟩ := mod_facts hn7 (by decide)
           obtain ⟨ts, gs, ls, ns⟩ := mod_facts hs6 (by decide)
           obtain ⟨tr, gr, lr, nr⟩ := mod_facts hr2 (by decide)
           obtain ⟨tb, wb, gb, lb, nb⟩ := div_facts hb5 hlt
           have lc : (c3 : Int) < 5 := Int.lt_trans lc' (by decide)
           have nc5 : c3 < 5 := Nat.lt_trans nc (by decide)
           have nr2 : r2 ≤ 2 := Nat.le_of_lt nr
           have ta : (k : Int).tmod 5 = (a5 : Int) := ta
           have tc : (k : Int).tmod 3 = (c3 : Int) := tc
           have tn : (k : Int).tmod 7 = (n7 : Int) := tn
           have ts : (k : Int).tmod 6 = (s6 : Int) := ts
           have tr : (k : Int).tmod 2 = (r2 : Int) := tr
           have la : (a5 : Int) < 5 := la
           have ln : (n7 : Int) < 7 := ln
           have ls : (s6 : Int) < 6 := ls
           have Hta := Lib.hid ta
           have Htb := Lib.hid tb
           have Htc := Lib.hid tc
           have Htn := Lib.hid tn
           have Hts := Lib.hid ts
           have Htr := Lib.hid tr
           have Hwb := Lib.hid wb
           have Hga := Lib.hid ga
           have Hgb := Lib.hid gb
           have Hgc := Lib.hid gc
           have Hgn := Lib.hid gn
           have Hgs := Lib.hid gs
           have Hla := Lib.hid la
           have Hlb := Lib.hid lb
           have Hlc := Lib.hid lc
           have Hln := Lib.hid ln
           have Hls := Lib.hid ls
           clear ta tb tc tn ts tr wb ga gb gc gn gs la lb lc ln ls gr lr lc' ha5 hb5 hc3 hn7 hs6 hr2
           obtain ⟨xa, hxa⟩ : ∃ x, wL[a5]? = some x := ⟨wL[a5]'na, List.getElem?_eq_getElem _⟩
           obtain ⟨xb, hxb⟩ : ∃ x, wL[b5]? = some x := ⟨wL[b5]'nb, List.getElem?_eq_getElem _⟩
           obtain ⟨xc, hxc⟩ : ∃ x, wL[c3]? = some x := ⟨wL[c3]'nc5, List.getElem?_eq_getElem _⟩
           obtain ⟨x, hx⟩ : ∃ x, nL[n7]? = some x := ⟨nL[n7]'nn, List.getElem?_eq_getElem _⟩
           obtain ⟨t, ht⟩ : ∃ t, sL[s6]? = some t := ⟨sL[s6]'ns, List.getElem?_eq_getElem _⟩
           have hbx := nL_ok x (List.mem_of_getElem? hx)
           have hbt := sL_ok t (List.mem_of_getElem? ht)
           obtain ⟨tv, htv⟩ : ∃ v, v = txt t := ⟨_, rfl⟩
           obtain ⟨ah, hah⟩ : ∃ v, v = hiS xa := ⟨_, rfl⟩
           obtain ⟨al, hal⟩ : ∃ v, v = loN xa := ⟨_, rfl⟩
           obtain ⟨bh, hbh⟩ : ∃ v, v = hiS xb := ⟨_, rfl⟩
           obtain ⟨bl, hbl⟩ : ∃ v, v = loN xb := ⟨_, rfl⟩
           obtain ⟨ch, hch⟩ : ∃ v, v = hiS xc := ⟨_, rfl⟩
           obtain ⟨cl', hcl⟩ : ∃ v, v = loN xc := ⟨_, rfl⟩
           obtain ⟨c1, hc1⟩ : ∃ v, v = toC (toZ [97] xa) := ⟨_, rfl⟩
           obtain ⟨c2, hc2⟩ : ∃ v, v = toC (toZ t xb) := ⟨_, rfl⟩
           have z1 : c1.size = 35 := by rw [hc1]; exact toC_size _ (by rfl)
           have z2 : c2.size = 35 := by rw [hc2]; exact toC_size _ (by rfl)
           have u1 : ∀ W, (Instr.build 75 #[(1, .string ⟨#[97]⟩), (2, .agg #[.int .i64 ah, .int .u64 al])]).run Tryz.prog W = .ok (.agg c1) W := fun W => by
            rw [hc1, hah, hal]; exact run_build W 75 _ _ (built_toZ [97] xa)
           have u2 : ∀ W, (Instr.build 75 #[(1, .string tv), (2, .agg #[.int .i64 bh, .int .u64 bl])]).run Tryz.prog W = .ok (.agg c2) W := fun W => by
            rw [hc2, htv, hbh, hbl]; exact run_build W 75 _ _ (built_toZ t xb)
           have u3 := fun W => run_totals2 W c1 c2 z1 z2
           have HCL : Hid (∀ V, Below W6.heap.size W6 V → V.cell? ⟨bW, a5 * 2, none⟩ = some (.int .i64 ah) ∧ V.cell? ⟨bW, a5 * 2 + 1, none⟩ = some (.int .u64 al) ∧ V.cell? ⟨bW, b5 * 2, none⟩ = some (.int .i64 bh) ∧ V.cell? ⟨bW, b5 * 2 + 1, none⟩ = some (.int .u64 bl) ∧ V.cell? ⟨bW, c3 * 2, none⟩ = some (.int .i64 ch) ∧ V.cell? ⟨bW, c3 * 2 + 1, none⟩ = some (.int .u64 cl') ∧ V.cell? ⟨bS, s6, none⟩ = some (.string tv) ∧ V.cell? ⟨bN, n7, none⟩ = some (.int .i64 x)) := Lib.hid fun V hV => by
            have h1 := HWC.out V hV a5 xa hxa
            have h2 := HWC.out V hV b5 xb hxb
            have h3 := HWC.out V hV c3 xc hxc
            rw [hah, hal, hbh, hbl, hch, hcl, htv]
            exact ⟨h1.1, h1.2, h2.1, h2.2, h3.1, h3.2, HS.out V (chB H6.out hV) s6 t ht, HN.out V (chB H6.out hV) n7 x hx⟩
           have HX := Lib.hid (And.intro hbx (And.intro hbt (And.intro hlt nr2)))
           have HY := Lib.hid (And.intro hc1 (And.intro hc2 (And.intro hah (And.intro hal (And.intro hbh (And.intro hbl (And.intro hch hcl)))))))
           have HB := Lib.hid hb
           have hd0 : Below W6.heap.size W6 wr.drew := hb.drew
           clear hxa hxb hxc hx ht hbx hbt htv hah hal hbh hbl hch hcl hc1 hc2 z1 z2 hb hlt hk na nb nc nc5 nn ns nr nr2
           go_upto_region 34 with fail
           have Hu1 := Lib.hid u1
           have Hu2 := Lib.hid u2
           clear u1 u2
           have HSS := HCL
           refine wp_region_held (S := Below W6.heap.size W6) (by kernel_rfl) ?_
           change wpAnyH _ _ _ _ _ 19 _ _ (World.drew wr)
           have hcur : Below W6.heap.size W6 wr.drew := hd0
           refine tk 0 (.slice (some ⟨bW, 0, none⟩) 5 5) 247 rfl rfl hcur ?_
           refine tk 1 (.int .i64 (k : Int)) 248 rfl rfl hcur ?_
           refine tk 2 (.int .i64 (a5 : Int)) 249 rfl rfl hcur ?_ (by intro w' hS'; have ta := Hta.out; unfold execOp; simp [go_sem, ta])
           refine tk 3 (.pointer (some ⟨bW, a5 * 2, none⟩)) 250 rfl rfl hcur ?_ (by intro w' hS'; have ga := Hga.out; have la := Hla.out; unfold execOp; simp [go_sem, ga, la])
           refine tk 4 (.agg #[.int .i64 ah, .int .u64 al]) 251 rfl rfl hcur ?_ (by intro w' hS'; obtain ⟨x0, x1, x2, x3, x4, x5, x6, x7⟩ := HSS.out w' hS'; unfold execOp; simp [go_sem, x0, x1])
           refine tk 5 (.agg c1) 252 rfl rfl hcur ?_ (by intro w' hS'; have u1 := Hu1.out; unfold execOp; simp [go_sem, u1])
           refine tk 6 (.slice (some ⟨bS, 0, none⟩) 6 6) 253 rfl rfl hcur ?_
           refine tk 7 (.int .i64 (k : Int)) 254 rfl rfl hcur ?_
           refine tk 8 (.int .i64 (s6 : Int)) 255 rfl rfl hcur ?_ (by intro w' hS'; have ts := Hts.out; unfold execOp; simp [go_sem, ts])
           refine tk 9 (.pointer (some ⟨bS, s6, none⟩)) 256 rfl rfl hcur ?_ (by intro w' hS'; have gs := Hgs.out; have ls := Hls.out; unfold execOp; simp [go_sem, gs, ls])
           refine tk 10 (.string tv) 257 rfl rfl hcur ?_ (by intro w' hS'; obtain ⟨x0, x1, x2, x3, x4, x5, x6, x7⟩ := HSS.out w' hS'; unfold execOp; simp [go_sem, x6])
           refine tk 11 (.slice (some ⟨bW, 0, none⟩) 5 5) 258 rfl rfl hcur ?_
           refine tk 12 (.int .i64 (k : Int)) 259 rfl rfl hcur ?_
           refine tk 13 (.int .i64 (b5 : Int)) 260 rfl rfl hcur ?_ (by intro w' hS'; have tb := Htb.out; have wb := Hwb.out; unfold execOp; simp [go_sem, tb, wb])
           refine tk 14 (.pointer (some ⟨bW, b5 * 2, none⟩)) 261 rfl rfl hcur ?_ (by intro w' hS'; have gb := Hgb.out; have lb := Hlb.out; unfold execOp; simp [go_sem, gb, lb])
           refine tk 15 (.agg #[.int .i64 bh, .int .u64 bl]) 262 rfl rfl hcur ?_ (by intro w' hS'; obtain ⟨x0, x1, x2, x3, x4, x5, x6, x7⟩ := HSS.out w' hS'; unfold execOp; simp [go_sem, x2, x3])
           refine tk 16 (.agg c2) 263 rfl rfl hcur ?_ (by intro w' hS'; have u2 := Hu2.out; unfold execOp; simp [go_sem, u2])
           generalize wr.drew = V0 at hcur ⊢
           obtain ⟨gt, hgt⟩ : ∃ g, g = V0.heap.size := ⟨_, rfl⟩
           obtain ⟨W7, hW7⟩ : ∃ W, W = V0.alloc (.cells (c1 ++ c2) 75) := ⟨_, rfl⟩
           have hb7 : Below W6.heap.size W6 W7 := by rw [hW7]; exact hcur.alloc hcur.size _
           have hLt : Lies W7 gt (c1 ++ c2) 75 := by rw [hW7, hgt]; exact Lies.new _ _ _
           have hrun : (Instr.buildSlice 49 2 #[(0, .agg c1), (1, .agg c2)]).run Tryz.prog V0 = .ok (.slice (some ⟨gt, 0, none⟩) 2 2) W7 := by rw [hW7, hgt]; exact u3 V0
           clear hW7 hgt
           refine held_one (i := 17) (by kernel_rfl) _ rfl (wpOp_valG rfl (by rfl) 264 rfl (v := .slice (some ⟨gt, 0, none⟩) 2 2) (w' := W7) (by unfold execOp; simp [go_sem, hrun]) ⟨hb7, ?_⟩)
           simp only [Act.put, List.setIfInBounds_toArray, List.set_cons_zero, List.set_cons_succ]
           refine held_one (i := 18) (by kernel_rfl) _ rfl (wpOp_valG rfl (by rfl) 14 rfl (v := .slice (some ⟨gt, 0, none⟩) 2 2) (w' := W7) (by unfold execOp; simp [go_sem]) ⟨hb7, ?_⟩)
           simp only [Act.put, List.setIfInBounds_toArray, List.set_cons_zero, List.set_cons_succ]
           refine held_done (by kernel_rfl) ?_
           clear hcur hrun
           have HSS : Hid (∀ V, Below W7.heap.size W7 V → V.cell? ⟨bW, a5 * 2, none⟩ = some (.int .i64 ah) ∧ V.cell? ⟨bW, a5 * 2 + 1, none⟩ = some (.int .u64 al) ∧ V.cell? ⟨bW, b5 * 2, none⟩ = some (.int .i64 bh) ∧ V.cell? ⟨bW, b5 * 2 + 1, none⟩ = some (.int .u64 bl) ∧ V.cell? ⟨bW, c3 * 2, none⟩ = some (.int .i64 ch) ∧ V.cell? ⟨bW, c3 * 2 + 1, none⟩ = some (.int .u64 cl') ∧ V.cell? ⟨bS, s6, none⟩ = some (.string tv) ∧ V.cell? ⟨bN, n7, none⟩ = some (.int .i64 x)) := Lib.hid fun V hV => HCL.out V (chB hb7 hV)
           obtain ⟨z, hz⟩ : ∃ z, z = cmpW xa xb := ⟨_, rfl⟩
           obtain ⟨hc1, hc2, hah, hal, hbh, hbl, hch, hcl⟩ := HY.out
           have hva : wv xa = .agg #[.int .i64 ah, .int .u64 al] := by rw [hah, hal]; rfl
           have hvb : wv xb = .agg #[.int .i64 bh, .int .u64 bl] := by rw [hbh, hbl]; rfl
           have kA : (toZ [97] xa).nm.1.length = 32 ∧ (toZ [97] xa).nm.2.length ≤ 33 := ⟨rfl, by show 1 ≤ 33; decide⟩
           have kB : (toZ t xb).nm.1.length = 32 ∧ (toZ t xb).nm.2.length ≤ 33 := ⟨rfl, HX.out.2.1⟩
           obtain ⟨ro, hRo⟩ : ∃ A : Array Value, A = #[.slice (some ⟨gt, 0, none⟩) 2 2, .slice (some ⟨gt, 0, none⟩) r2 2, .slice (some ⟨gt, 35, none⟩) 1 1] := ⟨_, rfl⟩
           obtain ⟨wo, hWo⟩ : ∃ A : Array Value, A = #[.int .i64 ah, .int .u64 al, .int .i64 bh, .int .u64 bl, .int .i64 ch, .int .u64 cl'] := ⟨_, rfl⟩
           have k1 : ∀ U, Below W7.heap.size W7 U → Calls Tryz.prog 5 #[.slice (some ⟨U.heap.size, 0, none⟩) 3 3, .slice (some ⟨U.heap.size + 1, 0, none⟩) 3 3, .int .i64 x] ((U.alloc (.cells ro 49)).alloc (.cells wo 48)) fun e w' => e = .returned (.bool true) ∧ Below W7.heap.size W7 w' := fun U hU => by
            have hb2 := (hU.alloc hU.size (.cells ro 49)).alloc (hU.alloc hU.size (.cells ro 49)).size (.cells wo 48)
            have l1 := (Lies.new U ro 49).alloc (.cells wo 48)
            have l2 := lies_new2 (U.alloc (.cells ro 49)) wo 48 (U.heap.size + 1) (by simp)
            have lt' := hLt.below hb2 hLt.lt
            generalize (U.alloc (.cells ro 49)).alloc (.cells wo 48) = W at hb2 l1 l2 lt' ⊢
            rw [hRo] at l1
            rw [hWo, hah, hal, hbh, hbl, hch, hcl] at l2
            exact (wides_at hc1 hc2 kA kB lt' HX.out.2.2.2 l1 l2 HX.out.1.1 HX.out.1.2).mono fun e w' h => ⟨h.1, chB hb2 h.2⟩
           have k2 : ∀ U, Below W7.heap.size W7 U → Calls Tryz.prog 5 #[.slice (some ⟨U.heap.size + 1, 0, none⟩) 3 3, .slice (some ⟨U.heap.size, 0, none⟩) 3 3, .int .i64 x] ((U.alloc (.cells wo 48)).alloc (.cells ro 49)) fun e w' => e = .returned (.bool true) ∧ Below W7.heap.size W7 w' := fun U hU => by
            have hb2 := (hU.alloc hU.size (.cells wo 48)).alloc (hU.alloc hU.size (.cells wo 48)).size (.cells ro 49)
            have l2 := (Lies.new U wo 48).alloc (.cells ro 49)
            have l1 := lies_new2 (U.alloc (.cells wo 48)) ro 49 (U.heap.size + 1) (by simp)
            have lt' := hLt.below hb2 hLt.lt
            generalize (U.alloc (.cells wo 48)).alloc (.cells ro 49) = W at hb2 l1 l2 lt' ⊢
            rw [hRo] at l1
            rw [hWo, hah, hal, hbh, hbl, hch, hcl] at l2
            exact (wides_at hc1 hc2 kA kB lt' HX.out.2.2.2 l1 l2 HX.out.1.1 HX.out.1.2).mono fun e w' h => ⟨h.1, chB hb2 h.2⟩
           rw [hRo, hWo] at k1 k2
           have k3 : ∀ U, Below W7.heap.size W7 U → Calls Tryz.prog 41 #[.agg #[.int .i64 ah, .int .u64 al], .agg #[.int .i64 bh, .int .u64 bl]] U fun e w' => e = .returned (.int .i64 z) ∧ Below W7.heap.size W7 w' := fun U hU => by
            rw [← hva, ← hvb]
            exact (cmp_any U xa xb).mono fun e w' hh => ⟨by rw [hh.1, hz], chB hU hh.2⟩
           have k4 : ∀ U, Below W7.heap.size W7 U → Calls Tryz.prog 42 #[.agg #[.int .i64 ah, .int .u64 al], .agg #[.int .i64 bh, .int .u64 bl]] U fun e w' => e = .returned (.int .i64 z) ∧ Below W7.heap.size W7 w' := fun U hU => by
            rw [← hva, ← hvb]
            exact (rcmp_any U xa xb).mono fun e w' hh => ⟨by rw [hh.1, hz], chB hU hh.2⟩
           have K1 := Lib.hid k1
           have K2 := Lib.hid k2
           have K3 := Lib.hid k3
           have K4 := Lib.hid k4
           have hs1 : ∀ W, (Instr.slice 49 (.slice (some ⟨gt, 0, none⟩) 2 2) none (some (.int .i64 (r2 : Int))) none).run Tryz.prog W = .ok (.slice (some ⟨gt, 0, none⟩) r2 2) W := fun W => slice_to W gt r2 HX.out.2.2.2
           have hs2 : ∀ W, (Instr.slice 49 (.slice (some ⟨gt, 0, none⟩) 2 2) (some (.int .i64 1)) none none).run Tryz.prog W = .ok (.slice (some ⟨gt, 35, none⟩) 1 1) W := fun W => slice_from W gt
           have H7 := Lib.hid hb7
           have Hhs1 := Lib.hid hs1
           have Hhs2 := Lib.hid hs2
           clear hRo hWo hb7 hLt hz hc1 hc2 hah hal hbh hbl hch hcl hva hvb kA kB k1 k2 k3 k4 u3 HCL hd0 hs1 hs2
           go_upto_region 35 with fail
           go_cut [320] from 325 (fun v W => v = .bool false ∧ Below W7.heap.size W7 W)
           case first =>
            as_aux_lemma =>
            refine wp_region_held (S := Below W7.heap.size W7) (by kernel_rfl) ?_
            change wpAnyH _ _ _ _ _ 56 _ _ (World.drew W7)
            have hcur : Below W7.heap.size W7 W7.drew := (Below.refl _ _).drew
            refine tk 0 (.slice (some ⟨gt, 0, none⟩) 2 2) 265 rfl rfl hcur ?_
            refine tk 1 (.slice (some ⟨gt, 0, none⟩) 2 2) 266 rfl rfl hcur ?_
            refine tk 2 (.int .i64 (k : Int)) 267 rfl rfl hcur ?_
            refine tk 3 (.int .i64 (r2 : Int)) 268 rfl rfl hcur ?_ (by intro w' hS'; have tr := Htr.out; unfold execOp; simp [go_sem, tr])
            refine tk 4 (.slice (some ⟨gt, 0, none⟩) r2 2) 269 rfl rfl hcur ?_ (by intro w' hS'; have hs1 := Hhs1.out; unfold execOp; simp [go_sem, hs1])
            refine tk 5 (.slice (some ⟨gt, 0, none⟩) 2 2) 270 rfl rfl hcur ?_
            refine tk 6 (.slice (some ⟨gt, 35, none⟩) 1 1) 271 rfl rfl hcur ?_ (by intro w' hS'; have hs2 := Hhs2.out; unfold execOp; simp [go_sem, hs2])
            refine tk 8 (.slice (some ⟨bW, 0, none⟩) 5 5) 273 rfl rfl hcur ?_
            refine tk 9 (.int .i64 (k : Int)) 274 rfl rfl hcur ?_
            refine tk 10 (.int .i64 (a5 : Int)) 275 rfl rfl hcur ?_ (by intro w' hS'; have ta := Hta.out; unfold execOp; simp [go_sem, ta])
            refine tk 11 (.pointer (some ⟨bW, a5 * 2, none⟩)) 276 rfl rfl hcur ?_ (by intro w' hS'; have ga := Hga.out; have la := Hla.out; unfold execOp; simp [go_sem, ga, la])
            refine tk 12 (.agg #[.int .i64 ah, .int .u64 al]) 277 rfl rfl hcur ?_ (by intro w' hS'; obtain ⟨x0, x1, x2, x3, x4, x5, x6, x7⟩ := HSS.out w' hS'; unfold execOp; simp [go_sem, x0, x1])
            refine tk 13 (.slice (some ⟨bW, 0, none⟩) 5 5) 278 rfl rfl hcur ?_
            refine tk 14 (.int .i64 (k : Int)) 279 rfl rfl hcur ?_
            refine tk 15 (.int .i64 (b5 : Int)) 280 rfl rfl hcur ?_ (by intro w' hS'; have tb := Htb.out; have wb := Hwb.out; unfold execOp; simp [go_sem, tb, wb])
            refine tk 16 (.pointer (some ⟨bW, b5 * 2, none⟩)) 281 rfl rfl hcur ?_ (by intro w' hS'; have gb := Hgb.out; have lb := Hlb.out; unfold execOp; simp [go_sem, gb, lb])
            refine tk 17 (.agg #[.int .i64 bh, .int .u64 bl]) 282 rfl rfl hcur ?_ (by intro w' hS'; obtain ⟨x0, x1, x2, x3, x4, x5, x6, x7⟩ := HSS.out w' hS'; unfold execOp; simp [go_sem, x2, x3])
            refine tk 18 (.slice (some ⟨bW, 0, none⟩) 5 5) 283 rfl rfl hcur ?_
            refine tk 19 (.int .i64 (k : Int)) 284 rfl rfl hcur ?_
            refine tk 20 (.int .i64 (c3 : Int)) 285 rfl rfl hcur ?_ (by intro w' hS'; have tc := Htc.out; unfold execOp; simp [go_sem, tc])
            refine tk 21 (.pointer (some ⟨bW, c3 * 2, none⟩)) 286 rfl rfl hcur ?_ (by intro w' hS'; have gc := Hgc.out; have lc := Hlc.out; unfold execOp; simp [go_sem, gc, lc])
            refine tk 22 (.agg #[.int .i64 ch, .int .u64 cl']) 287 rfl rfl hcur ?_ (by intro w' hS'; obtain ⟨x0, x1, x2, x3, x4, x5, x6, x7⟩ := HSS.out w' hS'; unfold execOp; simp [go_sem, x4, x5])
            refine tk 24 (.slice (some ⟨bN, 0, none⟩) 7 7) 289 rfl rfl hcur ?_
            refine tk 25 (.int .i64 (k : Int)) 290 rfl rfl hcur ?_
            refine tk 26 (.int .i64 (n7 : Int)) 291 rfl rfl hcur ?_ (by intro w' hS'; have tn := Htn.out; unfold execOp; simp [go_sem, tn])
            refine tk 27 (.pointer (some ⟨bN, n7, none⟩)) 292 rfl rfl hcur ?_ (by intro w' hS'; have gn := Hgn.out; have ln := Hln.out; unfold execOp; simp [go_sem, gn, ln])
            refine tk 28 (.int .i64 x) 293 rfl rfl hcur ?_ (by intro w' hS'; obtain ⟨x0, x1, x2, x3, x4, x5, x6, x7⟩ := HSS.out w' hS'; unfold execOp; simp [go_sem, x7])
            generalize W7.drew = V0 at hcur ⊢
            have r1 : ∀ W, (Instr.buildSlice 58 3 #[(0, .slice (some ⟨gt, 0, none⟩) 2 2), (1, .slice (some ⟨gt, 0, none⟩) r2 2), (2, .slice (some ⟨gt, 35, none⟩) 1 1)]).run Tryz.prog W = .ok (.slice (some ⟨W.heap.size, 0, none⟩) 3 3) (W.alloc (.cells #[.slice (some ⟨gt, 0, none⟩) 2 2, .slice (some ⟨gt, 0, none⟩) r2 2, .slice (some ⟨gt, 35, none⟩) 1 1] 49)) := fun W => run_rows3 W _ _ _ _ _ _ _ _ _
            have r2w : ∀ W, (Instr.buildSlice 59 3 #[(0, .agg #[.int .i64 ah, .int .u64 al]), (1, .agg #[.int .i64 bh, .int .u64 bl]), (2, .agg #[.int .i64 ch, .int .u64 cl'])]).run Tryz.prog W = .ok (.slice (some ⟨W.heap.size, 0, none⟩) 3 3) (W.alloc (.cells #[.int .i64 ah, .int .u64 al, .int .i64 bh, .int .u64 bl, .int .i64 ch, .int .u64 cl'] 48)) := fun W => run_wides3 W _ _ _ _ _ _
            have r1b : (Instr.buildSlice 58 3 #[(0, .slice (some ⟨gt, 0, none⟩) 2 2), (1, .slice (some ⟨gt, 0, none⟩) r2 2), (2, .slice (some ⟨gt, 35, none⟩) 1 1)]).run Tryz.prog (V0.alloc (.cells #[.int .i64 ah, .int .u64 al, .int .i64 bh, .int .u64 bl, .int .i64 ch, .int .u64 cl'] 48)) = .ok (.slice (some ⟨V0.heap.size + 1, 0, none⟩) 3 3) ((V0.alloc (.cells #[.int .i64 ah, .int .u64 al, .int .i64 bh, .int .u64 bl, .int .i64 ch, .int .u64 cl'] 48)).alloc (.cells #[.slice (some ⟨gt, 0, none⟩) 2 2, .slice (some ⟨gt, 0, none⟩) r2 2, .slice (some ⟨gt, 35, none⟩) 1 1] 49)) := by simpa using r1 (V0.alloc (.cells #[.int .i64 ah, .int .u64 al, .int .i64 bh, .int .u64 bl, .int .i64 ch, .int .u64 cl'] 48))
            have r2b : (Instr.buildSlice 59 3 #[(0, .agg #[.int .i64 ah, .int .u64 al]), (1, .agg #[.int .i64 bh, .int .u64 bl]), (2, .agg #[.int .i64 ch, .int .u64 cl'])]).run Tryz.prog (V0.alloc (.cells #[.slice (some ⟨gt, 0, none⟩) 2 2, .slice (some ⟨gt, 0, none⟩) r2 2, .slice (some ⟨gt, 35, none⟩) 1 1] 49)) = .ok (.slice (some ⟨V0.heap.size + 1, 0, none⟩) 3 3) ((V0.alloc (.cells #[.slice (some ⟨gt, 0, none⟩) 2 2, .slice (some ⟨gt, 0, none⟩) r2 2, .slice (some ⟨gt, 35, none⟩) 1 1] 49)).alloc (.cells #[.int .i64 ah, .int .u64 al, .int .i64 bh, .int .u64 bl, .int .i64 ch, .int .u64 cl'] 48)) := by simpa using r2w (V0.alloc (.cells #[.slice (some ⟨gt, 0, none⟩) 2 2, .slice (some ⟨gt, 0, none⟩) r2 2, .slice (some ⟨gt, 35, none⟩) 1 1] 49))
            have hcur1 := hcur
            refine held_both (i := 7) (j := 23) (by kernel_rfl) _ rfl _ rfl ?_ ?_
            ·
             as_aux_lemma =>
              refine wpOp_valG rfl (by rfl) 272 rfl (v := .slice (some ⟨V0.heap.size, 0, none⟩) 3 3) (w' := V0.alloc (.cells #[.slice (some ⟨gt, 0, none⟩) 2 2, .slice (some ⟨gt, 0, none⟩) r2 2, .slice (some ⟨gt, 35, none⟩) 1 1] 49)) (by unfold execOp; simp [go_sem, r1]) ⟨hcur.alloc hcur.size _, ?_⟩
              simp only [Act.put, List.setIfInBounds_toArray, List.set_cons_zero, List.set_cons_succ]
              have hcur := hcur.alloc hcur.size (.cells #[.slice (some ⟨gt, 0, none⟩) 2 2, .slice (some ⟨gt, 0, none⟩) r2 2, .slice (some ⟨gt, 35, none⟩) 1 1] 49)
              refine held_one (i := 23) (by kernel_rfl) _ rfl (wpOp_valG rfl (by rfl) 288 rfl (v := .slice (some ⟨V0.heap.size + 1, 0, none⟩) 3 3) (w' := (V0.alloc (.cells #[.slice (some ⟨gt, 0, none⟩) 2 2, .slice (some ⟨gt, 0, none⟩) r2 2, .slice (some ⟨gt, 35, none⟩) 1 1] 49)).alloc (.cells #[.int .i64 ah, .int .u64 al, .int .i64 bh, .int .u64 bl, .int .i64 ch, .int .u64 cl'] 48)) (by unfold execOp; simp [go_sem, r2b]) ⟨hcur.alloc hcur.size _, ?_⟩)
              simp only [Act.put, List.setIfInBounds_toArray, List.set_cons_zero, List.set_cons_succ]
              refine held_one (i := 29) (by kernel_rfl) _ rfl (wpOp_callG rfl (by rfl) 294 rfl 5 #[.slice (some ⟨V0.heap.size, 0, none⟩) 3 3, .slice (some ⟨V0.heap.size + 1, 0, none⟩) 3 3, .int .i64 x] (by unfold execOp; simp [go_sem]) _ (ret_gro (K1.out V0 hcur1)) ?_)
              rintro _ U2 ⟨rfl, hn⟩
              clear hcur
              have hcur := hn
              clear hn
              refine ⟨hcur, ?_⟩
              simp only [Act.put, List.setIfInBounds_toArray, List.set_cons_zero, List.set_cons_succ]
              refine tk 30 (.bool false) 295 rfl rfl hcur ?_
              refine tk 31 (.bool false) 296 rfl rfl hcur ?_
              refine tk 32 (.slice (some ⟨bW, 0, none⟩) 5 5) 297 rfl rfl hcur ?_
              refine tk 33 (.int .i64 (k : Int)) 298 rfl rfl hcur ?_
              refine tk 34 (.int .i64 (a5 : Int)) 299 rfl rfl hcur ?_ (by intro w' hS'; have ta := Hta.out; unfold execOp; simp [go_sem, ta])
              refine tk 35 (.pointer (some ⟨bW, a5 * 2, none⟩)) 300 rfl rfl hcur ?_ (by intro w' hS'; have ga := Hga.out; have la := Hla.out; unfold execOp; simp [go_sem, ga, la])
              refine tk 36 (.agg #[.int .i64 ah, .int .u64 al]) 301 rfl rfl hcur ?_ (by intro w' hS'; obtain ⟨x0, x1, x2, x3, x4, x5, x6, x7⟩ := HSS.out w' hS'; unfold execOp; simp [go_sem, x0, x1])
              refine tk 37 (.slice (some ⟨bW, 0, none⟩) 5 5) 302 rfl rfl hcur ?_
              refine tk 38 (.int .i64 (k : Int)) 303 rfl rfl hcur ?_
              refine tk 39 (.int .i64 (b5 : Int)) 304 rfl rfl hcur ?_ (by intro w' hS'; have tb := Htb.out; have wb := Hwb.out; unfold execOp; simp [go_sem, tb, wb])
              refine tk 40 (.pointer (some ⟨bW, b5 * 2, none⟩)) 305 rfl rfl hcur ?_ (by intro w' hS'; have gb := Hgb.out; have lb := Hlb.out; unfold execOp; simp [go_sem, gb, lb])
              refine tk 41 (.agg #[.int .i64 bh, .int .u64 bl]) 306 rfl rfl hcur ?_ (by intro w' hS'; obtain ⟨x0, x1, x2, x3, x4, x5, x6, x7⟩ := HSS.out w' hS'; unfold execOp; simp [go_sem, x2, x3])
              refine tk 43 (.slice (some ⟨bW, 0, none⟩) 5 5) 308 rfl rfl hcur ?_
              refine tk 44 (.int .i64 (k : Int)) 309 rfl rfl hcur ?_
              refine tk 45 (.int .i64 (a5 : Int)) 310 rfl rfl hcur ?_ (by intro w' hS'; have ta := Hta.out; unfold execOp; simp [go_sem, ta])
              refine tk 46 (.pointer (some ⟨bW, a5 * 2, none⟩)) 311 rfl rfl hcur ?_ (by intro w' hS'; have ga := Hga.out; have la := Hla.out; unfold execOp; simp [go_sem, ga, la])
              refine tk 47 (.agg #[.int .i64 ah, .int .u64 al]) 312 rfl rfl hcur ?_ (by intro w' hS'; obtain ⟨x0, x1, x2, x3, x4, x5, x6, x7⟩ := HSS.out w' hS'; unfold execOp; simp [go_sem, x0, x1])
              refine tk 48 (.slice (some ⟨bW, 0, none⟩) 5 5) 313 rfl rfl hcur ?_
              refine tk 49 (.int .i64 (k : Int)) 314 rfl rfl hcur ?_
              refine tk 50 (.int .i64 (b5 : Int)) 315 rfl rfl hcur ?_ (by intro w' hS'; have tb := Htb.out; have wb := Hwb.out; unfold execOp; simp [go_sem, tb, wb])
              refine tk 51 (.pointer (some ⟨bW, b5 * 2, none⟩)) 316 rfl rfl hcur ?_ (by intro w' hS'; have gb := Hgb.out; have lb := Hlb.out; unfold execOp; simp [go_sem, gb, lb])
              refine tk 52 (.agg #[.int .i64 bh, .int .u64 bl]) 317 rfl rfl hcur ?_ (by intro w' hS'; obtain ⟨x0, x1, x2, x3, x4, x5, x6, x7⟩ := HSS.out w' hS'; unfold execOp; simp [go_sem, x2, x3])
              refine held_one (i := 42) (by kernel_rfl) _ rfl (wpOp_callG rfl (by rfl) 307 rfl 41 #[.agg #[.int .i64 ah, .int .u64 al], .agg #[.int .i64 bh, .int .u64 bl]] (by unfold execOp; simp [go_sem]) _ (ret_gro (K3.out U2 hcur)) ?_)
              rintro _ U3 ⟨rfl, hn⟩
              clear hcur
              have hcur := hn
              clear hn
              refine ⟨hcur, ?_⟩
              simp only [Act.put, List.setIfInBounds_toArray, List.set_cons_zero, List.set_cons_succ]
              refine held_one (i := 53) (by kernel_rfl) _ rfl (wpOp_callG rfl (by rfl) 318 rfl 42 #[.agg #[.int .i64 ah, .int .u64 al], .agg #[.int .i64 bh, .int .u64 bl]] (by unfold execOp; simp [go_sem]) _ (ret_gro (K4.out U3 hcur)) ?_)
              rintro _ U4 ⟨rfl, hn⟩
              clear hcur
              have hcur := hn
              clear hn
              refine ⟨hcur, ?_⟩
              simp only [Act.put, List.setIfInBounds_toArray, List.set_cons_zero, List.set_cons_succ]
              refine tk 54 (.bool false) 319 rfl rfl hcur ?_
              refine tk 55 (.bool false) 320 rfl rfl hcur ?_
              refine held_done (by kernel_rfl) ?_
              have U4H := Lib.hid hcur
              clear hcur
              go_wp2_with fail
              go_meet
              case rel => exact ⟨rfl, U4H.out⟩
            ·
             as_aux_lemma =>
              refine wpOp_valG rfl (by rfl) 288 rfl (v := .slice (some ⟨V0.heap.size, 0, none⟩) 3 3) (w' := V0.alloc (.cells #[.int .i64 ah, .int .u64 al, .int .i64 bh, .int .u64 bl, .int .i64 ch, .int .u64 cl'] 48)) (by unfold execOp; simp [go_sem, r2w]) ⟨hcur.alloc hcur.size _, ?_⟩
              simp only [Act.put, List.setIfInBounds_toArray, List.set_cons_zero, List.set_cons_succ]
              have hcur := hcur.alloc hcur.size (.cells #[.int .i64 ah, .int .u64 al, .int .i64 bh, .int .u64 bl, .int .i64 ch, .int .u64 cl'] 48)
              refine held_one (i := 7) (by kernel_rfl) _ rfl (wpOp_valG rfl (by rfl) 272 rfl (v := .slice (some ⟨V0.heap.size + 1, 0, none⟩) 3 3) (w' := (V0.alloc (.cells #[.int .i64 ah, .int .u64 al, .int .i64 bh, .int .u64 bl, .int .i64 ch, .int .u64 cl'] 48)).alloc (.cells #[.slice (some ⟨gt, 0, none⟩) 2 2, .slice (some ⟨gt, 0, none⟩) r2 2, .slice (some ⟨gt, 35, none⟩) 1 1] 49)) (by unfold execOp; simp [go_sem, r1b]) ⟨hcur.alloc hcur.size _, ?_⟩)
              simp only [Act.put, List.setIfInBounds_toArray, List.set_cons_zero, List.set_cons_succ]
              refine held_one (i := 29) (by kernel_rfl) _ rfl (wpOp_callG rfl (by rfl) 294 rfl 5 #[.slice (some ⟨V0.heap.size + 1, 0, none⟩) 3 3, .slice (some ⟨V0.heap.size, 0, none⟩) 3 3, .int .i64 x] (by unfold execOp; simp [go_sem]) _ (ret_gro (K2.out V0 hcur1)) ?_)
              rintro _ U2 ⟨rfl, hn⟩
              clear hcur
              have hcur := hn
              clear hn
              refine ⟨hcur, ?_⟩
              simp only [Act.put, List.setIfInBounds_toArray, List.set_cons_zero, List.set_cons_succ]
              refine tk 30 (.bool false) 295 rfl rfl hcur ?_
              refine tk 31 (.bool false) 296 rfl rfl hcur ?_
              refine tk 32 (.slice (some ⟨bW, 0, none⟩) 5 5) 297 rfl rfl hcur ?_
              refine tk 33 (.int .i64 (k : Int)) 298 rfl rfl hcur ?_
              refine tk 34 (.int .i64 (a5 : Int)) 299 rfl rfl hcur ?_ (by intro w' hS'; have ta := Hta.out; unfold execOp; simp [go_sem, ta])
              refine tk 35 (.pointer (some ⟨bW, a5 * 2, none⟩)) 300 rfl rfl hcur ?_ (by intro w' hS'; have ga := Hga.out; have la := Hla.out; unfold execOp; simp [go_sem, ga, la])
              refine tk 36 (.agg #[.int .i64 ah, .int .u64 al]) 301 rfl rfl hcur ?_ (by intro w' hS'; obtain ⟨x0, x1, x2, x3, x4, x5, x6, x7⟩ := HSS.out w' hS'; unfold execOp; simp [go_sem, x0, x1])
              refine tk 37 (.slice (some ⟨bW, 0, none⟩) 5 5) 302 rfl rfl hcur ?_
              refine tk 38 (.int .i64 (k : Int)) 303 rfl rfl hcur ?_
              refine tk 39 (.int .i64 (b5 : Int)) 304 rfl rfl hcur ?_ (by intro w' hS'; have tb := Htb.out; have wb := Hwb.out; unfold execOp; simp [go_sem, tb, wb])
              refine tk 40 (.pointer (some ⟨bW, b5 * 2, none⟩)) 305 rfl rfl hcur ?_ (by intro w' hS'; have gb := Hgb.out; have lb := Hlb.out; unfold execOp; simp [go_sem, gb, lb])
              refine tk 41 (.agg #[.int .i64 bh, .int .u64 bl]) 306 rfl rfl hcur ?_ (by intro w' hS'; obtain ⟨x0, x1, x2, x3, x4, x5, x6, x7⟩ := HSS.out w' hS'; unfold execOp; simp [go_sem, x2, x3])
              refine tk 43 (.slice (some ⟨bW, 0, none⟩) 5 5) 308 rfl rfl hcur ?_
              refine tk 44 (.int .i64 (k : Int)) 309 rfl rfl hcur ?_
              refine tk 45 (.int .i64 (a5 : Int)) 310 rfl rfl hcur ?_ (by intro w' hS'; have ta := Hta.out; unfold execOp; simp [go_sem, ta])
              refine tk 46 (.pointer (some ⟨bW, a5 * 2, none⟩)) 311 rfl rfl hcur ?_ (by intro w' hS'; have ga := Hga.out; have la := Hla.out; unfold execOp; simp [go_sem, ga, la])
              refine tk 47 (.agg #[.int .i64 ah, .int .u64 al]) 312 rfl rfl hcur ?_ (by intro w' hS'; obtain ⟨x0, x1, x2, x3, x4, x5, x6, x7⟩ := HSS.out w' hS'; unfold execOp; simp [go_sem, x0, x1])
              refine tk 48 (.slice (some ⟨bW, 0, none⟩) 5 5) 313 rfl rfl hcur ?_
              refine tk 49 (.int .i64 (k : Int)) 314 rfl rfl hcur ?_
              refine tk 50 (.int .i64 (b5 : Int)) 315 rfl rfl hcur ?_ (by intro w' hS'; have tb := Htb.out; have wb := Hwb.out; unfold execOp; simp [go_sem, tb, wb])
              refine tk 51 (.pointer (some ⟨bW, b5 * 2, none⟩)) 316 rfl rfl hcur ?_ (by intro w' hS'; have gb := Hgb.out; have lb := Hlb.out; unfold execOp; simp [go_sem, gb, lb])
              refine tk 52 (.agg #[.int .i64 bh, .int .u64 bl]) 317 rfl rfl hcur ?_ (by intro w' hS'; obtain ⟨x0, x1, x2, x3, x4, x5, x6, x7⟩ := HSS.out w' hS'; unfold execOp; simp [go_sem, x2, x3])
              refine held_one (i := 42) (by kernel_rfl) _ rfl (wpOp_callG rfl (by rfl) 307 rfl 41 #[.agg #[.int .i64 ah, .int .u64 al], .agg #[.int .i64 bh, .int .u64 bl]] (by unfold execOp; simp [go_sem]) _ (ret_gro (K3.out U2 hcur)) ?_)
              rintro _ U3 ⟨rfl, hn⟩
              clear hcur
              have hcur := hn
              clear hn
              refine ⟨hcur, ?_⟩
              simp only [Act.put, List.setIfInBounds_toArray, List.set_cons_zero, List.set_cons_succ]
              refine held_one (i := 53) (by kernel_rfl) _ rfl (wpOp_callG rfl (by rfl) 318 rfl 42 #[.agg #[.int .i64 ah, .int .u64 al], .agg #[.int .i64 bh, .int .u64 bl]] (by unfold execOp; simp [go_sem]) _ (ret_gro (K4.out U3 hcur)) ?_)
              rintro _ U4 ⟨rfl, hn⟩
              clear hcur
              have hcur := hn
              clear hn
              refine ⟨hcur, ?_⟩
              simp only [Act.put, List.setIfInBounds_toArray, List.set_cons_zero, List.set_cons_succ]
              refine tk 54 (.bool false) 319 rfl rfl hcur ?_
              refine tk 55 (.bool false) 320 rfl rfl hcur ?_
              refine held_done (by kernel_rfl) ?_
              have U4H := Lib.hid hcur
              clear hcur
              go_wp2_with fail
              go_meet
              case rel => exact ⟨rfl, U4H.out⟩
           case rest =>
            obtain ⟨rfl, hb8⟩ := hcut
            have V8 := Lib.hid (chB H7.out hb8)
            clear hb8 K1 K2 K3 K4
            go_wp2_with fail
            refine ⟨⟨k + 1, HX.out.2.2.1, by go_num, V8.out⟩, ?_⟩
            have := HX.out.2.2.1
            simp [intOf]; omega
          ·
           as_aux_lemma =>
           have q1 : ¬ (k : Int) < 25 := by omega
           have HE := Lib.hid (H6.out.trans (hb.mono H6.out.size))
           clear hb hlt hk
           go_wp2_with fail
           refine (sums_nil _).mono ?_
           rintro e U1 ⟨rfl, hb1⟩
           have HB1 := Lib.hid (HE.out.trans (hb1.mono HE.out.size))
           clear hb1
           go_wp2_with fail
           refine (awake_any _).mono ?_
           rintro e U2 ⟨rfl, hb2⟩
           have HB2 := Lib.hid (HB1.out.trans (hb2.mono HB1.out.size))
           clear hb2
           go_wp2_with fail
           go_ret
           exact ⟨rfl, chB H0.out HB2.out⟩
end Go.Proofs.YtjngghihciimjaaGreat
