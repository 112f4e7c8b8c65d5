/-
  Marks: mark (85), markNode (59).
  LentNodes (29): nodes with marks behind them.
  LentTerm (9): a term with marks behind its nodes.
  Two terms that are lent in one statement, in whatever order: two calls, two blocks, two stores.
-/
import Derived.Test.YtieoiklgoeclaaaRt
import Derived.Test.YtieoiklgoeclaaaTjn
import Derived.Test.YtieoiklgoeclaaaTap
import Derived.Test.YtieoiklgoeclaaaTjp
namespace Go.Proofs.Ytieoiklgoeclaaa
open Go.RowKit

theorem mark_any (w : World) (y : Nat) (hy : y ≤ 1000) : Calls Try.prog 85 #[.int .i64 1, .int .i64 y] w fun e w' => e = .returned (.int .i64 (8000024 + (y : Int))) ∧ w = w' := by
  have q1 : (y : Int) ≤ 1000 := by omega
  have q2 : (0 : Int) ≤ (y : Int) := by omega
  go_enter Try.func85, Try.ntmps85
  go_wp2_with fail
  go_ret
  exact ⟨rfl, rfl⟩
theorem info32s : (Try.prog.info? 32).map (·.size) = some 5 := by kernel_rfl
/-- The node that a mark is. -/
def markN (y : Nat) : Nd := ⟨0, 0, 0, ⟨#[]⟩, 8000024 + (y : Int)⟩
set_option maxRecDepth 100000 in
theorem markNode_any (w : World) (y : Nat) (hy : y ≤ 1000) : Calls Try.prog 59 #[.int .i64 1, .int .i64 y] w fun e w' => e = .returned (.agg (markN y).cells) ∧ Below w.heap.size w w' := by
  have hm := fun V => mark_any V y hy
  have HM := Lib.hid hm
  clear hm
  unfold markN Nd.cells
  go_enter Try.func59, Try.ntmps59
  go_upto_region 1 with fail
  have hQ := Lies.new w #[.int .i64 0, .int .i64 0, .int .u64 0, .string ⟨#[]⟩, .int .i64 0] 32
  have hb : Below w.heap.size w (w.alloc (.cells #[.int .i64 0, .int .i64 0, .int .u64 0, .string ⟨#[]⟩, .int .i64 0] 32)) := (Below.refl _ _).alloc (Nat.le_refl _) _
  generalize w.alloc (.cells #[.int .i64 0, .int .i64 0, .int .u64 0, .string ⟨#[]⟩, .int .i64 0] 32) = W0 at hQ hb ⊢
  have H := Lib.hid (And.intro hQ hb)
  clear hQ hb
  go_wp2_with fail
  refine (HM.out _).mono ?_
  rintro e w' ⟨rfl, rfl⟩
  go_wp2_with (refine wpList_store_row rfl 32 _ _ rfl w.heap.size #[.int .i64 0, .int .i64 0, .int .u64 0, .string ⟨#[]⟩, .int .i64 (8000024 + (y : Int))] rfl rfl 32 #[.int .i64 0, .int .i64 0, .int .u64 0, .string ⟨#[]⟩, .int .i64 0] H.out.1 info32s rfl (by simp [Value.oneCell']) ?_)
  exact bodyPost_ret (v := .agg #[.int .i64 0, .int .i64 0, .int .u64 0, .string ⟨#[]⟩, .int .i64 (8000024 + (y : Int))]) (results_cell_row (p := 4) (ty := 32) (by kernel_rfl) _ _ w.heap.size 32 #[.int .i64 0, .int .i64 0, .int .u64 0, .string ⟨#[]⟩, .int .i64 (8000024 + (y : Int))] (0, 0) _ rfl (H.out.1.setRow _) Try.underlying32 rfl info32s) rfl ⟨rfl, below_setRow H.out.2 _ _ (Nat.le_refl _)⟩
end Go.Proofs.Ytieoiklgoeclaaa
namespace Go.Proofs.Ytieoiklgoeclaaa
open Go.RowKit

theorem zeros_size (v : Array Value) (n : Nat) : (madeCells v n).size = n := by
  unfold madeCells; simp
theorem mk_nodes (n : Nat) (hn : n ≤ 1000000) (w : World) : (Instr.makeSlice 22 (.int .i64 0) (.int .i64 n)).run Try.prog w = .ok (.slice (some ⟨w.heap.size, 0, none⟩) 0 n) (w.alloc (.cells (madeCells #[.int .i64 0, .int .i64 0, .int .u64 0, .string ⟨#[]⟩, .int .i64 0] (n * 5)) 32)) := by
  obtain ⟨i0, hi0, hz0, hz1, hz2⟩ := info_parts info32
  have := run_makeSlice (P := Try.prog) (w := w) 22 32 i0 (.agg #[.int .i64 0, .int .i64 0, .int .u64 0, .string ⟨#[]⟩, .int .i64 0]) Try.underlying22 hi0 hz0 .i64 .i64 0 n (by omega) (by omega) (by rw [hz1]; simp; omega) (by rw [hz2]; omega) (by omega)
  rw [hz1] at this
  simp only [Int.toNat_natCast] at this
  exact this
def marksL (k : Nat) : List Nd := (List.range k).map markN
theorem marksL_succ (k : Nat) : marksL (k + 1) = marksL k ++ [markN k] := by simp [marksL, List.range_succ]
theorem marksL_len (k : Nat) : (marksL k).length = k := by simp [marksL]
set_option maxRecDepth 100000 in
set_option maxHeartbeats 1000000 in
theorem lentN_any (w : World) (a : Option Addr) (c : Nat) (xs : List Nd) (hx : TAt w a xs) (h0 : a = none → c = 0) (hl : xs.length ≤ 900000) :
    Calls Try.prog 29 #[.slice a xs.length c] w fun e w' => ∃ a' c', e = .returned (.slice a' xs.length c') ∧ xs.length + 12 ≤ c' ∧ OwnT w' w.heap.size (.slice a' (xs.length + 12) c') (xs ++ marksL 12) ∧ Below w.heap.size w w' := by
  have hsrc : ∀ V, Below w.heap.size w V → SrcT V (.slice a xs.length c) xs := fun V hV => by
    have := (hx.below hV (Nat.le_refl _)).src (t := ⟨a, c, xs⟩) h0
    unfold TK.v at this
    exact this
  obtain ⟨n, hn⟩ : ∃ n, n = xs.length := ⟨_, rfl⟩
  rw [← hn] at hl hsrc ⊢
  have hmk : ∀ V, (Instr.makeSlice 22 (.int .i64 0) (.int .i64 ((n : Int) + 12))).run Try.prog V = .ok (.slice (some ⟨V.heap.size, 0, none⟩) 0 (n + 12)) (V.alloc (.cells (madeCells #[.int .i64 0, .int .i64 0, .int .u64 0, .string ⟨#[]⟩, .int .i64 0] ((n + 12) * 5)) 32)) := fun V => by
    have := mk_nodes (n + 12) (by omega) V
    rwa [show (((n + 12 : Nat)) : Int) = (n : Int) + 12 by omega] at this
  have q1 : (n : Int) ≤ 900000 := by omega
  have q2 : (0 : Int) ≤ (n : Int) := by omega
  have H := Lib.hid (And.intro hx (And.intro hn hsrc))
  clear hx h0 hn hsrc
  go_enter Try.func29, Try.ntmps29
  go_upto_region 2 with fail
  have hO : OwnT (w.alloc (.cells (madeCells #[.int .i64 0, .int .i64 0, .int .u64 0, .string ⟨#[]⟩, .int .i64 0] ((n + 12) * 5)) 32)) w.heap.size (.slice (some ⟨w.heap.size, 0, none⟩) 0 (n + 12)) [] :=
    ⟨rfl, .inr ⟨w.heap.size, n + 12, _, rfl, Nat.le_refl _, Lies.new w _ 32, Nat.zero_le _, by unfold maxLen; omega, by rw [zeros_size], rfl⟩⟩
  have hb1 : Below w.heap.size w (w.alloc (.cells (madeCells #[.int .i64 0, .int .i64 0, .int .u64 0, .string ⟨#[]⟩, .int .i64 0] ((n + 12) * 5)) 32)) := (Below.refl _ _).alloc (Nat.le_refl _) _
  generalize w.alloc (.cells (madeCells #[.int .i64 0, .int .i64 0, .int .u64 0, .string ⟨#[]⟩, .int .i64 0] ((n + 12) * 5)) 32) = W1 at hO hb1 ⊢
  have H1 := Lib.hid (And.intro hO (And.intro hb1 (H.out.2.2 W1 hb1)))
  clear hO hb1 hmk
  go_wp2_with (at_builtin; go_must (refine wpList_append_T rfl _ _ rfl w.heap.size _ _ [] xs rfl H1.out.1 rfl H1.out.2.2 (by have := H.out.2.1; simp; omega) H1.out.2.1.size ?_; intro v' w2 hown2 hgrow2 hat2))
  obtain ⟨ga, gn, gc, rfl⟩ := hown2.isSlice
  have hb2 := H1.out.2.1.grown hgrow2 H1.out.2.1.size (fun k e => H1.out.1.above e)
  have H2 := Lib.hid (And.intro hown2 hb2)
  clear hown2 hb2 hgrow2 hat2
  go_upto_region 4 with fail
  go_loopw [3, 4] (fun v i W => ∃ (k : Nat) (ga : Option Addr) (gn gc : Nat), k ≤ 12 ∧ v = .slice ga gn gc ∧ i = .int .i64 k ∧ OwnT W w.heap.size (.slice ga gn gc) (xs ++ marksL k) ∧ Below w.heap.size w W) (fun _ i _ => (12 - intOf i).toNat)
  case atStart => exact ⟨0, ga, gn, gc, by omega, rfl, by go_num, by simpa [marksL] using H2.out.1, H2.out.2⟩
  case round =>
    obtain ⟨k, ga, gn, gc, hk, rfl, rfl, hown, hbr⟩ := hrel
    have HR := Lib.hid (And.intro hown hbr)
    clear hown hbr
    by_cases hlt : k < 12
    · have q3 : (k : Int) < 12 := by omega
      have q4 : (0 : Int) ≤ (k : Int) := by omega
      have hmn := markNode_any wr k (by omega)
      unfold markN Nd.cells at hmn
      simp only at hmn
      have HM := Lib.hid hmn
      clear hmn
      go_wp2_with fail
      refine HM.out.mono ?_
      rintro e w4 ⟨rfl, hb4⟩
      have hb5 : Below w4.heap.size w4 (w4.alloc (.cells #[.int .i64 0, .int .i64 0, .int .u64 0, .string ⟨#[]⟩, .int .i64 (8000024 + (k : Int))] 32)) := (Below.refl _ _).alloc (Nat.le_refl _) _
      have ho5 := (HR.out.1.kept hb4).kept hb5
      have hb45 := HR.out.2.trans ((hb4.trans (hb5.mono hb4.size)).mono HR.out.2.size)
      have hs5 := src_node (n := markN k) (Lies.new w4 _ 32)
      unfold markN Nd.cells at hs5
      simp only at hs5
      have HX := Lib.hid (And.intro ho5 (And.intro hb45 hs5))
      clear ho5 hb45 hs5 hb4 hb5
      go_wp2_with (at_builtin; go_must (refine wpList_append_T rfl _ _ rfl w.heap.size _ _ (xs ++ marksL k) [markN k] rfl HX.out.1 rfl HX.out.2.2 (by have := H.out.2.1; simp [marksL_len]; omega) HX.out.2.1.size ?_; intro v' w6 hown6 hgrow6 hat6))
      obtain ⟨ha, hn', hc, rfl⟩ := hown6.isSlice
      have HN := Lib.hid (And.intro hown6 (HX.out.2.1.grown hgrow6 HX.out.2.1.size (fun k e => HX.out.1.above e)))
      clear hown6 hgrow6 hat6
      go_roundw
      case rel => exact ⟨k + 1, ha, hn', hc, by omega, rfl, by go_num, by rw [marksL_succ, ← List.append_assoc]; exact HN.out.1, HN.out.2⟩
      case measure => simp [intOf]; omega
    · have hk12 : k = 12 := by omega
      subst hk12
      have q3 : ¬ ((12 : Nat) : Int) < 12 := by omega
      have hlen : (xs ++ marksL 12).length = n + 12 := by rw [List.length_append, marksL_len, ← H.out.2.1]
      obtain ⟨g, rfl⟩ : ∃ g, ga = some g := by
        rcases HR.out.1.form with ⟨h1, h2⟩ | ⟨g, cap, h1, -⟩
        · rw [h2] at hlen; simp at hlen
        · cases h1; exact ⟨_, rfl⟩
      have htat := HR.out.1.tat (by rw [hlen]; omega) (fun x hx => by
        rcases List.mem_append.1 hx with h | h
        · exact H.out.1.2.2 x h
        · simp only [marksL, List.mem_map, List.mem_range] at h
          obtain ⟨y, hy, rfl⟩ := h
          unfold markN
          simp only
          omega)
      rw [hlen] at htat
      obtain ⟨-, hgn, hgc⟩ := htat
      subst hgn
      have q5 : (n : Int) ≤ (gc : Int) := by omega
      have hroom : n + 12 ≤ gc := hgc
      have HF := Lib.hid (And.intro HR.out.1 HR.out.2)
      clear hlt hlen hgc
      go_wp2_with fail
      go_ret
      exact ⟨some g, gc, rfl, hroom, HF.out.1, HF.out.2⟩
end Go.Proofs.Ytieoiklgoeclaaa
namespace Go.Proofs.Ytieoiklgoeclaaa
open Go.RowKit

set_option maxRecDepth 100000 in
set_option maxHeartbeats 1000000 in
theorem lentT_any (w : World) (a : Option Addr) (c : Nat) (xs : List Nd) (hx : TAt w a xs) (h0 : a = none → c = 0) (hl : xs.length ≤ 900000) :
    Calls Try.prog 9 #[.agg #[.slice a xs.length c]] w fun e w' => ∃ a' c', e = .returned (.agg #[.slice a' xs.length c']) ∧ xs.length + 12 ≤ c' ∧ OwnT w' w.heap.size (.slice a' (xs.length + 12) c') (xs ++ marksL 12) ∧ Below w.heap.size w w' := by
  have hA : Lies ((w.alloc (.cells #[.slice a xs.length c] 24)).alloc (.cells #[.slice none 0 0] 24)) w.heap.size #[.slice a xs.length c] 24 := (Lies.new _ _ _).alloc _
  have hB : Lies ((w.alloc (.cells #[.slice a xs.length c] 24)).alloc (.cells #[.slice none 0 0] 24)) (w.heap.size + 1) #[.slice none 0 0] 24 := by
    have := Lies.new (w.alloc (.cells #[.slice a xs.length c] 24)) #[.slice none 0 0] 24
    simpa using this
  have hb0 : Below w.heap.size w ((w.alloc (.cells #[.slice a xs.length c] 24)).alloc (.cells #[.slice none 0 0] 24)) := ((Below.refl _ _).alloc (Nat.le_refl _) _).alloc (by simp) _
  have hc := lentN_any _ a c xs (hx.below hb0 (Nat.le_refl _)) h0 hl
  obtain ⟨n, hn⟩ : ∃ n, n = xs.length := ⟨_, rfl⟩
  rw [← hn] at hA hB hb0 hc ⊢
  have hsz : ((w.alloc (.cells #[.slice a n c] 24)).alloc (.cells #[.slice none 0 0] 24)).heap.size = w.heap.size + 2 := by simp
  have H := Lib.hid (And.intro hc (And.intro hA (And.intro hB (And.intro hb0 hsz))))
  clear hA hB hb0 hc hx h0 hl hn hsz
  go_enter Try.func9, Try.ntmps9
  go_upto_region 1 with fail
  generalize (w.alloc (.cells #[.slice a n c] 24)).alloc (.cells #[.slice none 0 0] 24) = W0 at H ⊢
  have c0 := H.out.2.1.cell 0 (v := .slice a n c) rfl
  go_wp2_with fail
  refine H.out.1.mono ?_
  rintro e w2 ⟨a', c', rfl, hroom, hown, hb2⟩
  have hq := H.out.2.1.below hb2 H.out.2.1.lt
  have hr := H.out.2.2.1.below hb2 H.out.2.2.1.lt
  have hown2 := hown.setCell ⟨w.heap.size, 0, none⟩ (.slice a' n c') (fun e => by have := hown.above e; have := H.out.2.2.2.2; simp only at *; omega)
  have hr2 : Lies (w2.setCell ⟨w.heap.size, 0, none⟩ (.slice a' n c')) (w.heap.size + 1) #[.slice none 0 0] 24 := (heap_setCell_other w2 ⟨w.heap.size, 0, none⟩ (w.heap.size + 1) (.slice a' n c') (by simp)).trans hr
  have hq2 : Lies (w2.setCell ⟨w.heap.size, 0, none⟩ (.slice a' n c')) w.heap.size #[.slice a' n c'] 24 := hq.set 0 (.slice a' n c')
  have hown3 := hown2.setRow24 hr2 #[.slice a' n c']
  have hb3 := below_setRow ((H.out.2.2.2.1.trans (hb2.mono H.out.2.2.2.1.size)).setCell (p := ⟨w.heap.size, 0, none⟩) (Nat.le_refl _) (.slice a' n c')) (w.heap.size + 1) #[.slice a' n c'] (by omega)
  have hfr := hq.free 0
  have hce := hq.cell 0 (v := .slice a n c) rfl
  have hown4 := hown3.mono (B' := w.heap.size) (by have := H.out.2.2.2.2; omega)
  have HX := Lib.hid (And.intro hr2 (And.intro hown4 (And.intro hb3 hroom)))
  have hc2 := hq2.cell 0 (v := .slice a' n c') rfl
  clear hq hr hown hown2 hr2 hq2 hown3 hown4 hb3 hb2 c0 hroom
  go_wp2_with (refine wpList_store_row rfl 24 _ _ rfl (w.heap.size + 1) #[.slice a' n c'] rfl rfl 24 #[.slice none 0 0] HX.out.1 info24 rfl (by simp [Value.oneCell']) ?_)
  exact bodyPost_ret (v := .agg #[.slice a' n c']) (results_cell_row (p := 2) (ty := 24) (by kernel_rfl) _ _ (w.heap.size + 1) 24 #[.slice a' n c'] (0, 0) _ rfl (HX.out.1.setRow _) Try.underlying24 rfl info24) rfl ⟨a', c', rfl, HX.out.2.2.2, HX.out.2.1, HX.out.2.2.1⟩
end Go.Proofs.Ytieoiklgoeclaaa
namespace Go.Proofs.Ytieoiklgoeclaaa
open Go.RowKit

/-- A term that was lent. -/
def LentV (w : World) (v : Value) (xs : List Nd) : Prop := ∃ a' c', v = .slice a' xs.length c' ∧ xs.length + 12 ≤ c' ∧ OwnT w 0 (.slice a' (xs.length + 12) c') (xs ++ marksL 12)
theorem LentV.alloc {w : World} {v : Value} {xs : List Nd} (h : LentV w v xs) (o : Obj) : LentV (w.alloc o) v xs := by
  obtain ⟨a', c', h1, h2, h3⟩ := h
  exact ⟨a', c', h1, h2, h3.alloc o⟩
theorem LentV.kept {w w' : World} {v : Value} {xs : List Nd} (h : LentV w v xs) (hb : Below w.heap.size w w') : LentV w' v xs := by
  obtain ⟨a', c', h1, h2, h3⟩ := h
  exact ⟨a', c', h1, h2, h3.kept hb⟩
theorem LentV.setRow24 {w : World} {v : Value} {xs : List Nd} (h : LentV w v xs) {k : Nat} {cs : Array Value} (hk : Lies w k cs 24) (cs' : Array Value) : LentV (w.setRow k cs') v xs := by
  obtain ⟨a', c', h1, h2, h3⟩ := h
  exact ⟨a', c', h1, h2, h3.setRow24 hk cs'⟩
theorem LentV.one {w : World} {v : Value} {xs : List Nd} (h : LentV w v xs) : v.oneCell' = true := by
  obtain ⟨a', c', rfl, -⟩ := h
  rfl
structure LIdx where
  c1 : Nat
  c2 : Nat
  a1 : Nat
  a2 : Nat
  d1 : Nat
  d2 : Nat
def lRow (x : LIdx) (r : List Nat) (c1 c2 a1 a2 d1 d2 : Bool) : Bool :=
  r.all (fun i => (i == x.c1 && !c1) || (i == x.c2 && !c2 && c1) || (i == x.a1 && !a1) || (i == x.a2 && !a2) || (i == x.d1 && !d1 && c1 && c2 && a1 && a2) || (i == x.d2 && !d2 && d1 && c1 && c2 && a1 && a2)) &&
    (!r.isEmpty || (c1 && c2 && a1 && a2 && d1 && d2))
abbrev LL := Bool → Bool → Bool → Bool → Bool → Bool → Array Bool
def lReadyB (x : LIdx) (L : LL) (ops : Array Oper) : Bool :=
  [false, true].all fun c1 => [false, true].all fun c2 => [false, true].all fun a1 => [false, true].all fun a2 => [false, true].all fun d1 => [false, true].all fun d2 => lRow x (Region.ready .any ops (L c1 c2 a1 a2 d1 d2)) c1 c2 a1 a2 d1 d2
theorem l_ready {x : LIdx} {L : LL} {ops : Array Oper} (h : lReadyB x L ops = true) (c1 c2 a1 a2 d1 d2 : Bool) :
    (∀ i ∈ Region.ready .any ops (L c1 c2 a1 a2 d1 d2), i = x.c1 ∧ c1 = false ∨ i = x.c2 ∧ c2 = false ∧ c1 = true ∨ i = x.a1 ∧ a1 = false ∨ i = x.a2 ∧ a2 = false ∨
      i = x.d1 ∧ d1 = false ∧ c1 = true ∧ c2 = true ∧ a1 = true ∧ a2 = true ∨ i = x.d2 ∧ d2 = false ∧ d1 = true ∧ c1 = true ∧ c2 = true ∧ a1 = true ∧ a2 = true) ∧
    (Region.ready .any ops (L c1 c2 a1 a2 d1 d2) = [] → c1 = true ∧ c2 = true ∧ a1 = true ∧ a2 = true ∧ d1 = true ∧ d2 = true) := by
  have h2 := all_two (all_two (all_two (all_two (all_two (all_two h c1) c2) a1) a2) d1) d2
  generalize Region.ready .any ops (L c1 c2 a1 a2 d1 d2) = r at h2 ⊢
  unfold lRow at h2
  rw [Bool.and_eq_true, List.all_eq_true] at h2
  refine ⟨fun i hi => ?_, fun e => ?_⟩
  · have := h2.1 i hi
    simp only [Bool.or_eq_true, Bool.and_eq_true, beq_iff_eq, Bool.not_eq_true'] at this
    rcases this with ((((h | h) | h) | h) | h) | h
    · exact .inl h
    · exact .inr (.inl ⟨h.1.1, h.1.2, h.2⟩)
    · exact .inr (.inr (.inl h))
    · exact .inr (.inr (.inr (.inl h)))
    · exact .inr (.inr (.inr (.inr (.inl ⟨h.1.1.1.1.1, h.1.1.1.1.2, h.1.1.1.2, h.1.1.2, h.1.2, h.2⟩))))
    · exact .inr (.inr (.inr (.inr (.inr ⟨h.1.1.1.1.1.1, h.1.1.1.1.1.2, h.1.1.1.1.2, h.1.1.1.2, h.1.1.2, h.1.2, h.2⟩))))
  · have := h2.2
    subst e
    simp only [List.isEmpty_nil, Bool.not_true, Bool.false_or, Bool.and_eq_true] at this
    exact ⟨this.1.1.1.1.1, this.1.1.1.1.2, this.1.1.1.2, this.1.1.2, this.1.2, this.2⟩
/-- What has come up of: two calls, two blocks, two stores. -/
def LI (w0 : World) (p q : List Nd) (L : LL) (a0 : Act) (r1 r2 p1 p2 : Tmp) (l : Array Bool) (a : Act) (w : World) : Prop :=
  ∃ c1 c2 a1 a2 d1 d2 : Bool, l = L c1 c2 a1 a2 d1 d2 ∧ ∃ (f : Tmp → Value) (g1 g2 : Nat) (v1 v2 : Value), a = putF a0 [r1, r2, p1, p2] f ∧
    (c1 = true → f r1 = .agg #[v1] ∧ LentV w v1 p) ∧
    (c2 = true → c1 = true ∧ f r2 = .agg #[v2] ∧ LentV w v2 q) ∧
    (a1 = true → f p1 = .pointer (some ⟨g1, 0, none⟩) ∧ w0.heap.size ≤ g1 ∧ Lies w g1 (if d1 then #[v1] else #[.slice none 0 0]) 24) ∧
    (a2 = true → f p2 = .pointer (some ⟨g2, 0, none⟩) ∧ w0.heap.size ≤ g2 ∧ Lies w g2 (if d2 then #[v2] else #[.slice none 0 0]) 24) ∧
    (a1 = true → a2 = true → g1 ≠ g2) ∧ (d1 = true → c1 = true ∧ c2 = true ∧ a1 = true ∧ a2 = true) ∧ (d2 = true → d1 = true) ∧ Below w0.heap.size w0 w
set_option maxHeartbeats 8000000 in
theorem lpair_any {ops : Array Oper} {Q : Exit → Act → World → Prop} (w0 : World) (p q : List Nd) (x : LIdx) (L : LL) (a0 : Act) (r1 r2 p1 p2 : Tmp)
    (hnd : [r1, r2, p1, p2].Nodup) (hsz : ∀ s ∈ [r1, r2, p1, p2], s < a0.tmps.size) (nv1 nv2 : Value) (oc1 oc2 oa1 oa2 od1 od2 : Oper)
    (ic1 : ops[x.c1]? = some oc1) (gc1 : oc1.guard = none) (dc1 : oc1.dst = some r1) (rc1 : ∀ f w, (execOp (putF a0 [r1, r2, p1, p2] f).eval oc1).run Try.prog w = .ok (.enter 9 #[nv1]) w)
    (ic2 : ops[x.c2]? = some oc2) (gc2 : oc2.guard = none) (dc2 : oc2.dst = some r2) (rc2 : ∀ f w, (execOp (putF a0 [r1, r2, p1, p2] f).eval oc2).run Try.prog w = .ok (.enter 9 #[nv2]) w)
    (ia1 : ops[x.a1]? = some oa1) (ga1 : oa1.guard = none) (da1 : oa1.dst = some p1) (op1 : oa1.op = .alloc 24)
    (ia2 : ops[x.a2]? = some oa2) (ga2 : oa2.guard = none) (da2 : oa2.dst = some p2) (op2 : oa2.op = .alloc 24)
    (id1 : ops[x.d1]? = some od1) (gd1 : od1.guard = none) (dd1 : od1.dst = none) (od1' : od1.op = .store 24 (.tmp p1) (.tmp r1))
    (id2 : ops[x.d2]? = some od2) (gd2 : od2.guard = none) (dd2 : od2.dst = none) (od2' : od2.op = .store 24 (.tmp p2) (.tmp r2))
    (hr : lReadyB x L ops = true)
    (l2 : ∀ c2 a1 a2 d1 d2, (L false c2 a1 a2 d1 d2).setIfInBounds x.c1 true = L true c2 a1 a2 d1 d2)
    (l4 : ∀ c1 a1 a2 d1 d2, (L c1 false a1 a2 d1 d2).setIfInBounds x.c2 true = L c1 true a1 a2 d1 d2)
    (l5 : ∀ c1 c2 a2 d1 d2, (L c1 c2 false a2 d1 d2).setIfInBounds x.a1 true = L c1 c2 true a2 d1 d2)
    (l6 : ∀ c1 c2 a1 d1 d2, (L c1 c2 a1 false d1 d2).setIfInBounds x.a2 true = L c1 c2 a1 true d1 d2)
    (l7 : ∀ c1 c2 a1 a2 d2, (L c1 c2 a1 a2 false d2).setIfInBounds x.d1 true = L c1 c2 a1 a2 true d2)
    (l8 : ∀ c1 c2 a1 a2 d1, (L c1 c2 a1 a2 d1 false).setIfInBounds x.d2 true = L c1 c2 a1 a2 d1 true)
    (hc1 : ∀ W, Below w0.heap.size w0 W → Calls Try.prog 9 #[nv1] W fun e w' => ∃ v, e = .returned (.agg #[v]) ∧ LentV w' v p ∧ Below W.heap.size W w')
    (hc2 : ∀ W, Below w0.heap.size w0 W → Calls Try.prog 9 #[nv2] W fun e w' => ∃ v, e = .returned (.agg #[v]) ∧ LentV w' v q ∧ Below W.heap.size W w')
    (hQ : ∀ f g1 g2 v1 v2 w', w0.heap.size ≤ g1 → w0.heap.size ≤ g2 → Lies w' g1 #[v1] 24 → Lies w' g2 #[v2] 24 → LentV w' v1 p → LentV w' v2 q → Below w0.heap.size w0 w' → f p1 = .pointer (some ⟨g1, 0, none⟩) → f p2 = .pointer (some ⟨g2, 0, none⟩) →
      Q .normal (putF a0 [r1, r2, p1, p2] f) w')
    (w : World) (hb : Below w0.heap.size w0 w) (fuel : Nat) (hfu : (L false false false false false false).toList.count false ≤ fuel) : wpAnyH Try.prog .any ops Q (Below w0.heap.size w0) fuel (L false false false false false false) a0 w := by
  have n24 : r1 ≠ r2 := fun e => by subst e; simp at hnd
  have n25 : r1 ≠ p1 := fun e => by subst e; simp at hnd
  have n26 : r1 ≠ p2 := fun e => by subst e; simp at hnd
  have n45 : r2 ≠ p1 := fun e => by subst e; simp at hnd
  have n46 : r2 ≠ p2 := fun e => by subst e; simp at hnd
  have n56 : p1 ≠ p2 := fun e => by subst e; simp at hnd
  refine wpAnyH_inv (LI w0 p q L a0 r1 r2 p1 p2) ?_ ?_ fuel _ _ _ hfu ?_
  · rintro l a w1 ⟨c1, c2, a1, a2, d1, d2, rfl, f, g1, g2, v1, v2, rfl, k3, k4, k5, k6, -, -, -, k9⟩ hnil
    obtain ⟨rfl, rfl, rfl, rfl, rfl, rfl⟩ := (l_ready hr c1 c2 a1 a2 d1 d2).2 hnil
    exact hQ f g1 g2 v1 v2 w1 (k5 rfl).2.1 (k6 rfl).2.1 (k5 rfl).2.2 (k6 rfl).2.2 (k3 rfl).2 (k4 rfl).2.2 k9 (k5 rfl).1 (k6 rfl).1
  · rintro l a w1 i ⟨c1, c2, a1, a2, d1, d2, rfl, f, g1, g2, v1, v2, rfl, k3, k4, k5, k6, k7, kd1, kd2, k9⟩ hi
    have hs9 := k9.size
    rcases (l_ready hr c1 c2 a1 a2 d1 d2).1 i hi with ⟨rfl, e⟩ | ⟨rfl, e, e2⟩ | ⟨rfl, e⟩ | ⟨rfl, e⟩ | ⟨rfl, e, e1, e2, e3, e4⟩ | ⟨rfl, e, e1, e2, e3, e4, e5⟩
    · subst e
      have hc2f : c2 = false := by
        cases c2
        · rfl
        · have := (k4 rfl).1; cases this
      subst hc2f
      have hd1f : d1 = false := by
        cases d1
        · rfl
        · have := (kd1 rfl).1; cases this
      subst hd1f
      refine wpOp_callTo ic1 gc1 r1 dc1 9 _ (rc1 f w1) (fun v w' => ∃ u, v = .agg #[u] ∧ LentV w' u p ∧ Below w1.heap.size w1 w') ((hc1 w1 k9).mono fun e w' ⟨u, h1, h2, h3⟩ => ⟨_, h1, u, rfl, h2, h3⟩) ?_
      rintro v w' ⟨u, rfl, hu2, hbw⟩
      have hb2 := k9.trans (hbw.mono hs9)
      refine ⟨hb2, ?_⟩
      rw [putF_put _ _ _ _ _ hnd (by simp), l2]
      refine ⟨true, false, a1, a2, false, d2, rfl, _, g1, g2, u, v2, rfl, fun _ => ⟨by rw [if_pos rfl], hu2⟩, (fun h => by cases h), fun h => ?_, fun h => ?_, k7, (fun h => by cases h), kd2, hb2⟩
      · rw [if_neg (Ne.symm n25)]; exact ⟨(k5 h).1, (k5 h).2.1, (k5 h).2.2.below hbw (k5 h).2.2.lt⟩
      · rw [if_neg (Ne.symm n26)]; exact ⟨(k6 h).1, (k6 h).2.1, (k6 h).2.2.below hbw (k6 h).2.2.lt⟩
    · subst e e2
      have hd1f : d1 = false := by
        cases d1
        · rfl
        · have := (kd1 rfl).2.1; cases this
      subst hd1f
      have hd2f : d2 = false := by
        cases d2
        · rfl
        · have := kd2 rfl; cases this
      subst hd2f
      refine wpOp_callTo ic2 gc2 r2 dc2 9 _ (rc2 f w1) (fun v w' => ∃ u, v = .agg #[u] ∧ LentV w' u q ∧ Below w1.heap.size w1 w') ((hc2 w1 k9).mono fun e w' ⟨u, h1, h2, h3⟩ => ⟨_, h1, u, rfl, h2, h3⟩) ?_
      rintro v w' ⟨u, rfl, hu2, hbw⟩
      have hb2 := k9.trans (hbw.mono hs9)
      refine ⟨hb2, ?_⟩
      rw [putF_put _ _ _ _ _ hnd (by simp), l4]
      refine ⟨true, true, a1, a2, false, false, rfl, _, g1, g2, v1, u, rfl, fun h => ?_, fun _ => ⟨rfl, by rw [if_pos rfl], hu2⟩, fun h => ?_, fun h => ?_, k7, (fun h => by cases h), (fun h => by cases h), hb2⟩
      · rw [if_neg n24]; exact ⟨(k3 h).1, (k3 h).2.kept hbw⟩
      · rw [if_neg (Ne.symm n45)]; exact ⟨(k5 h).1, (k5 h).2.1, (k5 h).2.2.below hbw (k5 h).2.2.lt⟩
      · rw [if_neg (Ne.symm n46)]; exact ⟨(k6 h).1, (k6 h).2.1, (k6 h).2.2.below hbw (k6 h).2.2.lt⟩
    · subst e
      have hd1f : d1 = false := by
        cases d1
        · rfl
        · have := (kd1 rfl).2.2.1; cases this
      subst hd1f
      have hb2 := k9.alloc hs9 (.cells #[.slice none 0 0] 24)
      refine wpOp_wp ia1 ga1 (wp_alloc24 op1 ⟨hb2, ?_⟩)
      rw [da1, putF_put _ _ _ _ _ hnd (by simp), l5]
      refine ⟨c1, c2, true, a2, false, d2, rfl, _, w1.heap.size, g2, v1, v2, rfl, fun h => ?_, fun h => ?_, fun _ => ⟨by rw [if_pos rfl], hs9, Lies.new _ _ _⟩, fun h => ?_, fun _ h => ?_, (fun h => by cases h), kd2, hb2⟩
      · rw [if_neg n25]; exact ⟨(k3 h).1, (k3 h).2.alloc _⟩
      · rw [if_neg n45]; exact ⟨(k4 h).1, (k4 h).2.1, (k4 h).2.2.alloc _⟩
      · rw [if_neg (Ne.symm n56)]; exact ⟨(k6 h).1, (k6 h).2.1, (k6 h).2.2.alloc _⟩
      · have := (k6 h).2.2.lt; omega
    · subst e
      have hd1f : d1 = false := by
        cases d1
        · rfl
        · have := (kd1 rfl).2.2.2; cases this
      subst hd1f
      have hd2f : d2 = false := by
        cases d2
        · rfl
        · have := kd2 rfl; cases this
      subst hd2f
      have hb2 := k9.alloc hs9 (.cells #[.slice none 0 0] 24)
      refine wpOp_wp ia2 ga2 (wp_alloc24 op2 ⟨hb2, ?_⟩)
      rw [da2, putF_put _ _ _ _ _ hnd (by simp), l6]
      refine ⟨c1, c2, a1, true, false, false, rfl, _, g1, w1.heap.size, v1, v2, rfl, fun h => ?_, fun h => ?_, fun h => ?_, fun _ => ⟨by rw [if_pos rfl], hs9, Lies.new _ _ _⟩, fun h _ => ?_, (fun h => by cases h), (fun h => by cases h), hb2⟩
      · rw [if_neg n26]; exact ⟨(k3 h).1, (k3 h).2.alloc _⟩
      · rw [if_neg n46]; exact ⟨(k4 h).1, (k4 h).2.1, (k4 h).2.2.alloc _⟩
      · rw [if_neg n56]; exact ⟨(k5 h).1, (k5 h).2.1, (k5 h).2.2.alloc _⟩
      · have := (k5 h).2.2.lt; omega
    · subst e e1 e2 e3 e4
      have hd2f : d2 = false := by
        cases d2
        · rfl
        · have := kd2 rfl; cases this
      subst hd2f
      obtain ⟨hr1, ho1⟩ := k3 rfl
      obtain ⟨-, hr2, ho2⟩ := k4 rfl
      obtain ⟨hp1, hg1, y1⟩ := k5 rfl
      obtain ⟨hp2, hg2, y2⟩ := k6 rfl
      have hv1 := ho1.one
      have hb2 := below_setRow k9 g1 #[v1] hg1
      refine wpOp_wp id1 gd1 (wp_store_row 24 (.tmp p1) (.tmp r1) od1' g1 #[v1] ((putF_eval a0 f p1 (hsz p1 (by simp)) _ (by simp)).trans hp1) ((putF_eval a0 f r1 (hsz r1 (by simp)) _ (by simp)).trans hr1) 24 _ y1 info24 rfl (by simp [hv1]) ⟨hb2, ?_⟩)
      rw [dd1, put_none, l7]
      exact ⟨true, true, true, true, true, false, rfl, f, g1, g2, v1, v2, rfl, fun _ => ⟨hr1, ho1.setRow24 y1 _⟩, fun _ => ⟨rfl, hr2, ho2.setRow24 y1 _⟩, fun _ => ⟨hp1, hg1, y1.setRow _⟩, fun _ => ⟨hp2, hg2, y2.setRowOther _ _ (Ne.symm (k7 rfl rfl))⟩, k7, fun _ => ⟨rfl, rfl, rfl, rfl⟩, (fun h => by cases h), hb2⟩
    · subst e e1 e2 e3 e4 e5
      obtain ⟨hr1, ho1⟩ := k3 rfl
      obtain ⟨-, hr2, ho2⟩ := k4 rfl
      obtain ⟨hp1, hg1, y1⟩ := k5 rfl
      obtain ⟨hp2, hg2, y2⟩ := k6 rfl
      have hv2 := ho2.one
      have hb2 := below_setRow k9 g2 #[v2] hg2
      refine wpOp_wp id2 gd2 (wp_store_row 24 (.tmp p2) (.tmp r2) od2' g2 #[v2] ((putF_eval a0 f p2 (hsz p2 (by simp)) _ (by simp)).trans hp2) ((putF_eval a0 f r2 (hsz r2 (by simp)) _ (by simp)).trans hr2) 24 _ y2 info24 rfl (by simp [hv2]) ⟨hb2, ?_⟩)
      rw [dd2, put_none, l8]
      exact ⟨true, true, true, true, true, true, rfl, f, g1, g2, v1, v2, rfl, fun _ => ⟨hr1, ho1.setRow24 y2 _⟩, fun _ => ⟨rfl, hr2, ho2.setRow24 y2 _⟩, fun _ => ⟨hp1, hg1, y1.setRowOther _ _ (k7 rfl rfl)⟩, fun _ => ⟨hp2, hg2, y2.setRow _⟩, k7, fun _ => ⟨rfl, rfl, rfl, rfl⟩, fun _ => rfl, hb2⟩
  · exact ⟨false, false, false, false, false, false, rfl, fun t => a0.tmps.getD t undef, 0, 0, .slice none 0 0, .slice none 0 0, (putF_self a0 _).symm, (fun h => by cases h), (fun h => by cases h), (fun h => by cases h), (fun h => by cases h), (fun h => by cases h), (fun h => by cases h), (fun h => by cases h), hb⟩
end Go.Proofs.Ytieoiklgoeclaaa
