/-
  TermRow: which of the terms of ends are right; numbers and lists in memory of the call's own.
  TermRow: number (13) and of (7) by what they own; ends (11).
  TermRow: ends (11).
-/
import Derived.Test.YtieoiklgoeclaaaGreatGh
namespace Go.Proofs.YtieoiklgoeclaaaGreat
open Go.RowKit

def GoodN (x : Nd) : Prop := (x.kind = 1 ∧ x.bits = 0 ∧ x.txt = ⟨#[]⟩ ∧ x.kids = 0) ∨ (x.kind = 4 ∧ x.num = 0 ∧ x.bits = 0 ∧ x.txt = ⟨#[]⟩)
theorem good_kind {xs : List Nd} {E : Nat → Nat} {i : Nat} {x : Nd} (h : GoodN x) : kindB xs E i x = true := by
  obtain ⟨k, n, b, t, d⟩ := x
  unfold GoodN at h
  simp only at h
  rcases h with ⟨rfl, rfl, rfl, rfl⟩ | ⟨rfl, rfl, rfl, rfl⟩ <;> simp [kindB, justB]
theorem right_good (f : Fo) (hf : f.cnt = 1) (h : ∀ x ∈ f.flat, GoodN x) : rightB f.flat = (decide (f.len ≤ 100) && decide (f.dep ≤ 16)) := by
  have hin := inO_fo f hf
  obtain ⟨E, D, hl, -⟩ := laid_fo f hf
  unfold rightB
  rw [fitsB_laid hl, deep_fo f hf, Fo.flat_len, kindsB_true fun i hi => good_kind (h _ (List.getElem_mem hi)), Bool.and_true]
  congr 1
  · rw [Bool.eq_iff_iff, decide_eq_true_eq, decide_eq_true_eq]; omega
  · rw [Bool.eq_iff_iff, decide_eq_true_eq, decide_eq_true_eq]; omega
/-- So many numbers, one behind the other. -/
def numsFo : Nat → Nat → Fo
  | 0, _ => .nil
  | k + 1, i => .cons (nN (i : Nat)) .nil (numsFo k (i + 1))
theorem numsFo_flat : ∀ k i, (numsFo k i).flat = (List.range k).flatMap (fun j => [nN ((i + j : Nat) : Int)])
  | 0, i => rfl
  | k + 1, i => by
    rw [List.range_succ_eq_map, List.flatMap_cons, List.flatMap_map]
    simp only [numsFo, Fo.flat, List.nil_append, List.singleton_append, numsFo_flat k (i + 1)]
    congr 1
    congr 1
    funext j
    rw [show i + 1 + j = i + (j + 1) by omega]
theorem numsFo_cnt : ∀ k i, (numsFo k i).cnt = k ∧ (numsFo k i).len = k ∧ (numsFo k i).dep ≤ 1
  | 0, i => ⟨rfl, rfl, by simp [numsFo, Fo.dep]⟩
  | k + 1, i => by
    obtain ⟨h1, h2, h3⟩ := numsFo_cnt k (i + 1)
    refine ⟨by simp [numsFo, Fo.cnt, h1], by simp [numsFo, Fo.len, h2]; try omega, ?_⟩
    simp only [numsFo, Fo.dep]
    omega
def numsL (n : Nat) : List (List Nd) := (List.range n).map fun i : Nat => [nN (i : Int)]
theorem numsL_succ (n : Nat) : numsL (n + 1) = numsL n ++ [[nN (n : Int)]] := by simp [numsL, List.range_succ]
theorem numsL_len (n : Nat) : (numsL n).length = n := by simp [numsL]
theorem wide_fo (n : Nat) : joinL (nK 4) (numsL n) = (Fo.cons (nK 4) (numsFo n 0) .nil).flat := by
  unfold joinL
  rw [numsL_len]
  simp only [Fo.flat, (numsFo_cnt n 0).1, List.append_nil, numsFo_flat]
  congr 1
  simp [numsL, List.flatMap]
theorem wide_len (n : Nat) : (joinL (nK 4) (numsL n)).length = n + 1 := by
  rw [wide_fo, Fo.flat_len]
  simp only [Fo.len, (numsFo_cnt n 0).2.1]
  omega
theorem wide_right (n : Nat) : rightB (joinL (nK 4) (numsL n)) = decide (n < 100) := by
  rw [wide_fo, right_good _ rfl]
  · obtain ⟨-, h2, h3⟩ := numsFo_cnt n 0
    rw [Bool.eq_iff_iff, Bool.and_eq_true, decide_eq_true_eq, decide_eq_true_eq, decide_eq_true_eq]
    simp only [Fo.len, Fo.dep, h2]
    omega
  · intro x hx
    simp only [Fo.flat, List.append_nil, List.mem_cons, numsFo_flat, List.mem_flatMap, List.mem_singleton] at hx
    rcases hx with rfl | ⟨j, -, hx⟩
    · exact .inr ⟨rfl, rfl, rfl, rfl⟩
    · simp only [List.not_mem_nil, or_false] at hx
      rw [hx]
      exact .inl ⟨rfl, rfl, rfl, rfl⟩
/-- A list of a list .. of a number. -/
def deepFo : Nat → Fo
  | 0 => .cons (nN 7) .nil .nil
  | n + 1 => .cons (nK 4) (deepFo n) .nil
theorem deepFo_cnt : ∀ n, (deepFo n).cnt = 1 ∧ (deepFo n).len = n + 1 ∧ (deepFo n).dep = n + 1 ∧ ∀ x ∈ (deepFo n).flat, GoodN x
  | 0 => ⟨rfl, rfl, rfl, fun x hx => by
    simp only [deepFo, Fo.flat, List.append_nil, List.mem_singleton] at hx
    rw [hx]; exact .inl ⟨rfl, rfl, rfl, rfl⟩⟩
  | n + 1 => by
    obtain ⟨h1, h2, h3, h4⟩ := deepFo_cnt n
    refine ⟨rfl, by simp only [deepFo, Fo.len, h2]; try omega, by simp only [deepFo, Fo.dep, h3]; try omega, fun x hx => ?_⟩
    simp only [deepFo, Fo.flat, List.append_nil, List.mem_cons] at hx
    rcases hx with rfl | hx
    · exact .inr ⟨rfl, rfl, rfl, rfl⟩
    · exact h4 x hx
theorem deep_join (n : Nat) : joinL (nK 4) [(deepFo n).flat] = (deepFo (n + 1)).flat := by
  unfold joinL
  simp [deepFo, Fo.flat, (deepFo_cnt n).1]
theorem deep_right (n : Nat) : rightB (deepFo n).flat = decide (n < 16) := by
  obtain ⟨h1, h2, h3, h4⟩ := deepFo_cnt n
  rw [right_good _ h1 h4, h2, h3, Bool.eq_iff_iff, Bool.and_eq_true, decide_eq_true_eq, decide_eq_true_eq, decide_eq_true_eq]
  omega
theorem deep_len (n : Nat) : (deepFo n).flat.length = n + 1 := by rw [Fo.flat_len, (deepFo_cnt n).2.1]
theorem blob_right (s : ByteArray) : rightB [nB s] = decide (s.size ≤ 200) := by
  obtain ⟨E, D, hl, -⟩ := laid_fo (Fo.cons (nB s) .nil .nil) rfl
  have hd := deep_fo (Fo.cons (nB s) .nil .nil) rfl
  have e : (Fo.cons (nB s) .nil .nil).flat = [nB s] := rfl
  rw [e] at hl hd
  unfold rightB
  rw [fitsB_laid hl, hd]
  have hk : kindsB [nB s] E = decide (s.size ≤ 200) := by
    cases h : decide (s.size ≤ 200) with
    | true =>
      refine kindsB_true fun i hi => ?_
      have hi0 : i = 0 := by simpa using hi
      subst hi0
      simp only [List.getElem_cons_zero]
      simp only [decide_eq_true_eq] at h
      simp [kindB, nB, justB, h]
    | false =>
      refine kindsB_false 0 (by simp) ?_
      simp only [List.getElem_cons_zero]
      simp only [decide_eq_false_iff_not] at h
      simp [kindB, nB, justB, h]
  rw [hk]
  simp [Fo.dep]
theorem ownT_one {w : World} {g : Nat} {x : Nd} (h : Lies w g x.cells 36) (B : Nat) (hB : B ≤ g) : OwnT w B (.slice (some ⟨g, 0, none⟩) 1 1) [x] :=
  ⟨rfl, .inr ⟨g, 1, x.cells, rfl, hB, h, Nat.le_refl _, by unfold maxLen; omega, rfl, by simp [cellsL, Nd.cells]⟩⟩
theorem tgO {w : World} {B : Nat} {a : Option Addr} {n c : Nat} {xs : List Nd} (h : OwnT w B (.slice a n c) xs) (hl : xs.length ≤ 1000000) (hk : ∀ x ∈ xs, x.kids ≤ 9223372036854775807) (hw : Words xs) (ht : ∀ x ∈ xs, x.txt.size ≤ 1000000000000) : TG w ⟨a, c, xs⟩ ∧ n = xs.length := by
  obtain ⟨h1, h2, h3⟩ := h.tat hl hk
  refine ⟨⟨h1, by simp only; omega, fun e => ?_, hw, ht⟩, h2⟩
  simp only at e
  subst e
  rcases h.form with ⟨k1, -⟩ | ⟨g, cap, k1, -⟩
  · cases k1; rfl
  · cases k1
theorem good_tg {xs : List Nd} (h : ∀ x ∈ xs, GoodN x) : Words xs ∧ ∀ x ∈ xs, x.txt.size ≤ 1000000000000 := by
  refine ⟨fun x hx => ?_, fun x hx => ?_⟩
  · rcases h x hx with ⟨-, h1, -⟩ | ⟨-, -, h1, -⟩ <;> rw [h1] <;> exact (by decide : (0 : Nat) < 2 ^ 64)
  · rcases h x hx with ⟨-, -, h1, -⟩ | ⟨-, -, -, h1⟩ <;> rw [h1] <;> exact Nat.zero_le _
end Go.Proofs.YtieoiklgoeclaaaGreat
namespace Go.Proofs.YtieoiklgoeclaaaGreat
open Go.RowKit

set_option maxRecDepth 100000 in
theorem numO (w : World) (n : Int) : Calls Tryz.prog 13 #[.int .i64 n] w fun e w' => ∃ g, e = .returned (.agg #[.slice (some ⟨g, 0, none⟩) 1 1]) ∧ w.heap.size ≤ g ∧ Lies w' g (nN n).cells 36 ∧ Below w.heap.size w w' := by
  have hL : Lies ((w.alloc (.cells #[.slice (some ⟨w.heap.size + 1, 0, none⟩) 1 1] 27)).alloc (.cells #[.int .i64 1, .int .i64 n, .int .u64 0, .string ⟨#[]⟩, .int .i64 0] 36)) (w.heap.size + 1) #[.int .i64 1, .int .i64 n, .int .u64 0, .string ⟨#[]⟩, .int .i64 0] 36 := by
    have := Lies.new (w.alloc (.cells #[.slice (some ⟨w.heap.size + 1, 0, none⟩) 1 1] 27)) #[.int .i64 1, .int .i64 n, .int .u64 0, .string ⟨#[]⟩, .int .i64 0] 36
    simpa using this
  have hb : Below w.heap.size w ((w.alloc (.cells #[.slice (some ⟨w.heap.size + 1, 0, none⟩) 1 1] 27)).alloc (.cells #[.int .i64 1, .int .i64 n, .int .u64 0, .string ⟨#[]⟩, .int .i64 0] 36)) := ((Below.refl _ _).alloc (Nat.le_refl _) _).alloc (by simp) _
  have H := Lib.hid (And.intro hL hb)
  clear hL hb
  go_enter Tryz.func13, Tryz.ntmps13
  go_wp2_with fail
  exact bodyPost_ret (v := .agg #[.slice (some ⟨w.heap.size + 1, 0, none⟩) 1 1]) (by simp [results, Tryz.results13, go_sem]) rfl ⟨_, rfl, Nat.le_succ _, H.out.1, H.out.2⟩
set_option maxRecDepth 100000 in
theorem ofO (w : World) (k : Int) (ad : Option Addr) (c : Nat) (l : List TK) (L : List (List Nd)) (hL : l.map TK.xs = L) (hT : TsAt w ad l) (hnil : NilOk l) (hlen : 1 + L.flatten.length ≤ 1000000) (hm : l.length ≤ 1000000) (m : Nat) (hml : m = l.length) :
    Calls Tryz.prog 7 #[.int .i64 k, .slice ad m c] w fun e w' => ∃ a n c', e = .returned (.agg #[.slice a n c']) ∧ OwnT w' w.heap.size (.slice a n c') (joinL (nK k) L) ∧ Below w.heap.size w w' := by
  subst hL
  have hb : Below w.heap.size w (w.alloc (.cells #[.slice none 0 0] 27)) := (Below.refl _ _).alloc (Nat.le_refl _) _
  have hj := rjoin_any (w.alloc (.cells #[.slice none 0 0] 27)) (nK k) ad c l (hT.below hb (Nat.le_refl _)) hnil hlen hm
  have hA := Lies.new w #[.slice none 0 0] 27
  have H := Lib.hid (And.intro hj (And.intro hb hA))
  rw [← hml] at H
  clear hj hb hA hlen hm hT hnil hml
  unfold nK Nd.cells at H
  obtain ⟨R, hR⟩ : ∃ R, R = joinL (nK k) (l.map TK.xs) := ⟨_, rfl⟩
  rw [← hR]
  have HR := Lib.hid hR
  clear hR
  go_enter Tryz.func7, Tryz.ntmps7
  go_wp2_with fail
  refine H.out.1.mono ?_
  rintro e w2 ⟨v, rfl, ho, hb2⟩
  obtain ⟨va, vn, vc, rfl⟩ := ho.isSlice
  have hA2 := H.out.2.2.below hb2 H.out.2.2.lt
  have HX := Lib.hid (And.intro ho (And.intro hA2 hb2))
  clear ho hA2 hb2
  go_wp2_with (refine wpList_store_row rfl 27 _ _ rfl w.heap.size #[.slice va vn vc] rfl rfl 27 #[.slice none 0 0] HX.out.2.1 info24 rfl (by simp [Value.oneCell']) ?_)
  have h1 := OwnT.setRow HX.out.1 w.heap.size #[.slice va vn vc] (by simp)
  refine bodyPost_ret (v := .agg #[.slice va vn vc]) (results_cell_row (p := 4) (ty := 27) (by kernel_rfl) _ _ w.heap.size 27 #[.slice va vn vc] (0, 0) _ rfl (HX.out.2.1.setRow _) Tryz.underlying27 rfl info24) rfl ⟨va, vn, vc, rfl, by rw [HR.out]; exact h1.mono (by simp), below_setRow (H.out.2.1.trans (HX.out.2.2.mono H.out.2.1.size)) _ _ (Nat.le_refl _)⟩
theorem OwnK.setBox {w : World} {B : Nat} {v : Value} {l : List TK} (h : OwnK w B v l) {d : Nat} {cs : Array Value} (hd : Lies w d cs 27) (hdB : d < B) (cs' : Array Value) : OwnK (w.setRow d cs') B v l := by
  refine ⟨⟨h.1.1, ?_⟩, fun t ht => (h.2 t ht).setRow24 hd cs'⟩
  rcases h.1.2 with hn | ⟨g, cap, cur, h1, h2, h3, h4⟩
  · exact .inl hn
  · exact .inr ⟨g, cap, cur, h1, h2, (setRow_other w d g cs' (by omega)).trans h3, h4⟩
theorem numsL_good (n : Nat) : ∀ x ∈ joinL (nK 4) (numsL n), GoodN x := fun x hx => by
  simp only [joinL, List.mem_cons, numsL, List.mem_flatten, List.mem_map] at hx
  rcases hx with rfl | ⟨_, ⟨j, -, rfl⟩, hx⟩
  · exact .inr ⟨rfl, rfl, rfl, rfl⟩
  · rw [List.mem_singleton.1 hx]
    exact .inl ⟨rfl, rfl, rfl, rfl⟩
theorem numsL_kids (n : Nat) (hn : n ≤ 1000) : ∀ x ∈ joinL (nK 4) (numsL n), x.kids ≤ 9223372036854775807 := fun x hx => by
  simp only [joinL, List.mem_cons, numsL, List.mem_flatten, List.mem_map, List.length_map, List.length_range] at hx
  rcases hx with rfl | ⟨_, ⟨j, -, rfl⟩, hx⟩
  · simp only; omega
  · rw [List.mem_singleton.1 hx]
    simp [nN]
theorem deep_kids : ∀ n, ∀ x ∈ (deepFo n).flat, x.kids ≤ 1
  | 0, x, hx => by
    simp only [deepFo, Fo.flat, List.append_nil, List.mem_singleton] at hx
    rw [hx]; simp [Fo.cnt]
  | n + 1, x, hx => by
    simp only [deepFo, Fo.flat, List.append_nil, List.mem_cons] at hx
    rcases hx with rfl | hx
    · rw [(deepFo_cnt n).1]; simp
    · exact deep_kids n x hx
theorem nums_flat_len (n : Nat) : (numsL n).flatten.length = n := by
  have := wide_len n
  simp only [joinL, List.length_cons] at this
  omega
end Go.Proofs.YtieoiklgoeclaaaGreat
namespace Go.Proofs.YtieoiklgoeclaaaGreat
open Go.RowKit

theorem ownK_ts {w : World} {B n : Nat} {v : Value} {l : List TK} (h : OwnK w B v l) (hl : l.map TK.xs = numsL n) : ∃ a c, v = .slice a n c ∧ TsAt w a l ∧ NilOk l ∧ n = l.length := by
  have hn : n = l.length := by have := congrArg List.length hl; rw [List.length_map, numsL_len] at this; exact this.symm
  have hin : ∀ t ∈ l, ∃ j : Nat, t.xs = [nN (j : Int)] := fun t ht => by
    have : t.xs ∈ numsL n := by rw [← hl]; exact List.mem_map.2 ⟨t, ht, rfl⟩
    obtain ⟨j, -, hj⟩ := List.mem_map.1 this
    exact ⟨j, hj.symm⟩
  obtain ⟨a, c, hv, -, -, hts⟩ := h.ts (fun t ht => by
    obtain ⟨j, hj⟩ := hin t ht
    rw [hj]
    exact ⟨by simp, (fun y hy => by rw [List.mem_singleton.1 hy]; simp), (fun y hy => by rw [List.mem_singleton.1 hy]; exact Nat.zero_le _)⟩)
  refine ⟨a, c, by rw [hv, hn], hts, fun t ht e => ?_, hn⟩
  have ho := h.2 t ht
  unfold TK.v at ho
  rw [e] at ho
  rcases ho.form with ⟨k1, -⟩ | ⟨g, cap, k1, -⟩
  · injection k1 with _ _ k3
  · cases k1
set_option maxRecDepth 100000 in
set_option maxHeartbeats 8000000 in
theorem ends2_any (w : World) : Calls Tryz.prog 11 #[] w fun e w' => e = .returned (.bool true) ∧ Below w.heap.size w w' := by
  go_enter Tryz.func11, Tryz.ntmps11
  go_wp2_with fail
  refine (numO _ 7).mono ?_
  rintro e w1 ⟨g1, rfl, hg1, hl1, hb1⟩
  have H1 := Lib.hid (And.intro hl1 hb1)
  have HG1 := Lib.hid hg1
  clear hl1 hb1 hg1
  go_upto_region 5 with fail
  have hdL := Lies.new w1 #[.slice (some ⟨g1, 0, none⟩) 1 1] 27
  have hd1 : Below w1.heap.size w1 (w1.alloc (.cells #[.slice (some ⟨g1, 0, none⟩) 1 1] 27)) := (Below.refl _ _).alloc (Nat.le_refl _) _
  generalize w1.alloc (.cells #[.slice (some ⟨g1, 0, none⟩) 1 1] 27) = W1 at hdL hd1 ⊢
  obtain ⟨d, hd⟩ : ∃ d, d = w1.heap.size := ⟨_, rfl⟩
  have hwd : w.heap.size ≤ d := by rw [hd]; exact H1.out.2.size
  rw [← hd] at hdL ⊢
  have HW := Lib.hid hwd
  go_loopw [1, 3, 4] (fun v s i W => ∃ (n : Nat) (ii : Int) (va : Option Addr) (vc : Nat) (l : List TK) (str : ByteArray) (da : Option Addr) (dn dc : Nat), n ≤ 202 ∧ ii = n ∧ v = .slice va n vc ∧ s = .string str ∧ i = .int .i64 ii ∧ str.size = n ∧ OwnK W (d + 1) (.slice va n vc) l ∧ l.map TK.xs = numsL n ∧ OwnT W 0 (.slice da dn dc) (deepFo n).flat ∧ Lies W d #[.slice da dn dc] 27 ∧ Below w.heap.size w W) (fun _ _ i _ => (202 - intOf i).toNat)
  case atStart => exact ⟨0, 0, none, 0, [], ⟨#[]⟩, some ⟨g1, 0, none⟩, 1, 1, by omega, rfl, rfl, rfl, rfl, rfl, ⟨World.ownsRow_nil _ _ _ _, (fun t ht => by cases ht)⟩, rfl, ownT_one (x := nN 7) (H1.out.1.below hd1 H1.out.1.lt) 0 (Nat.zero_le _), hdL, H1.out.2.trans (hd1.mono H1.out.2.size)⟩
  case round =>
    obtain ⟨n, ii, va, vc, l, str, da, dn, dc, hn, hii, rfl, rfl, rfl, hss, hown, hlk, hdeep, hbox, hbr⟩ := hrel
    have q0 : (0 : Int) ≤ ii := by omega
    have q9 : ii ≤ 202 := by omega
    by_cases hlt : n < 202
    · have q1 : ii < 202 := by omega
      obtain ⟨va', vc', hv, hts, hnil, hnl⟩ := ownK_ts hown hlk
      cases hv
      have k7 := ofO wr 4 va vc l (numsL n) hlk hts hnil (by rw [nums_flat_len]; omega) (by omega) n hnl
      have HR := Lib.hid (And.intro hown (And.intro hlk (And.intro hdeep (And.intro hbox (And.intro hbr (And.intro hss (And.intro hii hnl)))))))
      have HK7 := Lib.hid k7
      have hds : Hid (d < wr.heap.size) := Lib.hid hbox.lt
      have hws : Hid (w.heap.size ≤ wr.heap.size) := Lib.hid hbr.size
      clear hown hlk hdeep hbox hbr hts hnil k7 hd hd1 hdL hwd hii hss hnl
      go_wp2_with fail
      refine HK7.out.mono ?_
      rintro e w2 ⟨a5, n5, c5, rfl, ho5, hb2⟩
      have H2 := Lib.hid (And.intro ho5 hb2)
      clear ho5 hb2
      go_upto_region 8 with fail
      have hL3 := Lies.new w2 #[.slice a5 n5 c5] 27
      have hb3 : Below w2.heap.size w2 (w2.alloc (.cells #[.slice a5 n5 c5] 27)) := (Below.refl _ _).alloc (Nat.le_refl _) _
      generalize w2.alloc (.cells #[.slice a5 n5 c5] 27) = W3 at hL3 hb3 ⊢
      have hb13 := H2.out.2.trans (hb3.mono H2.out.2.size)
      have htw : TG W3 ⟨a5, c5, joinL (nK 4) (numsL n)⟩ ∧ n5 = (joinL (nK 4) (numsL n)).length := by
        obtain ⟨k1, k2⟩ := good_tg (numsL_good n)
        exact tgO (H2.out.1.kept hb3) (by rw [wide_len]; omega) (numsL_kids n (by omega)) k1 k2
      have htd : TG W3 ⟨da, dc, (deepFo n).flat⟩ ∧ dn = (deepFo n).flat.length := by
        obtain ⟨k1, k2⟩ := good_tg (deepFo_cnt n).2.2.2
        exact tgO (HR.out.2.2.1.kept hb13) (by rw [deep_len]; omega) (fun x hx => by have := deep_kids n x hx; omega) k1 k2
      have hS : ∀ V, Below W3.heap.size W3 V → V.cell? ⟨w2.heap.size, 0, none⟩ = some (.slice a5 n5 c5) ∧ V.cell? ⟨d, 0, none⟩ = some (.slice da dn dc) := fun V hV =>
        ⟨(hL3.below hV hL3.lt).cell 0 rfl, (HR.out.2.2.2.1.below (hb13.trans (hV.mono hb13.size)) HR.out.2.2.2.1.lt).cell 0 rfl⟩
      have up : ∀ (V : World) (v : Value), Below W3.heap.size W3 V → ∀ e w', (e = Ending.returned v ∧ Below V.heap.size V w') → (e = Ending.returned v ∧ Below W3.heap.size W3 w') := fun V v hV e w' k => ⟨k.1, hV.trans (k.2.mono hV.size)⟩
      obtain ⟨b1, hb1⟩ : ∃ b, decide (ii < 100) = b := ⟨_, rfl⟩
      obtain ⟨b2, hb2'⟩ : ∃ b, decide (ii < 16) = b := ⟨_, rfl⟩
      obtain ⟨b3, hb3'⟩ : ∃ b, decide (ii ≤ 200) = b := ⟨_, rfl⟩
      have e1 : rightB (joinL (nK 4) (numsL n)) = b1 := by rw [wide_right, ← hb1, Bool.eq_iff_iff, decide_eq_true_eq, decide_eq_true_eq, HR.out.2.2.2.2.2.2.1]; omega
      have e2 : rightB (deepFo n).flat = b2 := by rw [deep_right, ← hb2', Bool.eq_iff_iff, decide_eq_true_eq, decide_eq_true_eq, HR.out.2.2.2.2.2.2.1]; omega
      have e3 : rightB [nB str] = b3 := by rw [blob_right, ← hb3', Bool.eq_iff_iff, decide_eq_true_eq, decide_eq_true_eq, HR.out.2.2.2.2.2.2.1, HR.out.2.2.2.2.2.1]; omega
      have t6a : ∀ V, Below W3.heap.size W3 V → Calls Tryz.prog 6 #[.agg #[.slice a5 n5 c5], .agg #[.slice da dn dc]] V fun e w' => e = .returned (.bool true) ∧ Below W3.heap.size W3 w' := fun V hV => (tellsG V _ _ n5 dn htw.2 htd.2 (htw.1.below hV) (htd.1.below hV)).mono (up V _ hV)
      have t6b : ∀ V, Below W3.heap.size W3 V → Calls Tryz.prog 6 #[.agg #[.slice da dn dc], .agg #[.slice a5 n5 c5]] V fun e w' => e = .returned (.bool true) ∧ Below W3.heap.size W3 w' := fun V hV => (tellsG V _ _ dn n5 htd.2 htw.2 (htd.1.below hV) (htw.1.below hV)).mono (up V _ hV)
      have t14 : ∀ V, Below W3.heap.size W3 V → Calls Tryz.prog 14 #[.string str] V fun e w' => ∃ a c, e = .returned (.agg #[.slice a 1 c]) ∧ TG w' ⟨a, c, [nB str]⟩ ∧ Below W3.heap.size W3 w' := fun V hV => (blobG V str (by have := HR.out.2.2.2.2.2.1; omega)).mono fun e w' ⟨a, c, h1, h2, h3⟩ => ⟨a, c, h1, h2, hV.trans (h3.mono hV.size)⟩
      have t6c : ∀ V a c, Below W3.heap.size W3 V → TG V ⟨a, c, [nB str]⟩ → Calls Tryz.prog 6 #[.agg #[.slice a 1 c], .agg #[.slice a5 n5 c5]] V fun e w' => e = .returned (.bool true) ∧ Below W3.heap.size W3 w' := fun V a c hV h => (tellsG V ⟨a, c, [nB str]⟩ _ 1 n5 rfl htw.2 h (htw.1.below hV)).mono (up V _ hV)
      have t8w : ∀ V, Below W3.heap.size W3 V → Calls Tryz.prog 8 #[.agg #[.slice a5 n5 c5]] V fun e w' => e = .returned (.bool b1) ∧ Below W3.heap.size W3 w' := fun V hV => by
        have := rightG V _ n5 htw.2 (htw.1.below hV)
        simp only [e1] at this
        exact this.mono (up V _ hV)
      have t8d : ∀ V, Below W3.heap.size W3 V → Calls Tryz.prog 8 #[.agg #[.slice da dn dc]] V fun e w' => e = .returned (.bool b2) ∧ Below W3.heap.size W3 w' := fun V hV => by
        have := rightG V _ dn htd.2 (htd.1.below hV)
        simp only [e2] at this
        exact this.mono (up V _ hV)
      have t8b : ∀ V a c, Below W3.heap.size W3 V → TG V ⟨a, c, [nB str]⟩ → Calls Tryz.prog 8 #[.agg #[.slice a 1 c]] V fun e w' => e = .returned (.bool b3) ∧ Below W3.heap.size W3 w' := fun V a c hV h => by
        have := rightG V ⟨a, c, [nB str]⟩ 1 rfl h
        simp only [e3] at this
        exact this.mono (up V _ hV)
      have HS := Lib.hid (And.intro hS (And.intro t6a (And.intro t6b (And.intro t14 (And.intro t6c (And.intro t8w (And.intro t8d (And.intro t8b hb13))))))))
      have x1 : (b1 != b1) = false := by simp
      have x2 : (b2 != b2) = false := by simp
      have x3 : (b3 != b3) = false := by simp
      obtain ⟨y1, y2⟩ := hS W3 (Below.refl _ _)
      have hB5 : Below W3.heap.size W3 W3 := Below.refl _ _
      have d5 : Below W3.heap.size W3 W3.drew := hB5.drew
      clear hS t6a t6b t14 t6c t8w t8d t8b hL3 hb3 hb13 up e1 e2 e3 htw htd
      go_cut [51] from 62 (fun v W => v = .bool false ∧ Below W3.heap.size W3 W)
      case first =>
        go_region_held3 (fun V => V.cell? ⟨w2.heap.size, 0, none⟩ = some (.slice a5 n5 c5) ∧ V.cell? ⟨d, 0, none⟩ = some (.slice da dn dc)) (first | go_keep | exact HS.out.1 _ (by assumption))
          (first | (with_reducible refine (HS.out.2.1 _ (by assumption)).mono ?_; rintro e u1 ⟨rfl, hu1⟩) | (with_reducible refine (HS.out.2.2.1 _ (by assumption)).mono ?_; rintro e u2 ⟨rfl, hu2⟩) | (with_reducible refine (HS.out.2.2.2.1 _ (by assumption)).mono ?_; rintro e u3 ⟨z1, z2, rfl, hz3, hu3⟩) | (with_reducible refine (HS.out.2.2.2.2.1 _ _ _ (by assumption) (by assumption)).mono ?_; rintro e u4 ⟨rfl, hu4⟩) | (with_reducible refine (HS.out.2.2.2.2.2.1 _ (by assumption)).mono ?_; rintro e u5 ⟨rfl, hu5⟩) | (with_reducible refine (HS.out.2.2.2.2.2.2.1 _ (by assumption)).mono ?_; rintro e u6 ⟨rfl, hu6⟩) | (with_reducible refine (HS.out.2.2.2.2.2.2.2.1 _ _ _ (by assumption) (by assumption)).mono ?_; rintro e u7 ⟨rfl, hu7⟩))
        have U7 := Lib.hid hu7
        clear hu1 hu2 hu3 hu4 hu5 hu6 hu7 hz3
        go_wp2_with fail
        go_meet
        case rel => exact ⟨by simp, U7.out⟩
      case rest =>
        obtain ⟨rfl, hb8⟩ := hcut
        rename World => v8
        have V8 := Lib.hid (HS.out.2.2.2.2.2.2.2.2.trans (hb8.mono HS.out.2.2.2.2.2.2.2.2.size))
        clear hb8 y1 y2 x1 x2 x3 hB5 d5 hb1 hb2' hb3'
        go_wp2_with fail
        refine (numO _ ii).mono ?_
        rintro e w9 ⟨g9, rfl, hg9, hl9, hb9⟩
        have hb19 := V8.out.trans (hb9.mono V8.out.size)
        have hb10 : Below w9.heap.size w9 (w9.alloc (.cells #[.slice (some ⟨g9, 0, none⟩) 1 1] 27)) := (Below.refl _ _).alloc (Nat.le_refl _) _
        have hb110 := hb19.trans (hb10.mono hb19.size)
        have hdg : d + 1 ≤ g9 := by have := hds.out; have := V8.out.size; omega
        have hN10 := ownT_one (x := nN ii) (hl9.below hb10 hl9.lt) (d + 1) hdg
        have hA10 := Lies.new w9 #[.slice (some ⟨g9, 0, none⟩) 1 1] 27
        have HX := Lib.hid (And.intro (HR.out.1.kept hb110) (And.intro hN10 (And.intro hb110 (And.intro hA10 (And.intro (HR.out.2.2.1.kept hb110) (And.intro (HR.out.2.2.2.1.below hb110 HR.out.2.2.2.1.lt) (HR.out.2.2.2.2.1.trans (hb110.mono hws.out))))))))
        clear hg9 hl9 hb9 hb19 hb10 hb110 hN10 hA10 hdg
        obtain ⟨i0, hi0, hz0, hz1, hz2⟩ := info_parts info24z
        have hln : n = l.length := HR.out.2.2.2.2.2.2.2
        have hHln := Lib.hid hln
        have hrow := HX.out.1.1
        rw [← hln] at hrow
        have HROW := Lib.hid hrow
        have hsz : d + 1 ≤ (w9.alloc (.cells #[.slice (some ⟨g9, 0, none⟩) 1 1] 27)).heap.size := Nat.le_trans hds.out HX.out.2.2.1.size
        have HSZ := Lib.hid hsz
        clear hln hrow hsz
        go_wp2_with (at_builtin; go_must (refine wpList_append_own_at _ rfl _ _ 22 rfl (d + 1) 27 i0 (.agg #[.slice none 0 0]) 1 24 Tryz.underlying22 hi0 hz0 hz1 hz2 rfl (by decide) _ n (l.map TK.v) rfl HROW.out ⟨w9.heap.size, 0, none⟩ 1 1 [.slice (some ⟨g9, 0, none⟩) 1 1] rfl rfl (World.news_of_block (cs := #[.slice (some ⟨g9, 0, none⟩) 1 1]) (t := 27) (fr := (0, 0)) HX.out.2.2.2.1) (by simp [Value.oneCell']) (by unfold maxLen; omega) (by omega) HSZ.out ?_; intro v' w11 hown11 hgrow11 _ hat11; have hbx11 : Lies w11 d #[.slice da dn dc] 27 := ((hgrow11.block d HX.out.2.2.2.2.2.1.lt (fun e => by have := (HROW.out.lt d e.symm).1; omega)).trans HX.out.2.2.2.2.2.1); have c11 := hbx11.cell 0 (v := .slice da dn dc) rfl; have H11 := Lib.hid (And.intro hown11 (And.intro hgrow11 hbx11)); clear hown11 hgrow11 hat11 hbx11))
        have hown12 : OwnK w11 (d + 1) v' (l ++ [(⟨some ⟨g9, 0, none⟩, 1, [nN ii]⟩ : TK)]) := by
          refine ⟨?_, fun t ht => ?_⟩
          · rw [List.length_append, ← hHln.out, List.map_append]
            exact H11.out.1
          · rcases List.mem_append.1 ht with h | h
            · exact (HX.out.1.2 t h).grown24 HROW.out H11.out.2.1
            · obtain rfl := List.mem_singleton.1 h
              exact HX.out.2.1.grown24 HROW.out H11.out.2.1
        have hdeep11 : OwnT w11 0 (.slice da dn dc) (deepFo n).flat := HX.out.2.2.2.2.1.grown24 HROW.out H11.out.2.1
        have hbw11 : Below w.heap.size w w11 := HX.out.2.2.2.2.2.2.grown H11.out.2.1 HX.out.2.2.2.2.2.2.size (fun k e => by have := (HROW.out.lt k e).1; have := HW.out; omega)
        have hd11 : d < w11.heap.size := H11.out.2.2.lt
        have hb12 : Below w11.heap.size w11 (w11.alloc (.cells #[.slice da dn dc] 27)) := (Below.refl _ _).alloc (Nat.le_refl _) _
        have hL12 := Lies.new w11 #[.slice da dn dc] 27
        have htd : TG w11 ⟨da, dc, (deepFo n).flat⟩ ∧ dn = (deepFo n).flat.length := by
          obtain ⟨k1, k2⟩ := good_tg (deepFo_cnt n).2.2.2
          exact tgO hdeep11 (by rw [deep_len]; omega) (fun x hx => by have := deep_kids n x hx; omega) k1 k2
        have hts12 : TsG (w11.alloc (.cells #[.slice da dn dc] 27)) (some ⟨w11.heap.size, 0, none⟩) [⟨da, dc, (deepFo n).flat⟩] := tsG_new (w0 := w11) (L := [⟨da, dc, (deepFo n).flat⟩]) ⟨Below.refl _ _, fun t ht => by rw [List.mem_singleton.1 ht]; exact htd.1⟩ _ _ (by simp [TK.v, htd.2]) (by simp)
        have k7 := ofO _ 4 (some ⟨w11.heap.size, 0, none⟩) 1 [⟨da, dc, (deepFo n).flat⟩] [(deepFo n).flat] rfl hts12.ts hts12.nilOk (by simp [deep_len]; omega) (by simp) 1 rfl
        rw [deep_join] at k7
        have H12 := Lib.hid (And.intro (hown12.kept hb12) (And.intro k7 (And.intro (H11.out.2.2.below hb12 H11.out.2.2.lt) (hbw11.trans (hb12.mono hbw11.size)))))
        clear hown12 hdeep11 hbw11 hb12 hL12 htd hts12 k7 hd11 c11
        refine H12.out.2.1.mono ?_
        rintro e w13 ⟨a13, n13, c13, rfl, ho13, hb13⟩
        have hbx13 := H12.out.2.2.1.below hb13 H12.out.2.2.1.lt
        have hK13 := H12.out.1.kept hb13
        have hbw13 := H12.out.2.2.2.trans (hb13.mono H12.out.2.2.2.size)
        have H13 := Lib.hid (And.intro hbx13 (And.intro (hK13.setBox hbx13 (Nat.lt_succ_self _) #[.slice a13 n13 c13]) (And.intro ((ho13.mono (Nat.zero_le _)).setRow24 hbx13 #[.slice a13 n13 c13]) (And.intro (hbx13.setRow #[.slice a13 n13 c13]) (below_setRow hbw13 d #[.slice a13 n13 c13] HW.out)))))
        clear hbx13 hK13 hbw13 ho13 hb13
        have hsl : str.size ≤ 202 := by have := HR.out.2.2.2.2.2.1; omega
        go_wp2_with (refine wpList_store_row rfl 27 _ _ rfl d #[.slice a13 n13 c13] rfl rfl 27 #[.slice da dn dc] H13.out.1 info24 rfl (by simp [Value.oneCell']) ?_)
        obtain ⟨va', vc', hv', -⟩ := H13.out.2.1.isSlice
        have hlen' : (l ++ [(⟨some ⟨g9, 0, none⟩, 1, [nN ii]⟩ : TK)]).length = n + 1 := by rw [List.length_append, ← hHln.out]; rfl
        rw [hlen'] at hv'
        refine ⟨⟨n + 1, ii + 1, va', vc', l ++ [⟨some ⟨g9, 0, none⟩, 1, [nN ii]⟩], _, a13, n13, c13, by omega, by have := HR.out.2.2.2.2.2.2.1; omega, hv', rfl, rfl, ?_, by rw [← hv']; exact H13.out.2.1, ?_, H13.out.2.2.1, H13.out.2.2.2.1, H13.out.2.2.2.2⟩, by simp [intOf]; omega⟩
        · rw [ByteArray.size_append, HR.out.2.2.2.2.2.1]; rfl
        · rw [List.map_append, HR.out.2.1, numsL_succ, HR.out.2.2.2.2.2.2.1]; rfl
    · have q1 : ¬ ii < 202 := by omega
      have HB := Lib.hid hbr
      clear hown hlk hdeep hbox hbr hd hd1 hdL hwd hss hii
      go_wp2_with fail
      go_ret
      exact ⟨rfl, HB.out⟩
end Go.Proofs.YtieoiklgoeclaaaGreat
