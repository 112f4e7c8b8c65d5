/-
  The document's own sums: totals that rise, one more put in its place; those that are not 0.
  The law's own small makers: an asset, a bundle.
  The document's own order of names.
  ask: what is told, or nothing where something is thrown.
  Right bundles, and their sums: plain mathematics.
  Add: the bundle of all together, if there is one.
-/
import Derived.Test.YtjngghihciimjaaGreatJVor
import Derived.Test.YtjngghihciimjaaGreatJVto
import Derived.Test.YtjngghihciimjaaGreatJVy
import Derived.Test.YtjngghihciimjaaGreatJVe
import Derived.Laws.IdiomStrings
namespace Go.Proofs.YtjngghihciimjaaGreat
set_option maxRecDepth 100000

/-- Names rise. -/
def Rise (l : List To) : Prop := l.Pairwise fun a b => cN a.nm b.nm < 0
/-- One more, in its place. -/
def putL (x : To) : List To → List To
  | [] => [x]
  | y :: l => if cN x.nm y.nm < 0 then x :: y :: l else if cN x.nm y.nm = 0 then ⟨y.nm, y.w + x.w⟩ :: l else y :: putL x l
theorem putL_cons (x y : To) (l : List To) : putL x (y :: l) = if cN x.nm y.nm < 0 then x :: y :: l else if cN x.nm y.nm = 0 then ⟨y.nm, y.w + x.w⟩ :: l else y :: putL x l := rfl
theorem putL_lt {x : To} : ∀ {l : List To} (r : List To), (∀ y, y ∈ l → 0 < cN x.nm y.nm) → putL x (l ++ r) = l ++ putL x r
  | [], _, _ => rfl
  | y :: l, r, h => by
    have h0 := h y (by simp)
    show putL x (y :: (l ++ r)) = _
    rw [putL_cons, if_neg (by omega), if_neg (by omega), putL_lt r fun z hz => h z (by simp [hz])]
    rfl
theorem putL_done {x : To} : ∀ {l : List To} (r : List To), (∃ y, y ∈ l ∧ cN x.nm y.nm ≤ 0) → putL x (l ++ r) = putL x l ++ r
  | [], _, h => by
    obtain ⟨y, hy, _⟩ := h
    simp at hy
  | y :: l, r, h => by
    show putL x (y :: (l ++ r)) = putL x (y :: l) ++ r
    by_cases h1 : cN x.nm y.nm < 0
    · rw [putL_cons, putL_cons, if_pos h1, if_pos h1]
      rfl
    · by_cases h2 : cN x.nm y.nm = 0
      · rw [putL_cons, putL_cons, if_neg h1, if_pos h2, if_neg h1, if_pos h2]
        rfl
      · have h3 : ∃ z, z ∈ l ∧ cN x.nm z.nm ≤ 0 := by
          obtain ⟨z, hz, h4⟩ := h
          rcases List.mem_cons.1 hz with rfl | hz
          · omega
          · exact ⟨z, hz, h4⟩
        have ih := putL_done r h3
        rw [putL_cons, putL_cons, if_neg h1, if_neg h2, if_neg h1, if_neg h2, ih]
        rfl
/-- What Go's loop keeps: what was gone through, with x in it or not yet. -/
def PutAt (x : To) (l : List To) (k : Nat) (done : Bool) (out : List To) : Prop := (done = false ∧ out = l.take k ∧ ∀ y, y ∈ l.take k → 0 < cN x.nm y.nm) ∨ (done = true ∧ out = putL x (l.take k) ∧ ∃ y, y ∈ l.take k ∧ cN x.nm y.nm ≤ 0)
theorem PutAt.start (x : To) (l : List To) : PutAt x l 0 false [] := .inl ⟨rfl, by simp, fun y hy => by simp at hy⟩
theorem take_next {l : List To} {k : Nat} {y : To} (h : l[k]? = some y) : l.take (k + 1) = l.take k ++ [y] := by
  rw [List.take_add_one, h]
  rfl
theorem PutAt.behind {x : To} {l : List To} {k : Nat} {out : List To} (h : PutAt x l k true out) (hr : Rise l) {y : To} (hy : l[k]? = some y) : cN x.nm y.nm < 0 ∧ PutAt x l (k + 1) true (out ++ [y]) := by
  rcases h with ⟨h1, _⟩ | ⟨_, h2, z, hz, h3⟩
  · cases h1
  · have hzy : cN z.nm y.nm < 0 := by
      have h4 : (l.take k ++ [y]).Pairwise fun a b => cN a.nm b.nm < 0 := by
        rw [← take_next hy]
        exact hr.sublist (List.take_sublist _ _)
      exact (List.pairwise_append.1 h4).2.2 z hz y (by simp)
    have h5 : cN x.nm y.nm < 0 := by
      rcases Int.lt_or_eq_of_le h3 with h3 | h3
      · exact cN_trans h3 hzy
      · rw [cN_eq h3]; exact hzy
    refine ⟨h5, .inr ⟨rfl, ?_, z, ?_, h3⟩⟩
    · rw [take_next hy, putL_done [y] ⟨z, hz, h3⟩, h2]
    · rw [take_next hy]; exact List.mem_append_left _ hz
theorem PutAt.ahead {x : To} {l : List To} {k : Nat} {out : List To} (h : PutAt x l k false out) {y : To} (hy : l[k]? = some y) (hc : cN x.nm y.nm < 0) : PutAt x l (k + 1) true (out ++ [x] ++ [y]) := by
  rcases h with ⟨_, h2, h3⟩ | ⟨h1, _⟩
  · refine .inr ⟨rfl, ?_, y, by rw [take_next hy]; simp, by omega⟩
    rw [take_next hy, putL_lt [y] h3, h2]
    rw [putL_cons, if_pos hc]
    simp
  · cases h1
theorem PutAt.meet {x : To} {l : List To} {k : Nat} {out : List To} (h : PutAt x l k false out) {y : To} (hy : l[k]? = some y) (hc : cN x.nm y.nm = 0) : PutAt x l (k + 1) true (out ++ [⟨y.nm, y.w + x.w⟩]) := by
  rcases h with ⟨_, h2, h3⟩ | ⟨h1, _⟩
  · refine .inr ⟨rfl, ?_, y, by rw [take_next hy]; simp, by omega⟩
    rw [take_next hy, putL_lt [y] h3, h2]
    rw [putL_cons, if_neg (by omega), if_pos hc]
  · cases h1
theorem PutAt.pass {x : To} {l : List To} {k : Nat} {out : List To} (h : PutAt x l k false out) {y : To} (hy : l[k]? = some y) (hc : 0 < cN x.nm y.nm) : PutAt x l (k + 1) false (out ++ [y]) := by
  rcases h with ⟨_, h2, h3⟩ | ⟨h1, _⟩
  · refine .inl ⟨rfl, by rw [take_next hy, h2], fun z hz => ?_⟩
    rw [take_next hy] at hz
    rcases List.mem_append.1 hz with hz | hz
    · exact h3 z hz
    · rw [List.mem_singleton] at hz
      rw [hz]; exact hc
  · cases h1
theorem PutAt.end_ {x : To} {l : List To} {done : Bool} {out : List To} (h : PutAt x l l.length done out) : (if done then out else out ++ [x]) = putL x l := by
  rcases h with ⟨rfl, h2, h3⟩ | ⟨rfl, h2, _⟩
  · rw [List.take_length] at h2 h3
    have := putL_lt (l := l) (x := x) [] h3
    rw [List.append_nil] at this
    rw [this, h2]
    rfl
  · rw [List.take_length] at h2
    rw [h2]
    rfl
theorem mem_putL {x z : To} : ∀ {l : List To}, z ∈ putL x l → z.nm = x.nm ∨ ∃ y, y ∈ l ∧ y.nm = z.nm
  | [], h => by
    simp [putL] at h
    exact .inl (by rw [h])
  | y :: l, h => by
    unfold putL at h
    split at h
    · rcases List.mem_cons.1 h with rfl | h
      · exact .inl rfl
      · exact .inr ⟨z, h, rfl⟩
    · split at h
      · rcases List.mem_cons.1 h with rfl | h
        · exact .inr ⟨y, by simp, rfl⟩
        · exact .inr ⟨z, by simp [h], rfl⟩
      · rcases List.mem_cons.1 h with rfl | h
        · exact .inr ⟨z, by simp, rfl⟩
        · rcases mem_putL h with h | ⟨u, hu, e⟩
          · exact .inl h
          · exact .inr ⟨u, by simp [hu], e⟩
theorem rise_putL {x : To} : ∀ {l : List To}, Rise l → Rise (putL x l)
  | [], _ => by simp [putL, Rise]
  | y :: l, h => by
    obtain ⟨h1, h2⟩ := List.pairwise_cons.1 h
    unfold putL
    split
    · rename_i hc
      refine List.pairwise_cons.2 ⟨fun z hz => ?_, h⟩
      rcases List.mem_cons.1 hz with rfl | hz
      · exact hc
      · exact cN_trans hc (h1 z hz)
    · split
      · exact List.pairwise_cons.2 ⟨h1, h2⟩
      · rename_i hc1 hc2
        refine List.pairwise_cons.2 ⟨fun z hz => ?_, rise_putL h2⟩
        rcases mem_putL hz with e | ⟨u, hu, e⟩
        · rw [e, cN_swap]; omega
        · rw [← e]; exact h1 u hu
theorem sum_putL (x : To) (n : Nm) : ∀ l : List To, sumAt (ctT (putL x l)) n = sumAt (ctT l) n + sumAt [(x.nm, x.w)] n
  | [] => by
    have e : ctT (putL x []) = [(x.nm, x.w)] := rfl
    have e2 : sumAt (ctT []) n = 0 := rfl
    rw [e, e2]
    exact (BitVec.zero_add _).symm
  | y :: l => by
    have e0 : ctT (y :: l) = [(y.nm, y.w)] ++ ctT l := rfl
    unfold putL
    split
    · have e1 : ctT (x :: y :: l) = [(x.nm, x.w)] ++ ctT (y :: l) := rfl
      rw [e1, sumAt_append, BitVec.add_comm]
    · split
      · rename_i hc
        have hn := cN_eq hc
        have e1 : ctT (⟨y.nm, y.w + x.w⟩ :: l) = [(y.nm, y.w + x.w)] ++ ctT l := rfl
        rw [e1, e0, sumAt_append, sumAt_append, hn]
        have s1 : ∀ z : BitVec 128, sumAt [(y.nm, z)] n = if y.nm = n then z else 0 := fun z => by
          simp only [sumAt]
          split <;> simp
        rw [s1, s1, s1]
        by_cases h : y.nm = n
        · rw [if_pos h, if_pos h, if_pos h, BitVec.add_assoc, BitVec.add_comm x.w, ← BitVec.add_assoc]
        · rw [if_neg h, if_neg h, if_neg h]
          simp
      · have ih := sum_putL x n l
        have e1 : ctT (y :: putL x l) = [(y.nm, y.w)] ++ ctT (putL x l) := rfl
        rw [e1, e0, sumAt_append, sumAt_append, ih, BitVec.add_assoc]
/-- Those put, one behind the other. -/
def putAll (l : List To) : List Ct → List To
  | [] => l
  | c :: cs => putAll (putL ⟨c.1, c.2⟩ l) cs
theorem putAll_app : ∀ (l : List To) (a b : List Ct), putAll l (a ++ b) = putAll (putAll l a) b
  | _, [], _ => rfl
  | l, c :: a, b => putAll_app (putL ⟨c.1, c.2⟩ l) a b
theorem rise_all : ∀ {l : List To} (cs : List Ct), Rise l → Rise (putAll l cs)
  | _, [], h => h
  | _, _ :: cs, h => rise_all cs (rise_putL h)
theorem sum_all (n : Nm) : ∀ (l : List To) (cs : List Ct), sumAt (ctT (putAll l cs)) n = sumAt (ctT l) n + sumAt cs n
  | l, [] => by
    have e : sumAt ([] : List Ct) n = 0 := rfl
    rw [e]
    exact (BitVec.add_zero _).symm
  | l, c :: cs => by
    have e : putAll l (c :: cs) = putAll (putL ⟨c.1, c.2⟩ l) cs := rfl
    have e2 : (c :: cs) = [c] ++ cs := rfl
    rw [e, sum_all n _ cs, sum_putL, e2, sumAt_append, BitVec.add_assoc]
theorem mem_all {z : To} : ∀ {l : List To} {cs : List Ct}, z ∈ putAll l cs → (∃ y, y ∈ l ∧ y.nm = z.nm) ∨ ∃ c, c ∈ cs ∧ c.1 = z.nm
  | _, [], h => .inl ⟨z, h, rfl⟩
  | l, c :: cs, h => by
    rcases mem_all (l := putL ⟨c.1, c.2⟩ l) (cs := cs) h with ⟨y, hy, e⟩ | ⟨d, hd, e⟩
    · rcases mem_putL hy with e2 | ⟨u, hu, e2⟩
      · exact .inr ⟨c, by simp, by rw [← e, e2]⟩
      · exact .inl ⟨u, hu, by rw [e2, e]⟩
    · exact .inr ⟨d, by simp [hd], e⟩
theorem len_putL (x : To) : ∀ l : List To, (putL x l).length ≤ l.length + 1
  | [] => Nat.le_refl _
  | y :: l => by
    have ih := len_putL x l
    unfold putL
    split
    · simp
    · split
      · simp
      · simp only [List.length_cons]; omega
theorem len_all : ∀ (l : List To) (cs : List Ct), (putAll l cs).length ≤ l.length + cs.length
  | _, [] => Nat.le_refl _
  | l, c :: cs => by
    have h1 := len_all (putL ⟨c.1, c.2⟩ l) cs
    have h2 := len_putL ⟨c.1, c.2⟩ l
    show (putAll (putL ⟨c.1, c.2⟩ l) cs).length ≤ _
    rw [List.length_cons]
    omega
/-- Those that are not 0. -/
def someL (l : List To) : List To := l.filter fun t => !decide (t.w = 0)
theorem some_take {l : List To} {k : Nat} {y : To} (h : l[k]? = some y) : someL (l.take (k + 1)) = someL (l.take k) ++ (if y.w = 0 then [] else [y]) := by
  rw [take_next h]
  unfold someL
  rw [List.filter_append]
  congr 1
  by_cases h0 : y.w = 0
  · rw [if_pos h0]
    have : (!decide (y.w = 0)) = false := by rw [decide_eq_true h0]; rfl
    rw [List.filter_cons, this]
    rfl
  · rw [if_neg h0]
    have : (!decide (y.w = 0)) = true := by rw [decide_eq_false h0]; rfl
    rw [List.filter_cons, this]
    rfl
theorem some_tot {l : List To} (h : Rise l) : IsTot (fun n => sumAt (ctT l) n) (ctT (someL l)) := by
  have hr : (ctT l).Pairwise fun p q => cN p.1 q.1 < 0 := by
    unfold ctT
    rw [List.pairwise_map]
    exact h
  have hmem : ∀ p, p ∈ ctT (someL l) ↔ p ∈ ctT l ∧ p.2 ≠ 0 := fun p => by
    unfold ctT someL
    simp only [List.mem_map, List.mem_filter]
    constructor
    · rintro ⟨t, ⟨ht, h0⟩, rfl⟩
      exact ⟨⟨t, ht, rfl⟩, by simpa using h0⟩
    · rintro ⟨⟨t, ht, rfl⟩, h0⟩
      exact ⟨t, ⟨ht, by simpa using h0⟩, rfl⟩
  refine ⟨?_, fun p hp => ?_, fun n hn => ?_⟩
  · unfold ctT someL
    rw [List.pairwise_map]
    exact h.sublist List.filter_sublist
  · obtain ⟨h1, h2⟩ := (hmem p).1 hp
    exact ⟨(sum_rise hr p h1).symm, h2⟩
  · obtain ⟨p, hp, e⟩ := sumAt_mem hn
    have h1 := sum_rise hr p hp
    rw [e] at h1
    refine (hmem _).2 ⟨?_, hn⟩
    show (n, sumAt (ctT l) n) ∈ ctT l
    rw [h1, ← e]
    exact hp
/-- The document's totals of contributions. -/
theorem all_tot (cs : List Ct) : IsTot (sumAt cs) (ctT (someL (putAll [] cs))) := by
  refine (some_tot (rise_all cs List.Pairwise.nil)).congr fun n => ?_
  rw [sum_all]
  exact BitVec.zero_add _
end Go.Proofs.YtjngghihciimjaaGreat
namespace Go.Proofs.YtjngghihciimjaaGreat
set_option maxRecDepth 100000
open Go.RowKit Go.Sort
attribute [-go_sem] Instr.build

def hash1 (b : UInt8) : List UInt8 := b :: List.replicate 31 0
theorem hash1_len (b : UInt8) : (hash1 b).length = 32 := rfl
theorem built_hash1 (b : UInt8) : Tryz.prog.built 26 [(0, .int .u8 b.toNat)] = some (B8 (hash1 b)) := by kernel_rfl
theorem built_assetX (p : List UInt8) (hp : p.length = 32) (t : ByteArray) (x : Int) : Tryz.prog.built 38 [(0, .agg (B8 p)), (1, .string t), (2, .int .i64 x)] = some (B8 p ++ #[.string t, .int .i64 x]) := by
  obtain ⟨a0, a1, a2, a3, a4, a5, a6, a7, a8, a9, a10, a11, a12, a13, a14, a15, a16, a17, a18, a19, a20, a21, a22, a23, a24, a25, a26, a27, a28, a29, a30, a31, rfl⟩ := list32 p hp
  kernel_rfl
set_option maxHeartbeats 1000000 in
theorem asset_any (w : World) (b : UInt8) (t : List UInt8) (x : Int) :
    Calls Tryz.prog 47 #[.int .u8 b.toNat, .string (txt t), .int .i64 x] w fun e w' => e = .returned (.agg (asC ⟨(hash1 b, t), x⟩)) ∧ Below w.heap.size w w' := by
  obtain ⟨hv, hhv⟩ : ∃ v, v = B8 (hash1 b) := ⟨_, rfl⟩
  obtain ⟨tv, htv⟩ : ∃ v, v = txt t := ⟨_, rfl⟩
  obtain ⟨av, hav⟩ : ∃ v, v = asC ⟨(hash1 b, t), x⟩ := ⟨_, rfl⟩
  obtain ⟨bi, hbi⟩ : ∃ n : Int, n = b.toNat := ⟨_, rfl⟩
  have hb1 : ∀ W, (Instr.build 26 #[(0, .int .u8 bi)]).run Tryz.prog W = .ok (.agg hv) W := fun W => by
    rw [hhv, hbi]
    exact run_build W 26 _ _ (built_hash1 b)
  have hb2 : ∀ W, (Instr.build 38 #[(0, .agg hv), (1, .string tv), (2, .int .i64 x)]).run Tryz.prog W = .ok (.agg av) W := fun W => by
    rw [hhv, htv, hav]
    exact run_build W 38 _ _ (built_assetX (hash1 b) (hash1_len b) (txt t) x)
  have hsz : av.size = 34 := by rw [hav]; exact asC_size _ (hash1_len b)
  have h1 : av.all (·.oneCell') = true := by rw [hav]; exact asC_one _
  rw [← hbi, ← htv, ← hav]
  have H := Lib.hid (And.intro hsz h1)
  clear hhv htv hav hbi hsz h1
  go_enter Tryz.func47, Tryz.ntmps47
  go_wp2_with (refine wpList_store_row rfl 38 _ _ rfl w.heap.size av rfl rfl 38 z34 (Lies.new w z34 38) (by rw [H.out.1]; exact info_asset) (by rw [H.out.1]; kernel_rfl) H.out.2 ?_)
  rw [World.setRow_alloc_new]
  refine bodyPost_ret (v := .agg av) (results_cell_row (p := 6) (ty := 38) (by kernel_rfl) _ _ w.heap.size 38 av (0, 0) _ rfl (Lies.new _ _ _) Tryz.underlying38 rfl (by rw [H.out.1]; exact info_asset)) rfl ⟨rfl, (Below.refl _ _).alloc (Nat.le_refl _) _⟩
theorem built_value (x : Int) (pa : Option Addr) (n c : Nat) : Tryz.prog.built 24 [(0, .int .i64 x), (1, .slice pa n c)] = some #[.int .i64 x, .slice pa n c] := by kernel_rfl
set_option maxHeartbeats 1000000 in
theorem ofV_any (w : World) (x : Int) (pa : Option Addr) (n c : Nat) :
    Calls Tryz.prog 46 #[.int .i64 x, .slice pa n c] w fun e w' => e = .returned (.agg (vC x pa n c)) ∧ Below w.heap.size w w' := by
  have hb1 : ∀ W, (Instr.build 24 #[(0, .int .i64 x), (1, .slice pa n c)]).run Tryz.prog W = .ok (.agg #[.int .i64 x, .slice pa n c]) W := fun W => run_build W 24 _ _ (built_value x pa n c)
  go_enter Tryz.func46, Tryz.ntmps46
  go_wp2
  refine bodyPost_ret (v := .agg (vC x pa n c)) (results_cell_row (p := 4) (ty := 24) (by kernel_rfl) _ _ w.heap.size 24 (vC x pa n c) (0, 0) _ rfl (Lies.new _ _ _) Tryz.underlying24 rfl info_value) rfl ⟨rfl, (Below.refl _ _).alloc (Nat.le_refl _) _⟩
end Go.Proofs.YtjngghihciimjaaGreat
namespace Go.Proofs.YtjngghihciimjaaGreat
set_option maxRecDepth 100000
open Go.RowKit Go.Sort

set_option maxHeartbeats 400000 in
theorem texts_any (w : World) (x y : List UInt8) : Calls Tryz.prog 129 #[.string (txt x), .string (txt y)] w fun e w' => e = .returned (.int .i64 (cmpB x y)) ∧ w = w' := by
  obtain ⟨m, hm⟩ : ∃ m, m = cmpB x y := ⟨_, rfl⟩
  rw [← hm]
  rw [← less_is] at hm
  have hx := txt_list x
  have hy := txt_list y
  generalize txt x = X at hx ⊢
  generalize txt y = Y at hy ⊢
  subst hx hy
  by_cases he : X = Y
  · subst he
    have HM := Lib.hid hm
    clear hm
    go_enter Tryz.func129, Tryz.ntmps129
    go_wp2_with fail
    go_ret
    have hl : Op.bytesLess X.toList X.toList = false := by
      have := less_is X.toList X.toList
      rw [cmpB_self] at this
      by_cases h : Op.bytesLess X.toList X.toList = true
      · rw [if_pos h] at this; cases this
      · simpa using h
    exact ⟨ret_i (by rw [HM.out, hl]; simp), rfl⟩
  · have hbe : (X == Y) = false := by
      cases h : X == Y with
      | false => rfl
      | true =>
        obtain ⟨xd⟩ := X
        obtain ⟨yd⟩ := Y
        have h2 : (xd == yd) = true := h
        exact absurd (congrArg ByteArray.mk (eq_of_beq h2)) he
    have hne : (X.toList == Y.toList) = false := by
      have : X.toList ≠ Y.toList := fun e => he (by
        have h1 := congrArg List.toArray e
        rw [ByteArray.toList_eq, ByteArray.toList_eq] at h1
        simp only [Array.toArray_toList] at h1
        exact ByteArray.ext h1)
      simpa using this
    rw [hne] at hm
    cases hl : Op.bytesLess X.toList Y.toList with
    | true =>
      rw [hl] at hm
      have HM := Lib.hid hm
      clear hm
      go_enter Tryz.func129, Tryz.ntmps129
      go_wp2_with fail
      go_ret
      exact ⟨ret_i (by rw [HM.out]; rfl), rfl⟩
    | false =>
      rw [hl] at hm
      have HM := Lib.hid hm
      clear hm
      go_enter Tryz.func129, Tryz.ntmps129
      go_wp2_with fail
      go_ret
      exact ⟨ret_i (by rw [HM.out]; rfl), rfl⟩
theorem conv_src {W : World} {g c : Nat} {l : List UInt8} (h : Src W g 0 l) : (convert 182 9 (.slice (some ⟨g, 0, none⟩) l.length c)).run Tryz.prog W = .ok (.string (txt l)) W :=
  run_convert_bytes_back W 182 9 5 ⟨g, 0, none⟩ c l Tryz.underlying182 Tryz.underlying5 Tryz.underlying9 (fun j hj => by
    have h1 := h j hj
    have e : (⟨g, 0, none⟩ : Addr).add j = ⟨g, j, none⟩ := by cases j <;> simp [Addr.add]
    rw [Nat.zero_add] at h1
    rw [e, h1, List.getD_eq_getElem?_getD, List.getElem?_eq_getElem hj]
    rfl)
theorem b8_src {W : World} {g : Nat} {l : List UInt8} {t : TypeId} (h : Lies W g (B8 l) t) : Src W g 0 l := fun j hj => by
  rw [Nat.zero_add]
  exact h.cell j (B8_get l j hj)
set_option maxHeartbeats 2000000 in
theorem rorder_any (w : World) (a b : Nm) (ha : a.1.length = 32) (hb : b.1.length = 32) :
    Calls Tryz.prog 82 #[.agg (B8 a.1), .string (txt a.2), .agg (B8 b.1), .string (txt b.2)] w fun e w' => e = .returned (.int .i64 (cN a b)) ∧ Below w.heap.size w w' := by
  obtain ⟨va, hva⟩ : ∃ v, v = B8 a.1 := ⟨_, rfl⟩
  obtain ⟨vb, hvb⟩ : ∃ v, v = B8 b.1 := ⟨_, rfl⟩
  obtain ⟨x, hx⟩ : ∃ x, x = cmpB a.1 b.1 := ⟨_, rfl⟩
  obtain ⟨y, hy⟩ : ∃ y, y = cmpB a.2 b.2 := ⟨_, rfl⟩
  have ht1 := fun V => texts_any V a.1 b.1
  have ht2 := fun V => texts_any V a.2 b.2
  have hcn : cN a b = if x = 0 then y else x := by rw [hx, hy]; rfl
  rw [← hx] at ht1
  rw [← hy] at ht2
  have hcv1 : ∀ W g, Lies W g va 26 → (convert 182 9 (.slice (some ⟨g, 0, none⟩) 32 32)).run Tryz.prog W = .ok (.string (txt a.1)) W := fun W g h => by
    rw [hva] at h
    have := conv_src (c := 32) (b8_src h)
    rw [ha] at this
    exact this
  have hcv2 : ∀ W g, Lies W g vb 26 → (convert 182 9 (.slice (some ⟨g, 0, none⟩) 32 32)).run Tryz.prog W = .ok (.string (txt b.1)) W := fun W g h => by
    rw [hvb] at h
    have := conv_src (c := 32) (b8_src h)
    rw [hb] at this
    exact this
  rw [← hva, ← hvb, hcn]
  have HCV := Lib.hid (And.intro hcv1 hcv2)
  clear hva hvb hcn hx hy hcv1 hcv2 ha hb
  generalize txt a.1 = pa at ht1 HCV ⊢
  generalize txt b.1 = pb at ht1 HCV ⊢
  generalize txt a.2 = ta at ht2 ⊢
  generalize txt b.2 = tb at ht2 ⊢
  have HT := Lib.hid (And.intro ht1 ht2)
  clear ht1 ht2
  go_enter Tryz.func82, Tryz.ntmps82
  go_upto_region 1 with fail
  have hl1 : Lies ((w.alloc (.cells va 26)).alloc (.cells vb 26)) w.heap.size va 26 := (Lies.new _ _ _).alloc _
  have hl2 : Lies ((w.alloc (.cells va 26)).alloc (.cells vb 26)) (w.heap.size + 1) vb 26 := by
    have := Lies.new (w.alloc (.cells va 26)) vb 26
    simpa using this
  have hb0 : Below w.heap.size w ((w.alloc (.cells va 26)).alloc (.cells vb 26)) := ((Below.refl _ _).alloc (Nat.le_refl _) _).alloc (by simp) _
  generalize (w.alloc (.cells va 26)).alloc (.cells vb 26) = W0 at hl1 hl2 hb0 ⊢
  obtain ⟨g1, hg1⟩ : ∃ g, g = w.heap.size := ⟨_, rfl⟩
  obtain ⟨g2, hg2⟩ : ∃ g, g = w.heap.size + 1 := ⟨_, rfl⟩
  rw [← hg2] at hl2 ⊢
  rw [← hg1] at hl1 ⊢
  have hd : Below W0.heap.size W0 W0.drew := (Below.refl _ _).drew
  have hs0 : (convert 182 9 (.slice (some ⟨g1, 0, none⟩) 32 32)).run Tryz.prog W0.drew = .ok (.string pa) W0.drew ∧ (convert 182 9 (.slice (some ⟨g2, 0, none⟩) 32 32)).run Tryz.prog W0.drew = .ok (.string pb) W0.drew := ⟨HCV.out.1 _ _ (hl1.below hd hl1.lt), HCV.out.2 _ _ (hl2.below hd hl2.lt)⟩
  have HB := Lib.hid (hb0.trans (hd.mono hb0.size))
  clear hl1 hl2 hb0 hg1 hg2 hd HCV
  go_region_held3 (fun V => (convert 182 9 (.slice (some ⟨g1, 0, none⟩) 32 32)).run Tryz.prog V = .ok (.string pa) V ∧ (convert 182 9 (.slice (some ⟨g2, 0, none⟩) 32 32)).run Tryz.prog V = .ok (.string pb) V)
    (exact hs0)
    (with_reducible refine (HT.out.1 _).mono ?_; rintro e w5 ⟨rfl, rfl⟩)
  clear hs0
  by_cases h0 : x = 0
  · subst h0
    go_wp2_with fail
    refine (HT.out.2 _).mono ?_
    rintro e w5 ⟨rfl, rfl⟩
    go_wp2_with fail
    go_ret
    exact ⟨rfl, HB.out⟩
  · have hb0 : (x != 0) = true := by simpa using h0
    go_wp2_with fail
    go_ret
    exact ⟨rfl, HB.out⟩
end Go.Proofs.YtjngghihciimjaaGreat
namespace Go.Proofs.YtjngghihciimjaaGreat
set_option maxRecDepth 100000
open Go.RowKit Go.Sort Go.Maps

theorem Row.small {w : World} {pa : Option Addr} {l : List As} (h : Row w pa l) {b : Nat} {cs : Array Value} {t : TypeId} (hl : Lies w b cs t) (hlt : cs.size ≤ 33) (j : Nat) (v : Value) : Row (w.setCell ⟨b, j, none⟩ v) pa l :=
  ⟨h.1, h.2.1, fun h0 => by
    obtain ⟨g, off, e, hg, hh⟩ := h.2.2 h0
    have hne : g ≠ b := fun e2 => by
      subst e2
      have ha : l[0]? = some l[0] := List.getElem?_eq_getElem h0
      have hc := hh 0 l[0] ha 33 _ (by rw [Array.getElem?_toList]; exact asC_amt _ (h.2.1 _ (List.getElem_mem h0)).1)
      rw [cell_of_row w g _ cs t (0, 0) hl, Array.getElem?_eq_none (by omega)] at hc
      cases hc
    exact ⟨g, off, e, by rw [size_set]; exact hg, fun i a hi k x hk => (World.cell?_of_block (heap_setCell_other w _ g v hne)).trans (hh i a hi k x hk)⟩⟩
theorem catch_panicking (p q : Nat) (u : TypeId) (pv : Value) (older : List PanicEntry) (w : World) (x0 x1 x2 : Value) (h0 : w.cell? ⟨p, 0, none⟩ = some x0) (h1 : w.cell? ⟨p, 1, none⟩ = some x1) (h2 : w.cell? ⟨q, 0, none⟩ = some x2)
    (f0 : w.frozen? ⟨p, 0, none⟩ = false) (f1 : w.frozen? ⟨p, 1, none⟩ = false) (f2 : w.frozen? ⟨q, 0, none⟩ = false) (hne : p ≠ q) :
    CallsD Tryz.prog 85 #[.pointer (some ⟨p, 0, none⟩), .pointer (some ⟨q, 0, none⟩)] (.panicking ({ v := .iface u pv, recovered := false } :: older)) w fun e u' w' =>
      e = .returned (.tuple #[]) ∧ u' = .panicking ({ v := .iface u pv, recovered := true } :: older) ∧ w' = ((w.setCell ⟨p, 0, none⟩ (.int .i64 0)).setCell ⟨p, 1, none⟩ (.slice none 0 0)).setCell ⟨q, 0, none⟩ (.bool false) := by
  have hne' : ¬ q = p := fun e => hne e.symm
  refine callsD_of_wpS Tryz.func85 rfl fun c₀ cs hu => ?_
  apply wpS_seq
  apply wpS_region
  simp [wpOpsS, go_sem, recoverD, hu, Tryz.ntmps85, Exit.thenS]
  refine wpS_cond (t := true) (by simp [Act.eval, Array.replicate]) ?_
  simp only [if_true]
  apply wpS_region
  simp [wpOpsS, go_sem, h0, h1, h2, f0, f1, f2, hne, hne', bodyPostS, results, Tryz.results85]
theorem catch_idle (p q : Addr) (w : World) :
    CallsD Tryz.prog 85 #[.pointer (some p), .pointer (some q)] .returning w fun e u' w' => e = .returned (.tuple #[]) ∧ u' = .returning ∧ w' = w := by
  refine callsD_of_wpS Tryz.func85 rfl fun c₀ cs hu => ?_
  apply wpS_seq
  apply wpS_region
  simp [wpOpsS, go_sem, recoverD, hu, Tryz.ntmps85, Exit.thenS]
  refine wpS_cond (t := false) (by simp [Act.eval, Array.replicate]) ?_
  simp only [Bool.false_eq_true, if_false]
  refine wpS_of_wp (wp_skip ?_)
  cases c₀
  simp_all [bodyPostS, results, Tryz.results85]
/-- A bundle is told, and whether there is one. -/
def Told (B : Nat) (ok : Bool) (coin : Int) (l : List As) (e : Ending) (w' : World) : Prop := ∃ pa c, e = .returned (.tuple #[.agg (vC coin pa l.length c), .bool ok]) ∧ Mine B w' pa l c
/-- What a function tells that may throw. -/
def Tells (B : Nat) (Z : Int → List As → Prop) (N : Prop) (e : Ending) (w' : World) : Prop := (∃ coin l pa c, e = .returned (.agg (vC coin pa l.length c)) ∧ Mine B w' pa l c ∧ Z coin l) ∨ (Fault e ∧ N)
def Asked (B : Nat) (Z : Int → List As → Prop) (N : Prop) (e : Ending) (w' : World) : Prop := (∃ coin l, Z coin l ∧ Told B true coin l e w') ∨ (N ∧ Told B false 0 [] e w')
theorem row_nil (w : World) : Row w none [] := ⟨Nat.zero_le _, fun a ha => by simp at ha, fun h => absurd h (by simp)⟩
theorem mine_nil (B : Nat) (w : World) : Mine B w none [] 0 := ⟨row_nil w, World.ownsRow_nil _ _ _ _⟩
theorem Mine.small {B : Nat} {w : World} {pa : Option Addr} {l : List As} {c : Nat} (h : Mine B w pa l c) {b : Nat} {cs : Array Value} {t : TypeId} (hl : Lies w b cs t) (hlt : cs.size ≤ 33) (j : Nat) (v : Value) (hne : t ≠ 38 := by decide) : Mine B (w.setCell ⟨b, j, none⟩ v) pa l c :=
  ⟨h.1.small hl hlt j v, h.2.kept (grown_setCell w _ _) (.inr (ownsRow_far h.2 hl hne).symm)⟩
set_option maxHeartbeats 4000000 in
theorem ask_any (w : World) (K : Nat) (cap : Array Value) (Z : Int → List As → Prop) (N : Prop)
    (hK : ∀ w : World, (callFunc K cap).run Tryz.prog w = .ok (.enter K cap) w) (hbe : ∀ w1, Below w.heap.size w w1 → Calls Tryz.prog K cap w1 fun e w2 => Tells w1.heap.size Z N e w2 ∧ Below w1.heap.size w1 w2) :
    Calls Tryz.prog 49 #[.func (Fn.func K) #[] cap] w fun e w' => Asked w.heap.size Z N e w' ∧ Below w.heap.size w w' := by
  have hmf : ∀ (fn : Fn) (first cap : Array Value) (w : World), (Instr.makeFunc fn first cap).run Tryz.prog w = .ok (.func fn first cap) w := fun _ _ _ _ => rfl
  have hb : Below w.heap.size w ((w.alloc (.cells #[.int .i64 0, .slice none 0 0] 24)).alloc (.cells #[.bool false] 4)) := ((Below.refl _ _).alloc (Nat.le_refl _) _).alloc (by simp) _
  have hl0 : Lies ((w.alloc (.cells #[.int .i64 0, .slice none 0 0] 24)).alloc (.cells #[.bool false] 4)) w.heap.size #[.int .i64 0, .slice none 0 0] 24 := (Lies.new _ _ _).alloc _
  have hl1 : Lies ((w.alloc (.cells #[.int .i64 0, .slice none 0 0] 24)).alloc (.cells #[.bool false] 4)) (w.heap.size + 1) #[.bool false] 4 := by
    have := Lies.new (w.alloc (.cells #[.int .i64 0, .slice none 0 0] 24)) #[.bool false] 4
    simpa using this
  have hc2 := hbe _ hb
  have HC := Lib.hid hc2
  have HB := Lib.hid (And.intro hb (And.intro hl0 hl1))
  clear hb hc2 hbe hl0 hl1
  go_enter_defers Tryz.func49, Tryz.ntmps49
  go_wp2_with fail
  refine HC.out.mono ?_
  rintro e w2 ⟨ht, hb2⟩
  have hL0 := HB.out.2.1.below hb2 HB.out.2.1.lt
  have hL1 := HB.out.2.2.below hb2 HB.out.2.2.lt
  have hbw := HB.out.1.trans (hb2.mono HB.out.1.size)
  generalize (w.alloc (.cells #[.int .i64 0, .slice none 0 0] 24)).alloc (.cells #[.bool false] 4) = W0 at hb2 HB ht ⊢
  have k0 := hL0.cell 0 (v := .int .i64 0) rfl
  have k1 := hL0.cell 1 (v := .slice none 0 0) rfl
  have k2 := hL1.cell 0 (v := .bool false) rfl
  have f0 := hL0.free 0
  have f1 := hL0.free 1
  have f2 := hL1.free 0
  rcases ht with ⟨coin, l, pa, c, rfl, hrow, hz⟩ | ⟨⟨n, rfl⟩, hN⟩
  · have hrow := hrow.mono HB.out.1.size
    have H2 := Lib.hid (And.intro hL0 (And.intro hL1 (And.intro hbw (And.intro hrow hz))))
    clear hL0 hL1 hbw hrow hz hb2
    unfold vC
    go_wp2_with fail
    have hL0 := H2.out.1
    have hL1 := H2.out.2.1
    have hL0a := hL0.set 0 (.int .i64 coin)
    have hL0b := hL0a.set 1 (.slice pa l.length c)
    have hL1b : Lies ((w2.setCell ⟨w.heap.size, 0, none⟩ (.int .i64 coin)).setCell ⟨w.heap.size, 1, none⟩ (.slice pa l.length c)) (w.heap.size + 1) #[.bool false] 4 := (hL1.other _ _ (by simp)).other _ _ (by simp)
    have hr1 := ((H2.out.2.2.2.1.small hL0 (by decide) 0 (.int .i64 coin)).small hL0a (by simp) 1 (.slice pa l.length c)).small hL1b (by decide) 0 (.bool true)
    have hL0c := hL0b.other ⟨w.heap.size + 1, 0, none⟩ (.bool true) (by simp)
    have hL1c := hL1b.set 0 (.bool true)
    have hbf := below_setCell (below_setCell (below_setCell H2.out.2.2.1 ⟨w.heap.size, 0, none⟩ (.int .i64 coin) (Nat.le_refl _)) ⟨w.heap.size, 1, none⟩ (.slice pa l.length c) (Nat.le_refl _)) ⟨w.heap.size + 1, 0, none⟩ (.bool true) (by simp)
    generalize ((w2.setCell ⟨w.heap.size, 0, none⟩ (.int .i64 coin)).setCell ⟨w.heap.size, 1, none⟩ (.slice pa l.length c)).setCell ⟨w.heap.size + 1, 0, none⟩ (.bool true) = w3 at hr1 hL0c hL1c hbf ⊢
    have n0 := hL0c.cell 0 (v := .int .i64 coin) rfl
    have n1 := hL0c.cell 1 (v := .slice pa l.length c) rfl
    have n2 := hL1c.cell 0 (v := .bool true) rfl
    refine leaves_cons (f := 85) (args := #[.pointer (some ⟨w.heap.size, 0, none⟩), .pointer (some ⟨w.heap.size + 1, 0, none⟩)]) (by simp) (by simp [go_sem]) ?_
    refine (catch_idle ⟨w.heap.size, 0, none⟩ ⟨w.heap.size + 1, 0, none⟩ _).mono ?_
    rintro e u' w'' ⟨rfl, rfl, hw⟩
    subst hw
    have HZ := Lib.hid (And.intro hr1 hbf)
    clear hr1 hbf hL0 hL1 hL0a hL0b hL1b hL0c hL1c k0 k1 k2 f0 f1 f2
    simp [Leaves, settle, results, Tryz.results49, go_sem, n0, n1, n2]
    exact ⟨.inl ⟨coin, l, H2.out.2.2.2.2, pa, c, rfl, HZ.out.1⟩, HZ.out.2⟩
  · have H2 := Lib.hid (And.intro hL0 (And.intro hL1 (And.intro hbw hN)))
    clear hL0 hL1 hbw hN hb2
    go_wp2_with fail
    have hL0 := H2.out.1
    have hL1 := H2.out.2.1
    have hL0a := hL0.set 0 (.int .i64 0)
    have hL0b := hL0a.set 1 (.slice none 0 0)
    have hL1b : Lies ((w2.setCell ⟨w.heap.size, 0, none⟩ (.int .i64 0)).setCell ⟨w.heap.size, 1, none⟩ (.slice none 0 0)) (w.heap.size + 1) #[.bool false] 4 := (hL1.other _ _ (by simp)).other _ _ (by simp)
    have hL0c := hL0b.other ⟨w.heap.size + 1, 0, none⟩ (.bool false) (by simp)
    have hL1c := hL1b.set 0 (.bool false)
    have hbf := below_setCell (below_setCell (below_setCell H2.out.2.2.1 ⟨w.heap.size, 0, none⟩ (.int .i64 0) (Nat.le_refl _)) ⟨w.heap.size, 1, none⟩ (.slice none 0 0) (Nat.le_refl _)) ⟨w.heap.size + 1, 0, none⟩ (.bool false) (by simp)
    refine leaves_cons (f := 85) (args := #[.pointer (some ⟨w.heap.size, 0, none⟩), .pointer (some ⟨w.heap.size + 1, 0, none⟩)]) (by simp) (by simp [go_sem]) ?_
    refine (catch_panicking w.heap.size (w.heap.size + 1) 139 _ [] _ _ _ _ k0 k1 k2 f0 f1 f2 (by simp)).mono ?_
    rintro e u' w'' ⟨rfl, rfl, hw⟩
    rw [hw]
    clear hw
    generalize ((w2.setCell ⟨w.heap.size, 0, none⟩ (.int .i64 0)).setCell ⟨w.heap.size, 1, none⟩ (.slice none 0 0)).setCell ⟨w.heap.size + 1, 0, none⟩ (.bool false) = w3 at hL0c hL1c hbf ⊢
    have n0 := hL0c.cell 0 (v := .int .i64 0) rfl
    have n1 := hL0c.cell 1 (v := .slice none 0 0) rfl
    have n2 := hL1c.cell 0 (v := .bool false) rfl
    have HZ := Lib.hid hbf
    clear hbf hL0 hL1 hL0a hL0b hL1b hL0c hL1c k0 k1 k2 f0 f1 f2
    simp [Leaves, settle, results, Tryz.results49, go_sem, n0, n1, n2]
    exact ⟨.inr ⟨H2.out.2.2.2, none, 0, rfl, mine_nil _ _⟩, HZ.out⟩
end Go.Proofs.YtjngghihciimjaaGreat
namespace Go.Proofs.YtjngghihciimjaaGreat
set_option maxRecDepth 100000
open Go.RowKit Go.Sort Go.Maps

/-- A row that is called well. -/
theorem wellB_iff (l : List As) : wellB isPos l = true ↔ (∀ a, a ∈ l → a.nm.2.length ≤ 32 ∧ 1 ≤ a.amt) ∧ l.Pairwise fun a b => cN a.nm b.nm < 0 := by
  have hD : ∀ (i : Nat) (h : i < l.length), l.getD i default = l[i] := fun i h => by simp [List.getD, h]
  constructor
  · intro h
    have hall : ∀ i, i < l.length → okAt isPos l i = true := fun i hi => by
      unfold wellB at h
      exact List.all_eq_true.1 h i (List.mem_range.2 hi)
    have hadj : ∀ i (h1 : i + 1 < l.length), cN (l[i]'(by omega)).nm (l[i + 1]).nm < 0 := fun i h1 => by
      have h2 := hall (i + 1) h1
      unfold okAt at h2
      rw [hD (i + 1) h1, Nat.add_sub_cancel, hD i (by omega)] at h2
      simp at h2
      exact h2.2
    have hlt : ∀ (d i : Nat) (h1 : i + (d + 1) < l.length), cN (l[i]'(by omega)).nm (l[i + (d + 1)]).nm < 0 := fun d => by
      induction d with
      | zero => exact fun i h1 => hadj i h1
      | succ d ih => exact fun i h1 => cN_trans (ih i (by omega)) (hadj (i + (d + 1)) h1)
    refine ⟨fun a ha => ?_, List.pairwise_iff_getElem.2 fun i j hi hj hij => ?_⟩
    · obtain ⟨i, hi, rfl⟩ := List.mem_iff_getElem.1 ha
      have h2 := hall i hi
      unfold okAt isPos at h2
      rw [hD i hi] at h2
      simp only [Bool.and_eq_true, decide_eq_true_iff] at h2
      exact ⟨h2.1.1, h2.1.2⟩
    · obtain ⟨d, rfl⟩ : ∃ d, j = i + (d + 1) := ⟨j - i - 1, by omega⟩
      exact hlt d i hj
  · rintro ⟨h1, h2⟩
    refine well_yes fun i hi => ?_
    unfold okAt isPos
    rw [hD i hi]
    have h3 := h1 _ (List.getElem_mem hi)
    simp only [Bool.and_eq_true, decide_eq_true_iff]
    refine ⟨⟨h3.1, h3.2⟩, ?_⟩
    rw [Bool.or_eq_true, beq_iff_eq, decide_eq_true_iff]
    by_cases h0 : i = 0
    · exact .inl h0
    · right
      rw [hD (i - 1) (by omega)]
      exact (List.pairwise_iff_getElem.1 h2) (i - 1) i (by omega) hi (by omega)
theorem right_iff (coin : Int) (l : List As) : rightB coin l = true ↔ 0 ≤ coin ∧ l.length ≤ 30 ∧ (∀ a, a ∈ l → a.nm.2.length ≤ 32 ∧ 1 ≤ a.amt) ∧ l.Pairwise fun a b => cN a.nm b.nm < 0 := by
  unfold rightB
  rw [Bool.and_eq_true, Bool.and_eq_true, decide_eq_true_iff, decide_eq_true_iff, wellB_iff, and_assoc]
theorem ctsL_few : ∀ {vs : List Va}, vs.all rightV = true → (ctsL vs).length ≤ 30 * vs.length
  | [], _ => by simp [ctsL]
  | v :: vs, h => by
    rw [List.all_cons, Bool.and_eq_true] at h
    have h1 := ((right_iff v.coin v.l).1 h.1).2.1
    have h2 := ctsL_few h.2
    have e : ctsL (v :: vs) = ctsOf v ++ ctsL vs := rfl
    rw [e, List.length_append, List.length_cons]
    unfold ctsOf
    rw [List.length_map]
    omega
theorem ctsL_mem {vs : List Va} {p : Ct} (h : p ∈ ctsL vs) : ∃ v, v ∈ vs ∧ ∃ a, a ∈ v.l ∧ p = (a.nm, wide a.amt) := by
  obtain ⟨v, hv, h1⟩ := List.mem_flatMap.1 h
  obtain ⟨a, ha, h2⟩ := List.mem_map.1 h1
  exact ⟨v, hv, a, ha, h2.symm⟩
end Go.Proofs.YtjngghihciimjaaGreat
namespace Go.Proofs.YtjngghihciimjaaGreat
set_option maxRecDepth 100000
open Go.RowKit Go.Sort Go.Maps

/-- The bundle of these is told. -/
def AddZ (vs : List Va) (coin : Int) (l : List As) : Prop := vs.all rightV = true ∧ TogOk (coinS vs) (sumAt (ctsL vs)) coin l
def AddN (vs : List Va) : Prop := ∀ coin l, ¬ AddZ vs coin l
theorem rowV_names {w : World} {pa : Option Addr} {vs : List Va} (h : RowV w pa vs) (hall : vs.all rightV = true) : ∀ p, p ∈ ctsL vs → p.1.1.length = 32 ∧ p.1.2.length ≤ 281474976710656 := fun p hp => by
  obtain ⟨v, hv, a, ha, rfl⟩ := ctsL_mem hp
  have h1 := ((right_iff v.coin v.l).1 (List.all_eq_true.1 hall v hv)).2.2.1 a ha
  obtain ⟨i, hi⟩ := List.getElem?_of_mem hv
  obtain ⟨g, off, _, _, hh⟩ := h.2 (by have := (List.getElem?_eq_some_iff.1 hi).1; omega)
  have h2 := (hh i v hi).2.2.2.2.1 a ha
  exact ⟨h2.1, Nat.le_trans h1.1 (by decide)⟩
set_option maxHeartbeats 4000000 in
theorem add1_any (w : World) (b : Nat) (pa : Option Addr) (vs : List Va) (c : Nat) (hb : w.cell? ⟨b, 0, none⟩ = some (.slice pa vs.length c)) (hlb : b < w.heap.size) (h : RowV w pa vs) (hn : vs.length ≤ 1000) :
    Calls Tryz.prog 66 #[.pointer (some ⟨b, 0, none⟩)] w fun e w' => Tells w.heap.size (AddZ vs) (AddN vs) e w' ∧ Below w.heap.size w w' := by
  have hb1 : Below w.heap.size w (w.alloc (.cells #[.int .i64 0, .slice none 0 0] 24)) := (Below.refl _ _).alloc (Nat.le_refl _) _
  have hL1 : Lies (w.alloc (.cells #[.int .i64 0, .slice none 0 0] 24)) w.heap.size #[.int .i64 0, .slice none 0 0] 24 := Lies.new _ _ _
  have hq : (w.alloc (.cells #[.int .i64 0, .slice none 0 0] 24)).cell? ⟨b, 0, none⟩ = some (.slice pa vs.length c) := (hb1.cell (p := ⟨b, 0, none⟩) hlb).trans hb
  have hmust := mustRight_any _ pa vs c (h.below hb1 (Nat.le_refl _))
  have H := Lib.hid (And.intro h (And.intro hn (And.intro hb1 (And.intro hL1 (And.intro hb hlb)))))
  have HM := Lib.hid hmust
  clear h hn hb1 hL1 hmust hb hlb
  go_enter Tryz.func66, Tryz.ntmps66
  go_wp2_with fail
  refine HM.out.mono ?_
  rintro e w2 ⟨hm, hb2⟩
  have hbw := H.out.2.2.1.trans (hb2.mono H.out.2.2.1.size)
  rcases hm with ⟨hall, v, rfl⟩ | ⟨hno, n, rfl⟩
  · have hL2 := H.out.2.2.2.1.below hb2 H.out.2.2.2.1.lt
    have hq2 : w2.cell? ⟨b, 0, none⟩ = some (.slice pa vs.length c) := (hbw.cell (p := ⟨b, 0, none⟩) H.out.2.2.2.2.2).trans H.out.2.2.2.2.1
    have htog := together_any w2 pa vs c (H.out.1.below hbw (Nat.le_refl _)) (Nat.le_trans (ctsL_few hall) (by have := H.out.2.1; omega)) (rowV_names H.out.1 hall)
    have H2 := Lib.hid (And.intro hL2 (And.intro hbw (And.intro htog hall)))
    clear hL2 hbw htog hall hb2 hq HM
    go_wp2_with fail
    refine H2.out.2.2.1.mono ?_
    rintro e w3 ⟨ht, hb3⟩
    have hL3 := H2.out.1.below hb3 H2.out.1.lt
    have hb33 := H2.out.2.1.trans (hb3.mono H2.out.2.1.size)
    rcases ht with ⟨coin, l, p, c', rfl, hrow, hok⟩ | ⟨⟨n, rfl⟩, hno⟩
    · have hrow := hrow.mono H2.out.2.1.size
      have q0 := hL3.cell 0 (v := .int .i64 0) rfl
      have q1 := hL3.cell 1 (v := .slice none 0 0) rfl
      have f0 := hL3.free 0
      have f1 := hL3.free 1
      have hL3a := hL3.set 0 (.int .i64 coin)
      have hrow2 := (hrow.small hL3 (by decide) 0 (.int .i64 coin)).small hL3a (by simp) 1 (.slice p l.length c')
      have hbR : Below w.heap.size w ((w3.setCell ⟨w.heap.size, 0, none⟩ (.int .i64 coin)).setCell ⟨w.heap.size, 1, none⟩ (.slice p l.length c')) := below_setCell (below_setCell hb33 _ _ (by simp)) _ _ (by simp)
      have hLR : Lies ((w3.setCell ⟨w.heap.size, 0, none⟩ (.int .i64 coin)).setCell ⟨w.heap.size, 1, none⟩ (.slice p l.length c')) w.heap.size #[.int .i64 coin, .slice p l.length c'] 24 := hL3a.set 1 _
      have HE := Lib.hid (And.intro hrow2 (And.intro hbR (And.intro hLR hok)))
      clear hrow2 hbR hLR hL3a hL3 hb33 hrow hok hb3 hq2
      unfold vC
      go_wp2_with fail
      refine bodyPost_ret (v := .agg #[.int .i64 coin, .slice p l.length c']) (results_cell_row (p := 1) (ty := 24) (by kernel_rfl) _ _ w.heap.size 24 #[.int .i64 coin, .slice p l.length c'] (0, 0) _ rfl HE.out.2.2.1 Tryz.underlying24 rfl info_value) rfl ⟨.inl ⟨coin, l, p, c', rfl, HE.out.1, H2.out.2.2.2, HE.out.2.2.2⟩, HE.out.2.1⟩
    · exact ⟨rfl, .inr ⟨Fault.panic n, fun coin l hz => hno coin l hz.2⟩, hb33⟩
  · exact ⟨rfl, .inr ⟨Fault.panic n, fun coin l hz => by rw [hz.1] at hno; cases hno⟩, hbw⟩
theorem enters23 : ∀ (cap : Array Value) (w : World), (callFunc 66 cap).run Tryz.prog w = .ok (.enter 66 cap) w := fun cap w => enters_of Tryz.func66 (by kernel_rfl) rfl cap w
set_option maxHeartbeats 4000000 in
theorem add_any (w : World) (pa : Option Addr) (vs : List Va) (c : Nat) (h : RowV w pa vs) (hn : vs.length ≤ 1000) :
    Calls Tryz.prog 24 #[.slice pa vs.length c] w fun e w' => Asked w.heap.size (AddZ vs) (AddN vs) e w' ∧ Below w.heap.size w w' := by
  have hmf : ∀ (fn : Fn) (first cap : Array Value) (w : World), (Instr.makeFunc fn first cap).run Tryz.prog w = .ok (.func fn first cap) w := fun _ _ _ _ => rfl
  have hb1 : Below w.heap.size w ((w.alloc (.cells #[.slice pa vs.length c] 28)).alloc (.cells #[.int .i64 0, .slice none 0 0] 24)) := ((Below.refl _ _).alloc (Nat.le_refl _) _).alloc (by simp) _
  have hL0 : Lies ((w.alloc (.cells #[.slice pa vs.length c] 28)).alloc (.cells #[.int .i64 0, .slice none 0 0] 24)) w.heap.size #[.slice pa vs.length c] 28 := (Lies.new _ _ _).alloc _
  have hL1 : Lies ((w.alloc (.cells #[.slice pa vs.length c] 28)).alloc (.cells #[.int .i64 0, .slice none 0 0] 24)) (w.heap.size + 1) #[.int .i64 0, .slice none 0 0] 24 := by
    have := Lies.new (w.alloc (.cells #[.slice pa vs.length c] 28)) #[.int .i64 0, .slice none 0 0] 24
    simpa using this
  have hask := ask_any ((w.alloc (.cells #[.slice pa vs.length c] 28)).alloc (.cells #[.int .i64 0, .slice none 0 0] 24)) 66 #[.pointer (some ⟨w.heap.size, 0, none⟩)] (AddZ vs) (AddN vs) (enters23 _) (fun w1 hw1 =>
    add1_any w1 w.heap.size pa vs c ((hL0.below hw1 hL0.lt).cell 0 rfl) (hL0.below hw1 hL0.lt).lt (h.below (hb1.trans (hw1.mono hb1.size)) (Nat.le_refl _)) hn)
  have H := Lib.hid (And.intro hask (And.intro hb1 hL1))
  clear hask hb1 hL1 hL0 h hn
  go_enter Tryz.func24, Tryz.ntmps24
  go_wp2_with fail
  refine H.out.1.mono ?_
  rintro e w2 ⟨ht, hb2⟩
  have key : ∃ ok coin l pa' c', e = .returned (.tuple #[.agg (vC coin pa' l.length c'), .bool ok]) ∧ Mine w.heap.size w2 pa' l c' ∧ (∀ e' w', Told w.heap.size ok coin l e' w' → Asked w.heap.size (AddZ vs) (AddN vs) e' w') := by
    rcases ht with ⟨coin, l, hz, pa', c', h1, h2⟩ | ⟨hN, pa', c', h1, h2⟩
    · exact ⟨true, coin, l, pa', c', h1, h2.mono H.out.2.1.size, fun e' w' hh => .inl ⟨coin, l, hz, hh⟩⟩
    · exact ⟨false, 0, [], pa', c', h1, h2.mono H.out.2.1.size, fun e' w' hh => .inr ⟨hN, hh⟩⟩
  obtain ⟨ok, coin, l, p, c', rfl, hrow, hto⟩ := key
  have hL3 := H.out.2.2.below hb2 H.out.2.2.lt
  have hb33 := H.out.2.1.trans (hb2.mono H.out.2.1.size)
  have q0 := hL3.cell 0 (v := .int .i64 0) rfl
  have q1 := hL3.cell 1 (v := .slice none 0 0) rfl
  have f0 := hL3.free 0
  have f1 := hL3.free 1
  have hL3a := hL3.set 0 (.int .i64 coin)
  have hrow2 := (hrow.small hL3 (by decide) 0 (.int .i64 coin)).small hL3a (by simp) 1 (.slice p l.length c')
  have hbR : Below w.heap.size w ((w2.setCell ⟨w.heap.size + 1, 0, none⟩ (.int .i64 coin)).setCell ⟨w.heap.size + 1, 1, none⟩ (.slice p l.length c')) := below_setCell (below_setCell hb33 _ _ (by simp)) _ _ (by simp)
  have hLR : Lies ((w2.setCell ⟨w.heap.size + 1, 0, none⟩ (.int .i64 coin)).setCell ⟨w.heap.size + 1, 1, none⟩ (.slice p l.length c')) (w.heap.size + 1) #[.int .i64 coin, .slice p l.length c'] 24 := hL3a.set 1 _
  have HE := Lib.hid (And.intro hrow2 (And.intro hbR (And.intro hLR hto)))
  clear hrow2 hbR hLR hL3a hL3 hb33 hrow hto hb2 ht
  unfold vC
  go_wp2_with fail
  refine bodyPost_ret (v := .tuple #[.agg #[.int .i64 coin, .slice p l.length c'], .bool ok]) (results_row_tmp (p := 2) (u := 3) (ty := 24) (by kernel_rfl) _ _ (w.heap.size + 1) 24 #[.int .i64 coin, .slice p l.length c'] (0, 0) _ rfl HE.out.2.2.1 Tryz.underlying24 rfl info_value) rfl ⟨HE.out.2.2.2 _ _ ⟨p, c', rfl, HE.out.1⟩, HE.out.2.1⟩
end Go.Proofs.YtjngghihciimjaaGreat
