/-
  The mark of a total (126), and what the walk of flatTotals rests on.
-/
import Derived.Test.YtjngghihciimjaaGreatJAh
import Derived.Test.YtjngghihciimjaaGreatJVy
import Derived.Test.YtjngghihciimjaaGreatJVto
namespace Go.Proofs.YtjngghihciimjaaGreat
set_option maxRecDepth 100000
open Go.RowKit Go.Sort Go.Maps

attribute [-go_sem] Instr.build
attribute [-go_sem] Instr.buildSlice
/-- The total that a mark is. -/
def mkTo (k i : Nat) : To := ⟨(List.replicate 32 0, mkT k i), 0⟩
theorem mkTo_ok (k i : Nat) : ToOk (mkTo k i) := ⟨rfl, by show 8 ≤ maxLen; unfold maxLen; omega⟩
def mkTc (k i : Nat) : Array Value := toC (mkTo k i)
theorem mkTc_size (k i : Nat) : (mkTc k i).size = 35 := toC_size _ rfl
theorem mkTc_one (k i : Nat) : (mkTc k i).all (·.oneCell') = true := toC_one _
theorem built_markT (s : ByteArray) : Tryz.prog.built 75 [(1, .string s)] = some (B8 (List.replicate 32 0) ++ #[.string s, .int .i64 (hiS 0), .int .u64 (loN 0)]) := by kernel_rfl
set_option maxHeartbeats 1000000 in
theorem mkTc_any (w : World) (k i : Nat) (hk : k ≤ 100000) (hi : i ≤ 1000000) : Calls Tryz.prog 126 #[.int .i64 k, .int .i64 i] w fun e w' => e = .returned (.agg (mkTc k i)) ∧ Below w.heap.size w w' := by
  have hm := fun V => markText_gen V k i hk hi
  obtain ⟨x, hx⟩ : ∃ x : Int, x = (k : Int) := ⟨_, rfl⟩
  obtain ⟨y, hy⟩ : ∃ y : Int, y = (i : Int) := ⟨_, rfl⟩
  obtain ⟨tv, htv⟩ : ∃ t, t = txt (mkT k i) := ⟨_, rfl⟩
  obtain ⟨av, hav⟩ : ∃ t, t = mkTc k i := ⟨_, rfl⟩
  have hbl : ∀ W, (Instr.build 75 #[(1, .string tv)]).run Tryz.prog W = .ok (.agg av) W := fun W => by
    rw [htv, hav]
    exact run_build W 75 _ _ (built_markT _)
  have hsz : av.size = 35 := by rw [hav]; exact mkTc_size _ _
  have h1 : av.all (·.oneCell') = true := by rw [hav]; exact mkTc_one _ _
  rw [← hx, ← hy, ← htv] at hm
  rw [← hx, ← hy, ← hav]
  have HM := Lib.hid (And.intro hm (And.intro hsz h1))
  clear hm hx hy htv hav hsz h1 hk hi
  go_enter Tryz.func126, Tryz.ntmps126
  go_upto_region 1 with fail
  have hQ : Lies (w.alloc (.cells z35 75)) w.heap.size z35 75 := Lies.new w z35 75
  have hb : Below w.heap.size w (w.alloc (.cells z35 75)) := (Below.refl _ _).alloc (Nat.le_refl _) _
  change Code.wp _ _ _ _ (w.alloc (.cells z35 75))
  generalize w.alloc (.cells z35 75) = W0 at hQ hb ⊢
  have H := Lib.hid (And.intro hQ hb)
  clear hQ hb
  go_wp2_with fail
  refine (HM.out.1 _).mono ?_
  rintro e w2 ⟨rfl, hb2⟩
  have H2 := Lib.hid (And.intro (H.out.1.below hb2 H.out.1.lt) (H.out.2.trans (hb2.mono H.out.2.size)))
  clear hb2
  go_wp2_with (refine wpList_store_row rfl 75 _ _ rfl w.heap.size av rfl rfl 75 z35 H2.out.1 (by rw [HM.out.2.1]; exact info_total) (by rw [HM.out.2.1]; kernel_rfl) HM.out.2.2 ?_)
  exact bodyPost_ret (v := .agg av) (results_cell_row (p := 4) (ty := 75) (by kernel_rfl) _ _ w.heap.size 75 av (0, 0) _ rfl (H2.out.1.setRow _) Tryz.underlying75 rfl (by rw [HM.out.2.1]; exact info_total)) rfl ⟨rfl, below_setRow H2.out.2 _ _ (Nat.le_refl _)⟩
theorem mkTc_eq (k i : Nat) : ∀ W, (Op.equalIn 10000 75 (.agg (mkTc k i)) (.agg (mkTc k i))).run Tryz.prog W = .ok true W := fun W => by
  have := eq_to W (mkTo k i) (mkTo k i) (mkTo_ok k i) (mkTo_ok k i)
  rw [decide_eq_true rfl] at this
  exact this
theorem infoST : (Tryz.prog.info? 75).map (·.size) = some 35 := info_total
theorem make_rowsT (n : Nat) (w : World) (hn : n ≤ 1000) : ∃ cs : Array Value, cs.size = n ∧ (∀ i, i < n → cs[i]? = some (.slice none 0 0)) ∧ (Instr.makeSlice 58 (.int .i64 n) (.int .i64 n)).run Tryz.prog w = .ok (.slice (some ⟨w.heap.size, 0, none⟩) n n) (w.alloc (.cells cs 49)) :=
  make_rows_of _ _ Tryz.underlying58 (by kernel_rfl) n w hn
theorem make64T (w : World) : ∃ cs : Array Value, cs.size = 64 * 35 ∧ (Instr.makeSlice 49 (.int .i64 64) (.int .i64 64)).run Tryz.prog w = .ok (.slice (some ⟨w.heap.size, 0, none⟩) 64 64) (w.alloc (.cells cs 75)) :=
  make64_of _ _ Tryz.underlying49 35 64 info48 (by decide) (by decide) w
end Go.Proofs.YtjngghihciimjaaGreat
