/-
  slices.Clone of nodes (72), strings.Clone (73), own (43): nodes in new memory.
-/
import Derived.Test.YtieoiklgoeclaaaGreatTp
import Derived.Test.YtieoiklgoeclaaaGreatShelf
import Derived.Laws.Cover3
import Derived.Maps.AppendAt
import Derived.WalkSpells
namespace Go.Proofs.YtieoiklgoeclaaaGreat
open Go.RowKit

def cellsL (xs : List Nd) : List Value := xs.flatMap fun x => x.cells.toList
theorem cellsL_cons (x : Nd) (xs : List Nd) : cellsL (x :: xs) = x.cells.toList ++ cellsL xs := rfl
theorem cellsL_app (xs ys : List Nd) : cellsL (xs ++ ys) = cellsL xs ++ cellsL ys := by simp [cellsL]
theorem cells_len (x : Nd) : x.cells.toList.length = 5 := rfl
theorem cellsL_len : ∀ xs : List Nd, (cellsL xs).length = xs.length * 5
  | [] => rfl
  | x :: xs => by rw [cellsL_cons, List.length_append, cells_len, cellsL_len xs, List.length_cons]; omega
theorem cellsL_get : ∀ (xs : List Nd) (j : Nat) (h : j < xs.length) (i : Nat), i < 5 → (cellsL xs)[j * 5 + i]? = xs[j].cells[i]?
  | x :: xs, 0, _, i, hi => by
    rw [cellsL_cons, List.getElem?_append_left (by rw [cells_len]; omega)]
    simp
  | x :: xs, j + 1, h, i, hi => by
    rw [cellsL_cons, List.getElem?_append_right (by rw [cells_len]; omega), cells_len, show (j + 1) * 5 + i - 5 = j * 5 + i by omega]
    exact cellsL_get xs j (by simpa using h) i hi
theorem cells_one (x : Nd) : ∀ u ∈ x.cells.toList, u.oneCell' = true := by
  intro u hu
  simp only [Nd.cells, List.mem_cons, List.not_mem_nil, or_false] at hu
  rcases hu with rfl | rfl | rfl | rfl | rfl <;> rfl
theorem cellsL_one (xs : List Nd) : ∀ u ∈ cellsL xs, u.oneCell' = true := by
  intro u hu
  obtain ⟨x, -, h2⟩ := List.mem_flatMap.1 hu
  exact cells_one x u h2
theorem cells_lt (x : Nd) {i : Nat} {v : Value} (h : x.cells[i]? = some v) : i < 5 := (Array.getElem?_eq_some_iff.1 h).1
/-- Nodes in memory of the call's own. -/
def OwnT (w : World) (base : Nat) (v : Value) (xs : List Nd) : Prop := w.ownsRow base 36 5 v xs.length (cellsL xs)
theorem NAt.cellsL {w : World} {g off : Nat} {xs : List Nd} (h : NAt w g off xs) : ∀ j u, (cellsL xs)[j]? = some u → w.cell? ((⟨g, off, none⟩ : Addr).add j) = some u := fun j u hu => by
  have hl := (List.getElem?_eq_some_iff.1 hu).1
  rw [cellsL_len] at hl
  have e : j = j / 5 * 5 + j % 5 := by omega
  have hj : j / 5 < xs.length := by omega
  rw [e, cellsL_get xs (j / 5) hj (j % 5) (by omega)] at hu
  have := h.2 (j / 5) hj (j % 5) u hu
  rw [Addr.add_lit, e]
  rw [show off + (j / 5 * 5 + j % 5) = off + j / 5 * 5 + j % 5 by omega]
  exact this
theorem OwnT.form {w : World} {base : Nat} {v : Value} {xs : List Nd} (h : OwnT w base v xs) : (v = .slice none 0 0 ∧ xs = []) ∨ ∃ g cap, v = .slice (some ⟨g, 0, none⟩) xs.length cap ∧ base ≤ g ∧ xs.length ≤ cap ∧ cap ≤ maxLen ∧ NAt w g 0 xs ∧ (∀ j, j < xs.length * 5 → w.frozen? ⟨g, j, none⟩ = false) := by
  rcases h.2 with ⟨h1, h2⟩ | ⟨g, cap, cur, h1, h2, h3, h4, h5, h6, h7⟩
  · exact .inl ⟨h1, List.eq_nil_of_length_eq_zero h2⟩
  · refine .inr ⟨g, cap, h1, h2, h4, h5, ⟨(Array.getElem?_eq_some_iff.1 h3).1, fun j hj i x hx => ?_⟩, fun j _ => Lies.free (cs := cur) (t := 36) h3 j⟩
    have hi := cells_lt _ hx
    have h8 : (cellsL xs)[j * 5 + i]? = some x := by rw [cellsL_get xs j hj i hi]; exact hx
    rw [← h7, List.getElem?_take, if_pos (by omega)] at h8
    rw [show 0 + j * 5 + i = j * 5 + i by omega]
    exact Lies.cell (cs := cur) (t := 36) h3 (j * 5 + i) (by simpa using h8)
theorem OwnT.tat {w : World} {base : Nat} {a : Option Addr} {n c : Nat} {xs : List Nd} (h : OwnT w base (.slice a n c) xs) (hl : xs.length ≤ 1000000) (hk : ∀ x ∈ xs, x.kids ≤ 9223372036854775807) : TAt w a xs ∧ n = xs.length ∧ n ≤ c := by
  rcases h.form with ⟨h1, h2⟩ | ⟨g, cap, h1, h2, h3, h4, h5, -⟩
  · cases h1
    subst h2
    exact ⟨⟨fun h => by simp at h, hl, hk⟩, rfl, Nat.le_refl _⟩
  · cases h1
    exact ⟨⟨fun _ => ⟨g, 0, rfl, h5⟩, hl, hk⟩, rfl, h3⟩
theorem OwnT.kept {w w' : World} {base : Nat} {v : Value} {xs : List Nd} (h : OwnT w base v xs) (hb : Below w.heap.size w w') : OwnT w' base v xs := by
  refine ⟨h.1, ?_⟩
  rcases h.2 with hn | ⟨g, cap, cur, h1, h2, h3, h4⟩
  · exact .inl hn
  · exact .inr ⟨g, cap, cur, h1, h2, (hb.block g (Array.getElem?_eq_some_iff.1 h3).1).trans h3, h4⟩
theorem setCell_self {w : World} {g off : Nat} {v : Value} (h : w.cell? ⟨g, off, none⟩ = some v) : w.setCell ⟨g, off, none⟩ v = w := by
  have e : (w.setCell ⟨g, off, none⟩ v).heap = w.heap := by
    unfold World.setCell
    apply Array.ext
    · simp
    · intro i h1 h2
      simp only
      rw [Array.getElem_modify]
      split
      · rename_i hi
        subst hi
        unfold World.cell? at h
        simp only [Array.getElem?_eq_getElem h2] at h
        cases hg : w.heap[g] with
        | cells c t f =>
          rw [hg] at h
          simp at h
          simp
          apply Array.ext
          · simp
          · intro k k1 k2
            rw [Array.getElem_setIfInBounds (by simpa using k1)]
            split
            · rename_i hk
              subst hk
              rw [Array.getElem?_eq_getElem k2] at h
              exact (Option.some.inj h).symm
            · rfl
        | _ => rfl
      · rfl
  show ({ w with heap := (w.setCell ⟨g, off, none⟩ v).heap } : World) = w
  rw [e]
theorem info32 : (Tryz.prog.info? 36).map (fun i => (i.zero, i.size, i.bytes)) = some (some (.agg #[.int .i64 0, .int .i64 0, .int .u64 0, .string ⟨#[]⟩, .int .i64 0]), 5, 48) := by kernel_rfl
theorem nodes_nil (w : World) (a : Option Addr) (l c : Nat) : (binOp .eql 25 (.slice a l c) (.slice none 0 0)).run Tryz.prog w = .ok (.bool a.isNone) w := Lib.run_eql_slice_nil w _ _ a l c 0 0 Tryz.underlying25
set_option maxRecDepth 100000 in
set_option maxHeartbeats 1000000 in
theorem sclone_any (w : World) (a : Option Addr) (c : Nat) (xs : List Nd) (hk : TAt w a xs) :
    Calls Tryz.prog 70 #[.slice a xs.length c] w fun e w' => ∃ v, e = .returned v ∧ OwnT w' w.heap.size v xs ∧ Below w.heap.size w w' := by
  cases a with
  | none =>
    have hn : xs = [] := by
      rcases Nat.eq_zero_or_pos xs.length with h | h
      · exact List.eq_nil_of_length_eq_zero h
      · obtain ⟨g, off, h1, -⟩ := hk.1 h
        cases h1
    subst hn
    have hq := nodes_nil w none 0 c
    clear hk
    show Calls Tryz.prog 70 #[.slice none 0 c] w _
    go_enter Tryz.func70, Tryz.ntmps70
    go_wp2_with fail
    go_ret
    exact ⟨_, rfl, World.ownsRow_nil _ _ _ _, Below.refl _ _⟩
  | some ad =>
    obtain ⟨i0, hi0, hz0, hz1, hz2⟩ := info_parts info32
    have he : (w.alloc (.cells #[] 36)).ownsRow w.heap.size 36 5 (.slice (some ⟨w.heap.size, 0, none⟩) 0 0) 0 [] := World.ownsRow_made w #[] 0 (Nat.le_refl _) (Nat.zero_le _) rfl
    have hb : Below w.heap.size w (w.alloc (.cells #[] 36)) := (Below.refl _ _).alloc (Nat.le_refl _) _
    have hs : ∀ j u, (cellsL xs)[j]? = some u → (w.alloc (.cells #[] 36)).cell? (ad.add j) = some u := fun j u hu => by
      have h0 : 0 < xs.length := by
        have := (List.getElem?_eq_some_iff.1 hu).1
        rw [cellsL_len] at this
        omega
      obtain ⟨g, off, h1, h2⟩ := hk.1 h0
      cases h1
      exact (h2.below hb h2.1).cellsL j u hu
    have hle := hk.2.1
    have hq := nodes_nil w (some ad) xs.length c
    have HE := Lib.hid he
    have HB := Lib.hid hb
    have HS := Lib.hid hs
    clear he hb hs hk
    go_enter Tryz.func70, Tryz.ntmps70
    go_wp2_with (at_builtin; go_must (refine wpList_append_own_at _ rfl _ _ 25 rfl w.heap.size 36 i0 (.agg #[.int .i64 0, .int .i64 0, .int .u64 0, .string ⟨#[]⟩, .int .i64 0]) 5 48 Tryz.underlying25 hi0 hz0 hz1 hz2 rfl (by decide) _ 0 [] rfl HE.out ad xs.length c (cellsL xs) rfl (cellsL_len xs) HS.out (cellsL_one xs) (by unfold maxLen; omega) (by omega) (by simp) ?_; intro v' w1 hown hgrow _ hat))
    go_ret
    refine ⟨_, rfl, by unfold OwnT; simpa using hown, HB.out.grown hgrow (by simp) (fun k e => ?_)⟩
    have : w.heap.size = k := Option.some.inj e
    omega
theorem strclone_any (w : World) (s : ByteArray) (hl : s.size ≤ 281474976710656) : Calls Tryz.prog 71 #[.string s] w fun e w' => e = .returned (.string s) ∧ Below w.heap.size w w' := by
  have h := Tryz.stringslite_Clone s w hl
  have H := Lib.hid h
  clear h
  go_enter Tryz.func71, Tryz.ntmps71
  go_wp2_with fail
  refine H.out.mono ?_
  rintro e w2 ⟨rfl, hb⟩
  have HB := Lib.hid hb
  clear hb
  go_wp2_with fail
  go_ret
  exact ⟨rfl, HB.out⟩
def TxtIn (xs : List Nd) : Prop := ∀ x ∈ xs, x.txt.size ≤ 281474976710656
set_option maxRecDepth 100000 in
set_option maxHeartbeats 1000000 in
theorem own_any (w : World) (a : Option Addr) (c : Nat) (xs : List Nd) (hk : TAt w a xs) (ht : TxtIn xs) :
    Calls Tryz.prog 50 #[.slice a xs.length c] w fun e w' => ∃ v, e = .returned v ∧ OwnT w' w.heap.size v xs ∧ Below w.heap.size w w' := by
  have hcl := sclone_any w a c xs hk
  obtain ⟨n, hn⟩ : ∃ n, n = xs.length := ⟨_, rfl⟩
  have hle : n ≤ 1000000 := by rw [hn]; exact hk.2.1
  rw [← hn] at hcl ⊢
  have HC := Lib.hid hcl
  have HT := Lib.hid (And.intro ht hn)
  clear hcl ht hk hn
  go_enter Tryz.func50, Tryz.ntmps50
  go_wp2_with fail
  refine HC.out.mono ?_
  rintro e W1 ⟨v, rfl, hown, hb1⟩
  have HO := Lib.hid (And.intro hown hb1)
  clear hown hb1 HC
  obtain ⟨ad, cc, rfl⟩ : ∃ ad cc, v = .slice ad n cc := by
    rcases HO.out.1.form with ⟨h1, h2⟩ | ⟨g, cap, h1, -⟩
    · exact ⟨none, 0, by rw [h1, HT.out.2, h2]; rfl⟩
    · exact ⟨_, _, by rw [h1, HT.out.2]⟩
  go_wp2_with fail
  go_loopw [8] (fun i W => ∃ k : Nat, k ≤ n ∧ i = .int .i64 k ∧ OwnT W w.heap.size (.slice ad n cc) xs ∧ Below w.heap.size w W) (fun i _ => (n - intOf i).toNat)
  case atStart => exact ⟨0, by omega, by go_num, HO.out.1, HO.out.2⟩
  case round =>
    obtain ⟨k, hk, rfl, hown, hbr⟩ := hrel
    by_cases hlt : k < n
    · have hxl : k < xs.length := by rw [← HT.out.2]; exact hlt
      rcases hown.form with ⟨h1, h2⟩ | ⟨g, cap, h1, h2, h3, h4, h5, h6⟩
      · rw [h2] at hxl; simp at hxl
      cases h1
      obtain ⟨s, hs⟩ : ∃ s, s = xs[k].txt := ⟨_, rfl⟩
      have c3 : wr.cell? ⟨g, k * 5 + 3, none⟩ = some (.string s) := by
        have := h5.2 k hxl 3 (.string xs[k].txt) rfl
        rw [hs]
        rw [show k * 5 + 3 = 0 + k * 5 + 3 by omega]
        exact this
      have hgl := h5.1
      have f3 : wr.frozen? ⟨g, k * 5 + 3, none⟩ = false := h6 _ (by omega)
      have hcs := strclone_any wr s (by rw [hs]; exact HT.out.1 _ (List.getElem_mem hxl))
      have q0 : (0 : Int) ≤ (k : Int) := by omega
      have q1 : (k : Int) < (xs.length : Int) := by omega
      have HCS := Lib.hid hcs
      have HR := Lib.hid (And.intro hown (And.intro hbr hgl))
      have HF := Lib.hid (And.intro c3 f3)
      clear hown hbr h2 h3 h4 h5 h6 hcs hgl hs f3 hxl
      go_wp2_with fail
      refine HCS.out.mono ?_
      rintro e W2 ⟨rfl, hb2⟩
      clear c3
      have c3 : W2.cell? ⟨g, k * 5 + 3, none⟩ = some (.string s) := (hb2.cell (p := ⟨g, k * 5 + 3, none⟩) HR.out.2.2).trans HF.out.1
      have f3 : W2.frozen? ⟨g, k * 5 + 3, none⟩ = false := (hb2.frozen (p := ⟨g, k * 5 + 3, none⟩) HR.out.2.2).trans HF.out.2
      have e2 : W2.setCell ⟨g, k * 5 + 3, none⟩ (.string s) = W2 := setCell_self c3
      have HN := Lib.hid (And.intro e2 (And.intro (HR.out.1.kept hb2) (HR.out.2.1.trans (hb2.mono HR.out.2.1.size))))
      clear e2 hb2
      go_wp2_with fail
      go_roundw
      case rel => exact ⟨k + 1, by omega, by go_num, by rw [HN.out.1]; exact HN.out.2.1, by rw [HN.out.1]; exact HN.out.2.2⟩
      case measure => simp [intOf]; omega
    · have HR := Lib.hid (And.intro hown hbr)
      have hke : k = n := by omega
      subst hke
      clear hown hbr hlt
      go_wp2_with fail
      go_ret
      exact ⟨_, rfl, HR.out.1, HR.out.2⟩
end Go.Proofs.YtieoiklgoeclaaaGreat
