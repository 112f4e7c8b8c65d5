/-
  Rows of rows of totals: lent (34), as they were (45).
  The document's own Cmp (42) of wide numbers.
-/
import Derived.Test.YtjngghihciimjaaGreatJTk
import Derived.Test.YtjngghihciimjaaGreatJRo
import Derived.Test.YtjngghihciimjaaGreatJVy
namespace Go.Proofs.YtjngghihciimjaaGreat
set_option maxRecDepth 100000
open Go.RowKit Go.Sort Go.Maps

attribute [-go_sem] Instr.build
/-- The slices of rows. -/
def slR (ts : List Tr) : List Value := ts.map fun v => .slice v.pa v.l.length v.c
/-- Rows that are lent, in a list of the call's own. -/
structure LentR (W : World) (B : Nat) (v : Value) (rs xs : List Tr) : Prop where
  own : W.ownsRow B 49 1 v xs.length (slR xs)
  each : ∀ x, x ∈ xs → LentT W B x.l (.slice x.pa x.l.length x.c)
  same : xs.map (·.l) = rs.map (·.l)
theorem LentT.below {w U : World} {B : Nat} {l : List To} {v : Value} (h : LentT w B l v) (hb : Below w.heap.size w U) : LentT U B l v := by
  obtain ⟨g, c, h1, h2, h3⟩ := h
  exact ⟨g, c, h1, h2, ownsRow_below h3 hb⟩
theorem LentT.mono {w : World} {B B' : Nat} {l : List To} {v : Value} (h : LentT w B l v) (hb : B' ≤ B) : LentT w B' l v := by
  obtain ⟨g, c, h1, h2, h3⟩ := h
  exact ⟨g, c, h1, h2, own_mono h3 hb⟩
theorem LentR.below {W W' : World} {B : Nat} {v : Value} {rs xs : List Tr} (h : LentR W B v rs xs) (hb : Below W.heap.size W W') : LentR W' B v rs xs := ⟨ownsRow_below h.own hb, fun u hu => (h.each u hu).below hb, h.same⟩
theorem LentR.len {W : World} {B : Nat} {v : Value} {rs xs : List Tr} (h : LentR W B v rs xs) : xs.length = rs.length := by
  have := congrArg List.length h.same
  simpa using this
theorem LentT.kept {w U : World} {B : Nat} {l : List To} {v : Value} (h : LentT w B l v) {r : Option Nat} (hg : w.grownBy U r) (hne : ∀ g, v.ownBlock = some g → r ≠ some g) : LentT U B l v := by
  obtain ⟨g, c, h1, h2, h3⟩ := h
  subst h1
  exact ⟨g, c, rfl, h2, own_keptO h3 hg hne⟩
def LentRRes (B : Nat) (rs : List Tr) (e : Ending) (w' : World) : Prop := ∃ pa c xs, e = .returned (.slice pa xs.length c) ∧ LentR w' B (.slice pa xs.length c) rs xs
set_option maxHeartbeats 8000000 in
theorem lentR_any (w : World) (pa : Option Addr) (rs : List Tr) (c : Nat) (h : RowRT w pa rs) (hl : rs.length ≤ 100000) (hls : ∀ r, r ∈ rs → r.l.length ≤ 100000) (hnil : ∀ r, r ∈ rs → r.pa = none → r.c = 0) :
    Calls Tryz.prog 34 #[.slice pa rs.length c] w fun e w' => LentRRes w.heap.size rs e w' ∧ Below w.heap.size w w' := by
  obtain ⟨n, hn⟩ : ∃ n, n = rs.length := ⟨_, rfl⟩
  obtain ⟨i0, hi0, hz0, hz1, hz2⟩ := info_partsZ infoRT
  have HI := Lib.hid (And.intro hi0 (And.intro hz0 (And.intro hz1 hz2)))
  rw [← hn] at hl ⊢
  have q1 : (n : Int) ≤ 100000 := by omega
  have q2 : (0 : Int) ≤ (n : Int) := by omega
  have H := Lib.hid (And.intro h (And.intro hn (And.intro hls (And.intro hnil hl))))
  clear h hn hls hnil hi0 hz0 hz1 hz2 hl
  go_enter Tryz.func34, Tryz.ntmps34
  go_wp2_with fail
  go_loopw [3, 4] (fun s i W => ∃ (k : Nat) (xs : List Tr) (pa : Option Addr) (d : Nat), k ≤ n ∧ i = .int .i64 k ∧ s = .slice pa k d ∧ xs.length = k ∧ LentR W w.heap.size (.slice pa k d) (rs.take k) xs ∧ Below w.heap.size w W) (fun _ i _ => n - (intOf i).toNat)
  case atStart => exact ⟨0, [], none, 0, Nat.zero_le _, rfl, rfl, rfl, by rw [List.take_zero]; exact ⟨World.ownsRow_nil _ _ _ _, fun u hu => by simp at hu, rfl⟩, Below.refl _ _⟩
  case round =>
    obtain ⟨k, xs, ps, d, hk, rfl, rfl, hxl, hcp, hb⟩ := hrel
    by_cases hlt : k < n
    · as_aux_lemma =>
      have m1 : (k : Int) < (n : Int) := by omega
      have m1n : k < n := hlt
      have m0 : (0 : Int) ≤ (k : Int) := by omega
      obtain ⟨g, off, rfl, hg, hh⟩ := H.out.1.2 (by have := H.out.2.1; omega)
      obtain ⟨v, hkv⟩ : ∃ v, rs[k]? = some v := ⟨rs[k]'(by have := H.out.2.1; omega), List.getElem?_eq_getElem _⟩
      have hmem := List.mem_of_getElem? hkv
      have c1 := (hb.cell (p := ⟨g, off + k, none⟩) hg).trans (hh k v hkv).1
      have hrow := (hh k v hkv).2.below hb (Nat.le_refl _)
      have hcall := lentTo_any wr v.pa v.l v.c hrow (H.out.2.2.2.1 v hmem) (H.out.2.2.1 v hmem)
      have HR := Lib.hid (And.intro hb (And.intro hlt (And.intro hkv (And.intro hcp (And.intro hcall hxl)))))
      clear hkv hcall hg hh hb hlt hk hcp hmem hrow hxl
      go_wp2_with (first
        | (go_at_call 74; refine HR.out.2.2.2.2.1.mono ?_; rintro e w2 ⟨⟨s5, rfl, hlent⟩, hb2⟩
           obtain ⟨gx, cx, rfl, hcx, hox⟩ := hlent
           have hlent : LentT w2 w.heap.size v.l (.slice (some ⟨gx, 0, none⟩) v.l.length cx) := LentT.mono ⟨gx, cx, rfl, hcx, hox⟩ HR.out.1.size
           have hb3 : Below wr.heap.size wr (w2.alloc (.cells #[.slice (some ⟨gx, 0, none⟩) v.l.length cx] 49)) := hb2.alloc hb2.size _
           have hb23 : Below w2.heap.size w2 (w2.alloc (.cells #[.slice (some ⟨gx, 0, none⟩) v.l.length cx] 49)) := (Below.refl _ _).alloc (Nat.le_refl _) _
           have H3 := Lib.hid (And.intro (HR.out.2.2.2.1.below hb3) (And.intro (HR.out.1.trans (hb3.mono HR.out.1.size)) (hlent.below hb23)))
           clear hb2 hb3 hb23 hlent hcx hox)
        | (at_builtin; go_must (refine wpList_append_own _ rfl _ _ 58 rfl w.heap.size 49 i0 (.slice none 0 0) 1 24 Tryz.underlying58 HI.out.1 HI.out.2.1 HI.out.2.2.1 HI.out.2.2.2 rfl (by decide) (.slice ps k d) k (slR xs) rfl (by have := H3.out.1.own; rw [HR.out.2.2.2.2.2] at this; exact this) ⟨w2.heap.size, 0, none⟩ 1 1 [.slice (some ⟨gx, 0, none⟩) v.l.length cx] rfl rfl (cell_one_new _ _ _) (by simp; rfl) (by have h2 := HR.out.2.1; have h3 := H.out.2.2.2.2; unfold maxLen; omega) (by have h2 := HR.out.2.1; have h3 := H.out.2.2.2.2; omega) H3.out.2.1.size ?_)
           intro v' w7 hown hgrow hnil
           have hsh : ∃ p c, v' = .slice p (k + 1) c := by
             rcases hown.2 with ⟨_, h0⟩ | ⟨g, cap, cur, rfl, _⟩
             · omega
             · exact ⟨_, cap, rfl⟩
           obtain ⟨p7, c7, rfl⟩ := hsh
           have H7 := Lib.hid (And.intro hown hgrow)
           clear hown hgrow hnil))
      have hfin : LentR w7 w.heap.size (.slice p7 (k + 1) c7) (rs.take (k + 1)) (xs ++ [⟨some ⟨gx, 0, none⟩, v.l, cx⟩]) := by
        have hfar : ∀ (l : List To) (u : Value), LentT (w2.alloc (.cells #[.slice (some ⟨gx, 0, none⟩) v.l.length cx] 49)) w.heap.size l u → ∀ g, u.ownBlock = some g → (Value.slice ps k d).ownBlock ≠ some g := fun l u hu g hg e => by
          obtain ⟨g5, c5, rfl, _, h5⟩ := hu
          exact rows_apart (H3.out.1.own) h5 (by decide) g5 rfl (by
            have e1 : g5 = g := Option.some.inj hg
            rw [e1]
            exact e.symm)
        refine ⟨?_, fun u hu => ?_, ?_⟩
        · have e : (xs ++ [(⟨some ⟨gx, 0, none⟩, v.l, cx⟩ : Tr)]).length = k + 1 := by rw [List.length_append, HR.out.2.2.2.2.2]; rfl
          rw [e]
          have e2 : slR (xs ++ [(⟨some ⟨gx, 0, none⟩, v.l, cx⟩ : Tr)]) = slR xs ++ [.slice (some ⟨gx, 0, none⟩) v.l.length cx] := by simp [slR]
          rw [e2]
          exact H7.out.1
        · rcases List.mem_append.1 hu with hu | hu
          · exact (H3.out.1.each u hu).kept H7.out.2 (hfar _ _ (H3.out.1.each u hu))
          · rw [List.mem_singleton] at hu
            subst hu
            exact H3.out.2.2.kept H7.out.2 (hfar _ _ H3.out.2.2)
        · rw [List.map_append, H3.out.1.same, List.take_add_one, HR.out.2.2.1]
          simp
      have hxl2 : (xs ++ [(⟨some ⟨gx, 0, none⟩, v.l, cx⟩ : Tr)]).length = k + 1 := by rw [List.length_append, HR.out.2.2.2.2.2]; rfl
      have hbf := H3.out.2.1.grown H7.out.2 H3.out.2.1.size (fun j hj => (H3.out.1.own.lt j hj).1)
      have HX := Lib.hid (And.intro hfin (And.intro hxl2 hbf))
      clear hfin hxl2 hbf c1
      go_wp2_with fail
      refine ⟨⟨k + 1, _, p7, c7, HR.out.2.1, by go_num, rfl, HX.out.2.1, HX.out.1, HX.out.2.2⟩, ?_⟩
      have h := HR.out.2.1
      simp [intOf]; omega
    · as_aux_lemma =>
      have hkn : k = n := by omega
      subst hkn
      have m1 : decide ((k : Int) < (k : Int)) = false := by simp
      have m1n : ¬ k < k := by omega
      have hvs : rs.take k = rs := by rw [H.out.2.1]; exact List.take_length
      rw [hvs] at hcp
      have HE := Lib.hid (And.intro hcp (And.intro hb hxl))
      clear hcp hb hlt hk hvs hxl
      go_wp2_with fail
      go_ret
      exact ⟨⟨ps, d, xs, by rw [HE.out.2.2]; rfl, by rw [HE.out.2.2]; exact HE.out.1⟩, HE.out.2.1⟩
/-- What of lent rows is looked at. -/
structure LookR (w : World) (rs xs : List Tr) (pa : Option Addr) : Prop where
  len : xs.length = rs.length
  each : ∀ (k : Nat) (r : Tr), rs[k]? = some r → ∃ gx cx, xs[k]? = some ⟨some ⟨gx, 0, none⟩, r.l, cx⟩ ∧ LentTn w r.l gx cx
  row : 0 < rs.length → ∃ g, pa = some ⟨g, 0, none⟩ ∧ g < w.heap.size ∧ ∀ (k : Nat) (x : Tr), xs[k]? = some x → w.cell? ⟨g, k, none⟩ = some (.slice x.pa x.l.length x.c)
theorem LentR.look {w : World} {B : Nat} {rs xs : List Tr} {pa : Option Addr} {n c : Nat} (h : LentR w B (.slice pa n c) rs xs) (ho : ∀ r, r ∈ rs → ∀ a, a ∈ r.l → ToOk a) : LookR w rs xs pa := by
  have hlen := h.len
  refine ⟨hlen, fun k r hr => ?_, fun hpos => ?_⟩
  · have hk : k < rs.length := (List.getElem?_eq_some_iff.1 hr).1
    have hu : xs[k]? = some (xs[k]'(by omega)) := List.getElem?_eq_getElem _
    have hs := congrArg (fun l : List (List To) => l[k]?) h.same
    simp only [List.getElem?_map, hu, hr, Option.map_some, Option.some.injEq] at hs
    have hla := h.each _ (List.mem_of_getElem? hu)
    generalize xs[k]'(by omega) = u at hu hs hla
    obtain ⟨p, l, d⟩ := u
    obtain rfl : l = r.l := hs
    obtain ⟨gx, cx, e, hin⟩ := hla.inn (ho r (List.mem_of_getElem? hr))
    simp only [Value.slice.injEq, true_and] at e
    obtain ⟨rfl, rfl⟩ := e
    exact ⟨gx, d, hu, hin⟩
  · rcases h.own.2 with ⟨h1, h0⟩ | ⟨g, cap, cur, h1, h2, h3, _⟩
    · omega
    · simp only [Value.slice.injEq] at h1
      have hg : (Value.slice pa n c).ownBlock = some g := by rw [h1.1]; rfl
      refine ⟨g, h1.1, (Array.getElem?_eq_some_iff.1 h3).1, fun k x hx => ?_⟩
      have := h.own.cells hg k (.slice x.pa x.l.length x.c) (by unfold slR; rw [List.getElem?_map, hx]; rfl)
      rwa [Addr.add_mid, Nat.zero_add] at this
theorem LookR.below {w U : World} {rs xs : List Tr} {pa : Option Addr} (h : LookR w rs xs pa) {B : Nat} (hB : w.heap.size ≤ B) (hb : Below B w U) : LookR U rs xs pa :=
  ⟨h.len, fun k r hr => by
      obtain ⟨gx, cx, h1, h2⟩ := h.each k r hr
      exact ⟨gx, cx, h1, h2.below hb hB⟩, fun hp => by
      obtain ⟨g, h1, h2, h3⟩ := h.row hp
      exact ⟨g, h1, Nat.lt_of_lt_of_le h2 hb.size, fun k x hx => (hb.cell (p := ⟨g, k, none⟩) (Nat.lt_of_lt_of_le h2 hB)).trans (h3 k x hx)⟩⟩
/-- As rows. -/
theorem LookR.rows {w : World} {rs xs : List Tr} {pa : Option Addr} (h : LookR w rs xs pa) (hl : rs.length ≤ maxLen) (ho : ∀ r, r ∈ rs → r.l.length ≤ maxLen ∧ ∀ a, a ∈ r.l → ToOk a) : RowRT w pa xs := by
  refine ⟨by rw [h.len]; exact hl, fun hp => ?_⟩
  obtain ⟨g, h1, h2, h3⟩ := h.row (by rw [← h.len]; exact hp)
  refine ⟨g, 0, h1, h2, fun i x hx => ⟨by rw [Nat.zero_add]; exact h3 i x hx, ?_⟩⟩
  have hi : i < rs.length := by rw [← h.len]; exact (List.getElem?_eq_some_iff.1 hx).1
  have hv : rs[i]? = some (rs[i]'hi) := List.getElem?_eq_getElem _
  obtain ⟨gx, cx, h4, h5⟩ := h.each i _ hv
  rw [hx] at h4
  obtain rfl := Option.some.inj h4
  have hm := ho _ (List.mem_of_getElem? hv)
  exact h5.row hm.1 hm.2
set_option maxHeartbeats 8000000 in
theorem keptR_any (w : World) (rs xs : List Tr) (px : Option Addr) (cx : Nat) (pa : Option Addr) (c : Nat) (hlk : LookR w rs xs px) (h : RowRT w pa rs) (hl : rs.length ≤ 100000) (hls : ∀ r, r ∈ rs → r.l.length ≤ 100000) :
    Calls Tryz.prog 45 #[.slice px rs.length cx, .slice pa rs.length c] w fun e w' => e = .returned (.bool true) ∧ Below w.heap.size w w' := by
  obtain ⟨n, hn⟩ : ∃ n, n = rs.length := ⟨_, rfl⟩
  have q1 : (n : Int) ≤ 100000 := by omega
  have q2 : (0 : Int) ≤ (n : Int) := by omega
  have H := Lib.hid (And.intro hlk (And.intro h (And.intro hls hn)))
  rw [← hn] at hl ⊢
  clear hlk h hls hn hl
  go_enter Tryz.func45, Tryz.ntmps45
  go_wp2_with fail
  go_loopw [5] (fun i W => ∃ k : Nat, k ≤ n ∧ i = .int .i64 k ∧ Below w.heap.size w W) (fun i _ => n - (intOf i).toNat)
  case atStart => exact ⟨0, Nat.zero_le _, rfl, Below.refl _ _⟩
  case round =>
    obtain ⟨k, hk, rfl, hb⟩ := hrel
    have m0 : (0 : Int) ≤ (k : Int) := by omega
    by_cases hlt : k < n
    · as_aux_lemma =>
      have m1 : (k : Int) < (n : Int) := by omega
      have m1n : k < n := hlt
      obtain ⟨g2, off, rfl, hg, hh⟩ := H.out.2.1.2 (by have := H.out.2.2.2; omega)
      obtain ⟨v, hkv⟩ : ∃ v, rs[k]? = some v := ⟨rs[k]'(by have := H.out.2.2.2; omega), List.getElem?_eq_getElem _⟩
      obtain ⟨gx, cx2, hx1, hx2⟩ := H.out.1.each k v hkv
      obtain ⟨g1, rfl, hg1, hrow1⟩ := H.out.1.row (by have := H.out.2.2.2; omega)
      have c1 := (hb.cell (p := ⟨g1, k, none⟩) hg1).trans (hrow1 k _ hx1)
      have c2 := (hb.cell (p := ⟨g2, off + k, none⟩) hg).trans (hh k v hkv).1
      have rX := fun d os => cell_regrown c1 d os
      have rY := fun d os => cell_regrown c2 d os
      have hkp := fun U (hU : Below wr.heap.size wr U) => keptTo_any U v.l gx cx2 v.pa v.c ((hx2.below hb).below hU) (((hh k v hkv).2.below hb (Nat.le_refl _)).below hU (Nat.le_refl _)) (H.out.2.2.1 v (List.mem_of_getElem? hkv))
      have K1 : Hid (∀ U, Below wr.heap.size wr U → Calls Tryz.prog 83 #[.slice (some ⟨gx, 0, none⟩) v.l.length cx2, .slice v.pa v.l.length v.c] U fun e w' => e = .returned (.bool true) ∧ Below U.heap.size U w') := Lib.hid hkp
      have HB := Lib.hid (And.intro hb hlt)
      clear hkp hb hlt hkv hh hg hx1 hx2 hg1 hrow1 hk c1 c2
      go_upto_region 6 with fail
      refine wp_region_quiet_below (by kernel_rfl) (by kernel_rfl) ?_
      iterate 8 (first | go_big_quiet_step (fail) | quiet_step (fail))
      quiet_step ((go_at_call 83; with_reducible exact Calls.regrown_of (K1.out _ (below_regrown _ _ _))))
      iterate 1 (first | go_big_quiet_step (fail) | quiet_step (fail))
      refine wpQuiet_nil ?_
      rintro w5 ⟨p9, hw5⟩
      have HB5 : Hid (Below w.heap.size w w5) := Lib.hid (by rw [hw5]; exact HB.out.1.trans ((below_regrown wr p9.d p9.os).mono HB.out.1.size))
      clear hw5 K1 rX rY
      go_wp2_with fail
      refine ⟨⟨k + 1, HB.out.2, by go_num, HB5.out⟩, ?_⟩
      have := HB.out.2
      simp [intOf]; omega
    · as_aux_lemma =>
      obtain rfl : k = n := by omega
      have m1 : decide ((k : Int) < (k : Int)) = false := by simp
      have m1n : ¬ k < k := by omega
      have HE := Lib.hid hb
      clear hb hlt hk
      go_wp2_with fail
      go_ret
      exact ⟨rfl, HE.out⟩
end Go.Proofs.YtjngghihciimjaaGreat
namespace Go.Proofs.YtjngghihciimjaaGreat
set_option maxRecDepth 100000
open Go.RowKit Go.Sort

/-- How two wide numbers stand to one another. -/
def cmpW (x y : BitVec 128) : Int := if x = y then 0 else if hiS x < hiS y ∨ hiS x = hiS y ∧ loN x < loN y then -1 else 1
set_option maxHeartbeats 2000000 in
theorem rcmp_any (w : World) (x y : BitVec 128) : Calls Tryz.prog 42 #[wv x, wv y] w fun e w' => e = .returned (.int .i64 (cmpW x y)) ∧ Below w.heap.size w w' := by
  have heq : ∀ W, (Op.equalIn 10000 48 (.agg #[.int .i64 (hiS x), .int .u64 (loN x)]) (.agg #[.int .i64 (hiS y), .int .u64 (loN y)])).run Tryz.prog W = .ok (decide (x = y)) W := fun W => eq_w W x y
  obtain ⟨z, hz⟩ : ∃ z, z = cmpW x y := ⟨_, rfl⟩
  rw [← hz]
  unfold cmpW at hz
  unfold wv
  obtain ⟨a, ha⟩ : ∃ a, a = hiS x := ⟨_, rfl⟩
  obtain ⟨b, hb⟩ : ∃ b, b = loN x := ⟨_, rfl⟩
  obtain ⟨c, hc⟩ : ∃ c, c = hiS y := ⟨_, rfl⟩
  obtain ⟨d, hd⟩ : ∃ d, d = loN y := ⟨_, rfl⟩
  rw [← ha, ← hb, ← hc, ← hd] at heq
  rw [← ha, ← hb, ← hc, ← hd] at hz
  rw [← ha, ← hb, ← hc, ← hd]
  clear ha hb hc hd
  have hL1 : Lies ((w.alloc (.cells #[.int .i64 a, .int .u64 b] 48)).alloc (.cells #[.int .i64 c, .int .u64 d] 48)) w.heap.size #[.int .i64 a, .int .u64 b] 48 := (Lies.new _ _ _).alloc _
  have hL2 : Lies ((w.alloc (.cells #[.int .i64 a, .int .u64 b] 48)).alloc (.cells #[.int .i64 c, .int .u64 d] 48)) (w.heap.size + 1) #[.int .i64 c, .int .u64 d] 48 := by
    have := Lies.new (w.alloc (.cells #[.int .i64 a, .int .u64 b] 48)) #[.int .i64 c, .int .u64 d] 48
    simpa using this
  have hb0 : Below w.heap.size w ((w.alloc (.cells #[.int .i64 a, .int .u64 b] 48)).alloc (.cells #[.int .i64 c, .int .u64 d] 48)) := ((Below.refl _ _).alloc (Nat.le_refl _) _).alloc (by simp) _
  have H := Lib.hid hb0
  clear hb0
  go_enter Tryz.func42, Tryz.ntmps42
  go_upto_region 1 with fail
  generalize (w.alloc (.cells #[.int .i64 a, .int .u64 b] 48)).alloc (.cells #[.int .i64 c, .int .u64 d] 48) = W1 at hL1 hL2 H ⊢
  have p0 := hL1.cell 0 (v := .int .i64 a) rfl
  have p1 := hL1.cell 1 (v := .int .u64 b) rfl
  have p2 := hL2.cell 0 (v := .int .i64 c) rfl
  have p3 := hL2.cell 1 (v := .int .u64 d) rfl
  clear hL1 hL2
  by_cases hxy : x = y
  · have hd : decide (x = y) = true := decide_eq_true hxy
    rw [hd] at heq
    rw [if_pos hxy] at hz
    have HZ := Lib.hid hz
    clear hz hxy hd
    go_wp2_with fail
    go_ret
    exact ⟨by rw [HZ.out]; rfl, H.out⟩
  · have hd : decide (x = y) = false := decide_eq_false hxy
    rw [hd] at heq
    rw [if_neg hxy] at hz
    clear hxy hd
    by_cases h1 : a < c
    · rw [if_pos (.inl h1)] at hz
      have HZ := Lib.hid hz
      clear hz
      go_wp2_with fail
      go_ret
      exact ⟨by rw [HZ.out]; rfl, H.out⟩
    · by_cases h2 : a = c
      · by_cases h3 : b < d
        · rw [if_pos (.inr ⟨h2, h3⟩)] at hz
          have HZ := Lib.hid hz
          clear hz h1
          subst h2
          have h4 : (b : Int) < (d : Int) := by omega
          go_wp2_with fail
          go_ret
          exact ⟨by rw [HZ.out]; rfl, H.out⟩
        · rw [if_neg (fun h => by rcases h with h | h; exact h1 h; exact h3 h.2)] at hz
          have HZ := Lib.hid hz
          clear hz h1
          subst h2
          have h4 : ¬ (b : Int) < (d : Int) := by omega
          have h5 : d ≤ b := by omega
          go_wp2_with fail
          go_ret
          exact ⟨by rw [HZ.out]; rfl, H.out⟩
      · rw [if_neg (fun h => by rcases h with h | h; exact h1 h; exact h2 h.1)] at hz
        have HZ := Lib.hid hz
        clear hz
        have h5 : c ≤ a := by omega
        go_wp2_with fail
        go_ret
        exact ⟨by rw [HZ.out]; rfl, H.out⟩
end Go.Proofs.YtjngghihciimjaaGreat
