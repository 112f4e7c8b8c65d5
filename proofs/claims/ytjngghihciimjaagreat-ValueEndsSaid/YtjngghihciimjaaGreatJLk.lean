/-
  Rows of bundles that were lent are as they were (31).
-/
import Derived.Test.YtjngghihciimjaaGreatJLv
namespace Go.Proofs.YtjngghihciimjaaGreat
set_option maxRecDepth 100000
open Go.RowKit Go.Sort Go.Maps
attribute [-go_sem] Instr.build
attribute [-go_sem] Instr.buildSlice
structure LookV (w : World) (vs us : List Va) (g cg : Nat) : Prop where
 room : vs.length + 12 ≤ cg
 lt : g < w.heap.size
 len : us.length = vs.length
 each : ∀ (k : Nat) (v : Va), vs[k]? = some v → ∃ gx cx, LentIn w v.l gx cx ∧ us[k]? = some ⟨v.coin, some ⟨gx, 0, none⟩, v.l, cx⟩ ∧ w.rangeAt g (k * 2) #[.int .i64 v.coin, .slice (some ⟨gx, 0, none⟩) v.l.length cx].toList
 new : ∀ i, i < 12 → w.rangeAt g ((vs.length + i) * 2) (mkVc 1 i).toList
theorem LentVs.look {w : World} {B : Nat} {vs us : List Va} {g cg : Nat} (h : LentVs w B vs g cg us) (ho : ∀ v, v ∈ vs → ∀ a, a ∈ v.l → AsOk a) : LookV w vs us g cg := by
 obtain ⟨hroom, hl⟩ := h
 have hlen := hl.len
 have hown := hl.own
 rcases own_at vaC 2 (fun a _ => vaC_size a) hown with ⟨h1, _⟩ | ⟨g', cap, h1, h2, h3, h4, h5, _⟩
 ·
  cases h1
 ·
  simp only [Value.slice.injEq, Option.some.injEq, Addr.mk.injEq, true_and, and_true] at h1
  obtain ⟨e1, e2, e3⟩ := h1
  subst e1
  have hget : ∀ (i : Nat) (u : Va), (us ++ marksV 12)[i]? = some u → w.rangeAt g (i * 2) (vaC u).toList := fun i u hu => by
   have := h5 i u hu
   rwa [Nat.zero_add] at this
  refine ⟨hroom, h3, hlen, fun k v hv => ?_, fun i hi => ?_⟩
  ·
   have hk : k < vs.length := (List.getElem?_eq_some_iff.1 hv).1
   have hu : us[k]? = some (us[k]'(by omega)) := List.getElem?_eq_getElem _
   have hs := congrArg (fun l : List (Int × List As) => l[k]?) hl.same
   simp only [List.getElem?_map, hu, hv, Option.map_some, Option.some.injEq, Prod.mk.injEq] at hs
   have hr := hget k _ (by rw [List.getElem?_append_left (by omega)]; exact hu)
   have hla := hl.each _ (List.mem_of_getElem? hu)
   generalize us[k]'(by omega) = u at hu hs hr hla
   obtain ⟨c, p, l, d⟩ := u
   obtain ⟨rfl, rfl⟩ : c = v.coin ∧ l = v.l := hs
   obtain ⟨gx, cx, e, hin⟩ := hla.inn (ho v (List.mem_of_getElem? hv))
   simp only [Value.slice.injEq, true_and] at e
   obtain ⟨rfl, rfl⟩ := e
   exact ⟨gx, d, hin, hu, hr⟩
  ·
   refine hget (vs.length + i) ⟨mkN 1 i, none, [], 0⟩ ?_
   rw [List.getElem?_append_right (by omega), hlen, show vs.length + i - vs.length = i by omega]
   unfold marksV
   rw [List.getElem?_map, List.getElem?_range hi]
   rfl
theorem LookV.below {w U : World} {vs us : List Va} {g cg : Nat} (h : LookV w vs us g cg) {B : Nat} (hB : w.heap.size ≤ B) (hb : Below B w U) : LookV U vs us g cg :=
 ⟨h.room, Nat.lt_of_lt_of_le h.lt hb.size, h.len, fun k v hv => by
   obtain ⟨gx, cx, h1, h2, h3⟩ := h.each k v hv
   exact ⟨gx, cx, h1.below (hb.mono hB), h2, fun j u hu => (hb.cell (p := ⟨g, k * 2 + j, none⟩) (Nat.lt_of_lt_of_le h.lt hB)).trans (h3 j u hu)⟩,
  fun i hi j u hu => (hb.cell (p := ⟨g, (vs.length + i) * 2 + j, none⟩) (Nat.lt_of_lt_of_le h.lt hB)).trans (h.new i hi j u hu)⟩
theorem LookV.row {w : World} {vs us : List Va} {g cg : Nat} (h : LookV w vs us g cg) (hl : vs.length ≤ maxLen) (ho : ∀ v, v ∈ vs → -9223372036854775808 ≤ v.coin ∧ v.coin < 9223372036854775808 ∧ v.l.length ≤ maxLen ∧ ∀ a, a ∈ v.l → AsOk a) : RowV w (some ⟨g, 0, none⟩) us := by
 refine ⟨by rw [h.len]; exact hl, fun _ => ⟨g, 0, rfl, h.lt, fun i u hu => ?_⟩⟩
 have hi : i < vs.length := by rw [← h.len]; exact (List.getElem?_eq_some_iff.1 hu).1
 have hv : vs[i]? = some (vs[i]'hi) := List.getElem?_eq_getElem _
 obtain ⟨gx, cx, h1, h2, h3⟩ := h.each i _ hv
 rw [hu] at h2
 obtain rfl := Option.some.inj h2
 have hm := ho _ (List.mem_of_getElem? hv)
 rw [Nat.zero_add]
 exact ⟨h3, hm.1, hm.2.1, lent_row h1 hm.2.2.1 hm.2.2.2⟩
set_option maxHeartbeats 8000000 in
theorem keptVs_any (w : World) (vs us : List Va) (g cg : Nat) (pa : Option Addr) (c : Nat) (hlk : LookV w vs us g cg) (h : RowV w pa vs) (hl : vs.length ≤ 100000) (hls : ∀ v, v ∈ vs → v.l.length ≤ 100000) :
  Calls Tryz.prog 31 #[.slice (some ⟨g, 0, none⟩) vs.length cg, .slice pa vs.length c] w fun e w' => e = .returned (.bool true) ∧ Below w.heap.size w w' := by
 obtain ⟨n, hn⟩ : ∃ n, n = vs.length := ⟨_, rfl⟩
 have q5 : (n : Int) + 12 ≤ (cg : Int) := by have := hlk.room; omega
 have q1 : (n : Int) ≤ 100000 := by omega
 have q2 : (0 : Int) ≤ (n : Int) := by omega
 have H := Lib.hid (And.intro hlk (And.intro h (And.intro hls hn)))
 rw [← hn] at hl ⊢
 clear hlk h hls hn hl
 go_enter Tryz.func31, Tryz.ntmps31
 go_wp2_with fail
 go_loopw [6] (fun i W => ∃ k : Nat, k ≤ n + 12 ∧ i = .int .i64 k ∧ Below w.heap.size w W) (fun i _ => n + 12 - (intOf i).toNat)
 case atStart => exact ⟨0, Nat.zero_le _, rfl, Below.refl _ _⟩
 case round =>
  obtain ⟨k, hk, rfl, hb⟩ := hrel
  have m0 : (0 : Int) ≤ (k : Int) := by omega
  by_cases hlt : k < n + 12
  ·
   have m1 : (k : Int) < (n : Int) + 12 := by omega
   have hlk := H.out.1.below (Nat.le_refl _) hb
   by_cases hkn : k < n
   ·
    as_aux_lemma =>
    have r1 : (k : Int) < (n : Int) := by omega
    have r3 : k < n := hkn
    have r4 : ¬ n ≤ k := by omega
    have r5 : ¬ (n : Int) ≤ (k : Int) := by omega
    obtain ⟨g2, off, rfl, hg, hh⟩ := H.out.2.1.2 (by have := H.out.2.2.2; omega)
    obtain ⟨v, hkv⟩ : ∃ v, vs[k]? = some v := ⟨vs[k]'(by have := H.out.2.2.2; omega), List.getElem?_eq_getElem _⟩
    obtain ⟨gx, cx, h1, _, h3⟩ := hlk.each k v hkv
    have hvv := hh.below hb hg (Nat.le_refl _) k v hkv
    have hg2 : g2 < wr.heap.size := Nat.lt_of_lt_of_le hg hb.size
    have hkp := fun U (hU : Below wr.heap.size wr U) => keptV_any U v.coin v.l gx cx v.pa v.c (h1.below hU) (hvv.2.2.2.below hU (Nat.le_refl _)) (H.out.2.2.1 v (List.mem_of_getElem? hkv))
    have K1 : Hid (∀ U, Below wr.heap.size wr U → Calls Tryz.prog 20 #[.agg #[.int .i64 v.coin, .slice (some ⟨gx, 0, none⟩) v.l.length cx], .agg #[.int .i64 v.coin, .slice v.pa v.l.length v.c]] U fun e w' => e = .returned (.bool true) ∧ Below U.heap.size U w') := Lib.hid hkp
    have HX := Lib.hid (And.intro h3 (And.intro hlk.lt (And.intro hvv.1 hg2)))
    have HB := Lib.hid (And.intro hb hlt)
    clear hkp h3 hlk hvv hg2 hb hlt hkv hh hg h1 hk hkn
    go_upto_region 7 with fail
    refine wp_region_quiet_below (by kernel_rfl) (by kernel_rfl) ?_
    iterate 8 (first | go_big_quiet_step (fail) | quiet_step (fail))
    refine wpQuiet_loadE (by rfl) 24 _ rfl g (k * 2) rfl #[.int .i64 v.coin, .slice (some ⟨gx, 0, none⟩) v.l.length cx] _ HX.out.1 HX.out.2.1 Tryz.underlying24 rfl info_value ?_
    iterate 3 (first | go_big_quiet_step (fail) | quiet_step (fail))
    refine wpQuiet_loadE (by rfl) 24 _ rfl g2 (off + k * 2) rfl #[.int .i64 v.coin, .slice v.pa v.l.length v.c] _ HX.out.2.2.1 HX.out.2.2.2 Tryz.underlying24 rfl info_value ?_
    quiet_step ((go_at_call 20; with_reducible exact Calls.regrown_of (K1.out _ (below_regrown _ _ _))))
    iterate 21 (first | go_big_quiet_step (fail) | quiet_step (fail))
    refine wpQuiet_nil ?_
    rintro w5 ⟨p9, hw5⟩
    have HB5 : Hid (Below w.heap.size w w5) := Lib.hid (by rw [hw5]; exact HB.out.1.trans ((below_regrown wr p9.d p9.os).mono HB.out.1.size))
    clear hw5 K1 HX
    go_wp2_with fail
    refine ⟨⟨k + 1, HB.out.2, by go_num, HB5.out⟩, ?_⟩
    have := HB.out.2
    simp [intOf]; omega
   ·
    as_aux_lemma =>
    have r1 : decide ((k : Int) < (n : Int)) = false := by simp; omega
    have r2 : decide (k < n) = false := by simp; omega
    have r4 : (n : Int) ≤ (k : Int) := by omega
    have r5 : n ≤ k := by omega
    obtain ⟨j, hj⟩ : ∃ j, j = k - n := ⟨_, rfl⟩
    have hjk : k = n + j := by omega
    have hwj : IntKind.i64.wrap ((k : Int) - (n : Int)) = (j : Int) := by rw [IntKind.wrap_i64]; omega
    have h3 := hlk.new j (by omega)
    rw [← H.out.2.2.2, ← hjk] at h3
    have hmk := fun U => markValue_gen U 1 j (by omega) (by omega)
    have hsm := sameVc_any 1 j
    obtain ⟨X, hX⟩ : ∃ X, X = mkVc 1 j := ⟨_, rfl⟩
    have hXs : (Tryz.prog.info? 24).map (·.size) = some X.size := by rw [hX]; exact info_value
    rw [← hX] at h3 hsm
    simp only [← hX] at hmk
    have K1 := Lib.hid hmk
    have K2 := Lib.hid hsm
    have HX := Lib.hid (And.intro h3 (And.intro hlk.lt hXs))
    have HB := Lib.hid (And.intro hb hlt)
    clear hmk hsm h3 hlk hXs hX hb hlt hj hjk hk hkn
    go_upto_region 7 with fail
    refine wp_region_quiet_below (by kernel_rfl) (by kernel_rfl) ?_
    iterate 25 (first | go_big_quiet_step (fail) | quiet_step (fail))
    refine wpQuiet_loadE (by rfl) 24 _ rfl g (k * 2) rfl X _ HX.out.1 HX.out.2.1 Tryz.underlying24 rfl HX.out.2.2 ?_
    iterate 4 (first | go_big_quiet_step (fail) | quiet_step (fail))
    quiet_step ((go_at_call 64; with_reducible exact Calls.regrown_of (K1.out _)))
    quiet_step ((go_at_call 12; with_reducible exact Calls.regrown_of (K2.out _)))
    iterate 3 (first | go_big_quiet_step (fail) | quiet_step (fail))
    refine wpQuiet_nil ?_
    rintro w5 ⟨p9, hw5⟩
    have HB5 : Hid (Below w.heap.size w w5) := Lib.hid (by rw [hw5]; exact HB.out.1.trans ((below_regrown wr p9.d p9.os).mono HB.out.1.size))
    clear hw5 K1 K2 HX
    go_wp2_with fail
    refine ⟨⟨k + 1, HB.out.2, by go_num, HB5.out⟩, ?_⟩
    have := HB.out.2
    simp [intOf]; omega
  ·
   as_aux_lemma =>
   have m1 : decide ((k : Int) < (n : Int) + 12) = false := by simp; omega
   have HE := Lib.hid hb
   clear hb hlt hk
   go_wp2_with fail
   go_ret
   exact ⟨rfl, HE.out⟩
end Go.Proofs.YtjngghihciimjaaGreat
