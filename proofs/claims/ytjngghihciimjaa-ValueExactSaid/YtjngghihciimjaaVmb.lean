/-
  What the sums of bundles are: plain mathematics of the stage's theorem.
-/
import Derived.Test.YtjngghihciimjaaVba
namespace Go.Proofs.Ytjngghihciimjaa
set_option maxRecDepth 100000
open Go.RowKit Go.Sort Go.Maps

theorem wide_toNat (x : BitVec 128) : wide (x.toNat : Int) = x := by
  unfold wide
  rw [BitVec.ofInt_natCast, BitVec.ofNat_toNat]
  simp
theorem wide_neg (n : Int) : wide (-n) = - wide n := by
  unfold wide
  exact BitVec.ofInt_neg
theorem wide_small {n : Int} (h0 : 0 ≤ n) (h1 : n < 9223372036854775808) : ((wide n).toNat : Int) = n := by
  rw [wide_nat]
  omega
theorem ctsOf_asT (coin : Int) (pa : Option Addr) (c : Nat) (tl : List To) : ctsOf ⟨coin, pa, asT tl, c⟩ = ctT tl := by
  unfold ctsOf asT ctT
  rw [List.map_map]
  apply List.map_congr_left
  intro t _
  simp [wide_toNat]
/-- A told bundle's own sums are those that it is told of. -/
theorem TogOk.sums {x : BitVec 128} {f : Nm → BitVec 128} {coin : Int} {l : List As} (h : TogOk x f coin l) (pa : Option Addr) (c : Nat) : wide coin = x ∧ ∀ n, sumAt (ctsOf ⟨coin, pa, l, c⟩) n = f n := by
  obtain ⟨h1, rfl, tl, h2, h3, h4, rfl⟩ := h
  exact ⟨wide_toNat x, fun n => by rw [ctsOf_asT]; exact h2.sum n⟩
theorem TogOk.right {x : BitVec 128} {f : Nm → BitVec 128} {coin : Int} {l : List As} (h : TogOk x f coin l) (hn : ∀ n, f n ≠ 0 → n.2.length ≤ 32) : rightB coin l = true := by
  obtain ⟨h1, rfl, tl, h2, h3, h4, rfl⟩ := h
  refine (right_iff _ _).2 ⟨by omega, by unfold asT; rw [List.length_map]; exact h3, fun a ha => ?_, ?_⟩
  · obtain ⟨t, ht, rfl⟩ := List.mem_map.1 ha
    have h5 := h2.says (t.nm, t.w) (List.mem_map.2 ⟨t, ht, rfl⟩)
    refine ⟨hn t.nm (by rw [← h5.1]; exact h5.2), ?_⟩
    show (1 : Int) ≤ (t.w.toNat : Int)
    have : t.w.toNat ≠ 0 := fun e => h5.2 (BitVec.eq_of_toNat_eq (by simpa using e))
    omega
  · have h5 := h2.rise
    unfold ctT at h5
    rw [List.pairwise_map] at h5
    unfold asT
    rw [List.pairwise_map]
    exact h5
/-- A right bundle is told of its own sums. -/
theorem TogOk.self {v : Va} (hr : rightV v = true) (ho : v.coin < 9223372036854775808 ∧ ∀ a, a ∈ v.l → a.amt < 9223372036854775808) : TogOk (wide v.coin) (sumAt (ctsOf v)) v.coin v.l := by
  obtain ⟨h0, h1, h2, h3⟩ := (right_iff _ _).1 hr
  have hct : ctT (v.l.map fun a => (⟨a.nm, wide a.amt⟩ : To)) = ctsOf v := by
    unfold ctT ctsOf
    rw [List.map_map]
    rfl
  have hrise : (ctsOf v).Pairwise fun p q => cN p.1 q.1 < 0 := by
    unfold ctsOf
    rw [List.pairwise_map]
    exact h3
  refine ⟨wide_fits _ h0 ho.1, (wide_small h0 ho.1).symm, v.l.map fun a => ⟨a.nm, wide a.amt⟩, ?_, by rw [List.length_map]; exact h1, fun t ht => ?_, ?_⟩
  · rw [hct]
    refine ⟨hrise, fun p hp => ⟨(sum_rise hrise p hp).symm, ?_⟩, fun n hn => ?_⟩
    · obtain ⟨a, ha, rfl⟩ := List.mem_map.1 hp
      intro e
      have h4 := wide_small (by have := (h2 a ha).2; omega) (ho.2 a ha)
      have h5 : wide a.amt = 0 := e
      rw [h5] at h4
      have := (h2 a ha).2
      simp at h4
      omega
    · obtain ⟨p, hp, e⟩ := sumAt_mem hn
      have := sum_rise hrise p hp
      rw [← e, this]
      exact hp
  · obtain ⟨a, ha, rfl⟩ := List.mem_map.1 ht
    exact wide_fits _ (by have := (h2 a ha).2; omega) (ho.2 a ha)
  · unfold asT
    rw [List.map_map]
    symm
    have : v.l.map ((fun t : To => (⟨t.nm, (t.w.toNat : Int)⟩ : As)) ∘ fun a => ⟨a.nm, wide a.amt⟩) = v.l.map id := List.map_congr_left fun a ha => by
      show (⟨a.nm, ((wide a.amt).toNat : Int)⟩ : As) = a
      rw [wide_small (by have := (h2 a ha).2; omega) (ho.2 a ha)]
    rw [this, List.map_id]
/-- What is no more than what can be told can be told. -/
theorem TogOk.less {x y : BitVec 128} {f g : Nm → BitVec 128} {coin : Int} {l : List As} (h : TogOk x f coin l) (hy : y.toNat ≤ x.toNat) (hg : ∀ n, (g n).toNat ≤ (f n).toNat) : ∃ c m, TogOk y g c m := by
  obtain ⟨h1, rfl, tl, h2, h3, h4, rfl⟩ := h
  have hz : ∀ n, g n ≠ 0 → f n ≠ 0 := fun n hn e => hn (BitVec.eq_of_toNat_eq (by have := hg n; rw [e] at this; simpa using this))
  have hx := fits_nat h1
  let tm := (tl.map fun t => (⟨t.nm, g t.nm⟩ : To)).filter fun t => decide (t.w ≠ 0)
  have hmem : ∀ t, t ∈ tm → ∃ u, u ∈ tl ∧ t = ⟨u.nm, g u.nm⟩ ∧ t.w ≠ 0 := fun t ht => by
    obtain ⟨h5, h6⟩ := List.mem_filter.1 ht
    obtain ⟨u, hu, rfl⟩ := List.mem_map.1 h5
    exact ⟨u, hu, rfl, of_decide_eq_true h6⟩
  refine ⟨y.toNat, asT tm, by unfold fitsW; rw [decide_eq_true_iff]; omega, rfl, tm, ⟨?_, fun p hp => ?_, fun n hn => ?_⟩, ?_, fun t ht => ?_, rfl⟩
  · unfold ctT
    rw [List.pairwise_map]
    refine List.Pairwise.filter _ ?_
    rw [List.pairwise_map]
    have h5 := h2.rise
    unfold ctT at h5
    rw [List.pairwise_map] at h5
    exact h5
  · obtain ⟨t, ht, rfl⟩ := List.mem_map.1 hp
    obtain ⟨u, hu, rfl, h5⟩ := hmem t ht
    exact ⟨rfl, h5⟩
  · obtain ⟨u, hu, e⟩ := List.mem_map.1 (h2.all n (hz n hn))
    have e1 : u.nm = n := congrArg Prod.fst e
    refine List.mem_map.2 ⟨⟨n, g n⟩, List.mem_filter.2 ⟨List.mem_map.2 ⟨u, hu, by rw [e1]⟩, ?_⟩, rfl⟩
    exact decide_eq_true hn
  · exact Nat.le_trans (List.length_filter_le _ _) (by rw [List.length_map]; exact h3)
  · obtain ⟨u, hu, rfl, h5⟩ := hmem t ht
    have h6 := fits_nat (h4 u hu)
    have h7 := hg u.nm
    have h8 := h2.says (u.nm, u.w) (List.mem_map.2 ⟨u, hu, rfl⟩)
    rw [← h8.1] at h7
    unfold fitsW
    rw [decide_eq_true_iff]
    show (g u.nm).toNat < 9223372036854775808
    have h9 : (g u.nm).toNat ≤ u.w.toNat := h7
    omega
end Go.Proofs.Ytjngghihciimjaa
