/-
  What the law of sums rests on: the same contributions; what stays where totals are written over.
-/
import Derived.Test.YtjngghihciimjaaGreatJAt
import Derived.Test.YtjngghihciimjaaGreatJVdx
import Derived.Test.YtjngghihciimjaaGreatJVmc
import Derived.Test.YtjngghihciimjaaGreatJPd
import Derived.Test.YtjngghihciimjaaGreatJLk
import Derived.Test.YtjngghihciimjaaGreatJRe
import Derived.Test.YtjngghihciimjaaGreatJRj
namespace Go.Proofs.YtjngghihciimjaaGreat
set_option maxRecDepth 100000
open Go.RowKit Go.Sort Go.Maps
def FewA (l : List As) : Prop := l.length ≤ 200 ∧ ∀ a, a ∈ l → a.nm.1.length = 32 ∧ a.nm.2.length ≤ 4000
def FewV (vs : List Va) : Prop := vs.length ≤ 1000 ∧ ∀ v, v ∈ vs → FewA v.l
theorem cts_len : ∀ vs : List Va, (∀ v, v ∈ vs → FewA v.l) → (ctsL vs).length ≤ vs.length * 200
  | [], _ => Nat.zero_le _
  | v :: vs, h => by
    have e : ctsL (v :: vs) = ctsOf v ++ ctsL vs := rfl
    have h1 := cts_len vs fun u hu => h u (by simp [hu])
    have h2 := (h v (by simp)).1
    have h3 : (ctsOf v).length = v.l.length := by simp [ctsOf]
    rw [e, List.length_append, List.length_cons, Nat.succ_mul]
    omega
theorem FewV.cts {vs : List Va} (h : FewV vs) : (ctsL vs).length ≤ 1000000 := by
 have h1 := cts_len vs h.2
 have h2 := h.1
 omega
theorem FewV.names {vs : List Va} (h : FewV vs) : ∀ p, p ∈ ctsL vs → p.1.1.length = 32 ∧ p.1.2.length ≤ 4000 := fun p hp => by
 obtain ⟨v, hv, a, ha, rfl⟩ := ctsL_mem hp
 exact (h.2 v hv).2 a ha
theorem FewV.wide {vs : List Va} (h : FewV vs) : ∀ p, p ∈ ctsL vs → p.1.1.length = 32 ∧ p.1.2.length ≤ 281474976710656 := fun p hp => ⟨(h.names p hp).1, Nat.le_trans (h.names p hp).2 (by decide)⟩
theorem FewV.app {vs us : List Va} (h : FewV vs) (k : FewV us) (hn : vs.length + us.length ≤ 1000) : FewV (vs ++ us) := ⟨by rw [List.length_append]; exact hn, fun v hv => by
 rcases List.mem_append.1 hv with hv | hv
 ·
  exact h.2 v hv
 ·
  exact k.2 v hv⟩
theorem FewV.one {v : Va} (h : FewA v.l) : FewV [v] := ⟨show 1 ≤ 1000 by decide, fun u hu => by rw [List.mem_singleton] at hu; rw [hu]; exact h⟩
theorem few_nil : FewA [] := ⟨Nat.zero_le _, fun a ha => by simp at ha⟩
theorem cntV_mem : ∀ {vs : List Va} {v : Va}, v ∈ vs → cntV v ≤ cntVs vs
  | u :: vs, v, h => by
    have e : cntVs (u :: vs) = cntV u + cntVs vs := by simp [cntVs]
    rw [e]
    rcases List.mem_cons.1 h with rfl | h
    · omega
    · have := cntV_mem h
      omega
theorem cntVs_len : ∀ vs : List Va, vs.length ≤ cntVs vs
  | [] => Nat.zero_le _
  | v :: vs => by
    have e : cntVs (v :: vs) = cntV v + cntVs vs := by simp [cntVs]
    have h := cntVs_len vs
    rw [e, List.length_cons]
    unfold cntV
    omega
theorem few_cnt {l : List As} (ho : ∀ a, a ∈ l → AsOk a) (h : cntA l ≤ 200) : FewA l := ⟨Nat.le_trans (cntA_len l) h, fun a ha => ⟨(ho a ha).1, by
 have h1 := cntA_mem ha
 omega⟩⟩
theorem few_of {w : World} {pa : Option Addr} {vs : List Va} (h : RowV w pa vs) (hc : cntVs vs ≤ 200) : vs.length ≤ 200 ∧ FewV vs := by
 have h1 := cntVs_len vs
 refine ⟨by omega, by omega, fun v hv => few_cnt (h.ok v hv).2.2.2.1 ?_⟩
 have h2 := cntV_mem hv
 unfold cntV at h2
 omega
theorem bal_few (w : World) (pi : Option Addr) (vs : List Va) (ci : Nat) (pm : Option Addr) (ml : List As) (cm : Nat) (po : Option Addr) (us : List Va) (co : Nat) (fee : Int)
  (hv : RowV w pi vs) (hm : Row w pm ml) (hu : RowV w po us) (f0 : -9223372036854775808 ≤ fee) (f1 : fee < 9223372036854775808) (hci : pi = none → ci = 0) (hco : po = none → co = 0)
  (n1 : FewV (vs ++ [⟨0, pm, ml, cm⟩])) (n2 : FewV (us ++ [⟨fee, none, [], 0⟩])) :
  Calls Tryz.prog 29 #[.slice pi vs.length ci, .slice pm ml.length cm, .slice po us.length co, .int .i64 fee] w fun e w' => BalRes (vs ++ [⟨0, pm, ml, cm⟩]) (us ++ [⟨fee, none, [], 0⟩]) e ∧ Below w.heap.size w w' := by
 have h1 := n1.1
 have h2 := n2.1
 rw [List.length_append] at h1 h2
 have h3 : [(⟨0, pm, ml, cm⟩ : Va)].length = 1 := rfl
 have h4 : [(⟨fee, none, [], 0⟩ : Va)].length = 1 := rfl
 exact balance_any w pi vs ci pm ml cm po us co fee hv hm hu f0 f1 hci hco (by omega) (by omega) n1.cts n2.cts n1.wide n2.wide
end Go.Proofs.YtjngghihciimjaaGreat
namespace Go.Proofs.YtjngghihciimjaaGreat
set_option maxRecDepth 100000
open Go.RowKit Go.Sort Go.Maps
theorem few_same {vs us : List Va} (h : us.map (fun u => (u.coin, u.l)) = vs.map fun v => (v.coin, v.l)) (hf : FewV vs) : FewV us := by
 refine ⟨by have := congrArg List.length h; simp only [List.length_map] at this; have := hf.1; omega, fun u hu => ?_⟩
 have hm : (u.coin, u.l) ∈ vs.map fun v => (v.coin, v.l) := by rw [← h]; exact List.mem_map.2 ⟨u, hu, rfl⟩
 obtain ⟨v, hv, e⟩ := List.mem_map.1 hm
 have e2 : v.l = u.l := congrArg Prod.snd e
 rw [← e2]
 exact hf.2 v hv
theorem addZ_same {vs us : List Va} (h : us.map (fun u => (u.coin, u.l)) = vs.map fun v => (v.coin, v.l)) (x : Int) (l : List As) : AddZ us x l ↔ AddZ vs x l := by
 obtain ⟨h1, h2, h3⟩ := same_sums h
 unfold AddZ
 rw [h1, h2, h3]
theorem addM_few {vs : List Va} {ok : Bool} {x : Int} {l : List As} (h : AddM vs ok x l) : l.length ≤ 30 := by
 rcases h with ⟨_, _, _, _, tl, _, h1, _, rfl⟩ | ⟨_, _, rfl, _⟩
 ·
  unfold asT; rw [List.length_map]; exact h1
 ·
  exact Nat.zero_le _
theorem bal_some (vs us : List Va) : ∃ b, BalOk vs us b := ⟨@decide (coinS vs = coinS us ∧ ∀ n, sumAt (ctsL vs) n = sumAt (ctsL us) n) (Classical.propDecidable _), by
 unfold BalOk
 exact @decide_eq_true_iff _ (Classical.propDecidable _)⟩
theorem bal_is {vs us vs' us' : List Va} {b : Bool} {e : Ending} (h : BalOk vs us b) (k : BalRes vs' us' e) (h1 : vs'.map (fun u => (u.coin, u.l)) = vs.map fun v => (v.coin, v.l)) (h2 : us'.map (fun u => (u.coin, u.l)) = us.map fun v => (v.coin, v.l)) : e = .returned (.bool b) := by
 obtain ⟨ok, rfl, k⟩ := k
 unfold BalOk at h k
 rw [(same_sums h1).1, (same_sums h1).2.1, (same_sums h2).1, (same_sums h2).2.1] at k
 have : ok = b := Bool.eq_iff_iff.2 (k.trans h.symm)
 rw [this]
theorem rbal_few (w : World) (pi : Option Addr) (vs : List Va) (ci : Nat) (pm : Option Addr) (ml : List As) (cm : Nat) (po : Option Addr) (us : List Va) (co : Nat) (fee : Int)
  (hv : RowV w pi vs) (hm : Row w pm ml) (hu : RowV w po us) (f0 : -9223372036854775808 ≤ fee) (f1 : fee < 9223372036854775808) (hci : pi = none → ci = 0) (hco : po = none → co = 0)
  (n1 : FewV (vs ++ [⟨0, pm, ml, cm⟩])) (n2 : FewV (us ++ [⟨fee, none, [], 0⟩])) :
  Calls Tryz.prog 30 #[.slice pi vs.length ci, .slice pm ml.length cm, .slice po us.length co, .int .i64 fee] w fun e w' => BalRes (vs ++ [⟨0, pm, ml, cm⟩]) (us ++ [⟨fee, none, [], 0⟩]) e ∧ Below w.heap.size w w' := by
 have h1 := n1.1
 have h2 := n2.1
 rw [List.length_append] at h1 h2
 have h3 : [(⟨0, pm, ml, cm⟩ : Va)].length = 1 := rfl
 have h4 : [(⟨fee, none, [], 0⟩ : Va)].length = 1 := rfl
 exact rbalance_any w pi vs ci pm ml cm po us co fee hv hm hu f0 f1 hci hco (by omega) (by omega) n1.cts n2.cts (fun p hp => ⟨(n1.names p hp).1, Nat.le_trans (n1.names p hp).2 (by decide)⟩) (fun p hp => ⟨(n2.names p hp).1, Nat.le_trans (n2.names p hp).2 (by decide)⟩)
theorem rest_keep {w u : World} {B : Nat} {ts : List Tr} (h : RowsT w B ts) (hr : ∀ g, g < w.heap.size → (∀ k, k < ts.length → paT ts k ≠ none → g ≠ blkT ts k) → u.heap[g]? = w.heap[g]?) {g : Nat} {cs : Array Value} {t : TypeId} (hl : Lies w g cs t) (hne : t ≠ 75) : Lies u g cs t := by
 refine (hr g hl.lt fun k hk ha => ?_).trans hl
 rcases h.at hk with h1 | ⟨_, _, _, _, h5⟩
 ·
  exact absurd h1.1 ha
 ·
  exact blk_apart (s1 := cs.size) (c1 := 1) (show Blk t cs.size w g 1 from ⟨cs, hl, (Nat.one_mul _).symm⟩) h5 hne
theorem Mine.rest {B : Nat} {w u : World} {pa : Option Addr} {l : List As} {c : Nat} (h : Mine B w pa l c) (hr : ∀ g cs, Lies w g cs 38 → Lies u g cs 38) : Mine B u pa l c := by
 have ho : OwnAs u B (.slice pa l.length c) l := by
  refine ⟨h.2.1, ?_⟩
  rcases h.2.2 with h1 | ⟨g, cap, cur, h1, h2, h3, h4⟩
  ·
   exact .inl h1
  ·
   exact .inr ⟨g, cap, cur, h1, h2, hr g cur h3, h4⟩
 refine ⟨?_, ho⟩
 obtain ⟨p, d, e, hrow⟩ := ho.row h.1.2.1 h.1.1
 simp only [Value.slice.injEq, true_and] at e
 rw [e.1]
 exact hrow
end Go.Proofs.YtjngghihciimjaaGreat
