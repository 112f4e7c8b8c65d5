/-
  What ValueExact rests on: plain mathematics.
-/
import Derived.Test.YtjngghihciimjaaVmc
import Derived.Test.YtjngghihciimjaaVmg
import Derived.Test.YtjngghihciimjaaVcp
import Derived.Test.YtjngghihciimjaaVgx
namespace Go.Proofs.Ytjngghihciimjaa
set_option maxRecDepth 100000
open Go.RowKit Go.Sort Go.Maps

theorem ctsL_app (vs us : List Va) : ctsL (vs ++ us) = ctsL vs ++ ctsL us := by simp [ctsL]
theorem z_add (x : BitVec 128) : (0 : BitVec 128) + x = x := BitVec.zero_add x
theorem add_z (x : BitVec 128) : x + (0 : BitVec 128) = x := BitVec.add_zero x
theorem sumL_foldl (l : List (BitVec 128)) (x : BitVec 128) : l.foldl (· + ·) x = x + l.foldl (· + ·) 0 := by
  induction l generalizing x with
  | nil => simp
  | cons y l ih =>
    simp only [List.foldl_cons]
    rw [ih (x + y), ih (0 + y), z_add, BitVec.add_assoc]
theorem sumL_cons (x : BitVec 128) (l : List (BitVec 128)) : sumL (x :: l) = x + sumL l := by
  show (x :: l).foldl (· + ·) 0 = _
  rw [List.foldl_cons, z_add, sumL_foldl]
  rfl
theorem sumL_app (l m : List (BitVec 128)) : sumL (l ++ m) = sumL l + sumL m := by
  induction l with
  | nil =>
    show sumL m = 0 + sumL m
    rw [z_add]
  | cons x l ih => rw [List.cons_append, sumL_cons, sumL_cons, ih, BitVec.add_assoc]
theorem coinS_cons (v : Va) (vs : List Va) : coinS (v :: vs) = Cw v + coinS vs := sumL_cons _ _
theorem coinS_app (vs us : List Va) : coinS (vs ++ us) = coinS vs + coinS us := by
  unfold coinS
  rw [List.map_append, sumL_app]
theorem coinS_perm {vs us : List Va} (h : vs.Perm us) : coinS vs = coinS us := by
  induction h with
  | nil => rfl
  | cons v _ ih => rw [coinS_cons, coinS_cons, ih]
  | swap v u l => rw [coinS_cons, coinS_cons, coinS_cons, coinS_cons, ← BitVec.add_assoc, ← BitVec.add_assoc, BitVec.add_comm (Cw u)]
  | trans _ _ h1 h2 => exact h1.trans h2
theorem ctsL_perm {vs us : List Va} (h : vs.Perm us) (n : Nm) : sumAt (ctsL vs) n = sumAt (ctsL us) n := sumAt_perm (h.flatMap_right _) n
/-- Copies have the same sums. -/
theorem same_sums {vs us : List Va} (h : us.map (fun u => (u.coin, u.l)) = vs.map fun v => (v.coin, v.l)) : coinS us = coinS vs ∧ ctsL us = ctsL vs := by
  have e1 : ∀ l : List Va, coinS l = sumL ((l.map fun u => (u.coin, u.l)).map fun p => wide p.1) := fun l => by
    unfold coinS
    rw [List.map_map]
    rfl
  have e2 : ∀ l : List Va, ctsL l = (l.map fun u => (u.coin, u.l)).flatMap fun p => p.2.map fun a => (a.nm, wide a.amt) := fun l => by
    unfold ctsL
    rw [List.flatMap_map]
    rfl
  exact ⟨by rw [e1, e1, h], by rw [e2, e2, h]⟩
/-- Rows of totals, each that of a bundle, have the bundles' sums. -/
theorem rows_sums : ∀ {rs : List Tr} {vs : List Va}, rs.length = vs.length → (∀ (i : Nat) (r : Tr) (v : Va), rs[i]? = some r → vs[i]? = some v → IsTot (Fw v) (ctT r.l)) → ∀ n, sumAt (ctM rs) n = sumAt (ctsL vs) n
  | [], [], _, _, _ => rfl
  | [], _ :: _, h, _, _ => by simp at h
  | _ :: _, [], h, _, _ => by simp at h
  | r :: rs, v :: vs, h, hh, n => by
    have ih := rows_sums (rs := rs) (vs := vs) (by simpa using h) (fun i r' v' h1 h2 => hh (i + 1) r' v' (by simpa using h1) (by simpa using h2)) n
    have h0 := hh 0 r v rfl rfl
    have e1 : ctM (r :: rs) = ctT r.l ++ ctM rs := rfl
    have e2 : ctsL (v :: vs) = ctsOf v ++ ctsL vs := rfl
    rw [e1, e2, sumAt_append, sumAt_append, ih, h0.sum n]
    rfl
theorem one_row {l : List To} {f : Nm → BitVec 128} (h : IsTot f (ctT l)) (p : Option Addr) (c : Nat) (n : Nm) : sumAt (ctM [⟨p, l, c⟩]) n = f n := by
  have e : ctM [⟨p, l, c⟩] = ctT l := by simp [ctM]
  rw [e]
  exact h.sum n
theorem tot_eq {f g : Nm → BitVec 128} {l m : List To} (h : IsTot f (ctT l)) (k : IsTot g (ctT m)) (e : ∀ n, f n = g n) : l = m := ctT_inj ((h.congr e).eq k)
theorem tot_nz {f : Nm → BitVec 128} {l : List To} (h : IsTot f (ctT l)) {t : To} (ht : t ∈ l) : t.w ≠ 0 := (h.says (t.nm, t.w) (List.mem_map.2 ⟨t, ht, rfl⟩)).2
/-- A bundle that is told of some has their sums. -/
theorem add_sums {vs : List Va} {V : Va} (h : AddZ vs V.coin V.l) : coinS [V] = coinS vs ∧ ∀ n, sumAt (ctsL [V]) n = sumAt (ctsL vs) n := by
  obtain ⟨e1, e2⟩ := h.2.sums V.pa V.c
  have e3 : coinS [V] = Cw V := by simp [coinS, sumL, Cw]
  have e4 : ctsL [V] = ctsOf V := by simp [ctsL]
  exact ⟨e3.trans e1, fun n => by rw [e4]; exact e2 n⟩
/-- What is put in on both sides leaves a balance as it is. -/
theorem bal_more {vs us cs : List Va} {m f more more2 : Va} {a b : Bool} (h : BalOk (vs ++ [m]) (us ++ [f]) a) (k : BalOk ((more :: vs) ++ [m]) ((cs ++ [more2]) ++ [f]) b) (hc : cs.map (fun u => (u.coin, u.l)) = us.map fun v => (v.coin, v.l)) (h2 : more2.coin = more.coin ∧ more2.l = more.l) : b = a := by
  obtain ⟨c1, c2⟩ := same_sums hc
  have c3 : Cw more2 = Cw more := by unfold Cw; rw [h2.1]
  have c4 : ctsOf more2 = ctsOf more := by unfold ctsOf; rw [h2.2]
  have e : (coinS ((more :: vs) ++ [m]) = coinS ((cs ++ [more2]) ++ [f]) ∧ ∀ n, sumAt (ctsL ((more :: vs) ++ [m])) n = sumAt (ctsL ((cs ++ [more2]) ++ [f])) n) ↔ (coinS (vs ++ [m]) = coinS (us ++ [f]) ∧ ∀ n, sumAt (ctsL (vs ++ [m])) n = sumAt (ctsL (us ++ [f])) n) := by
    have d1 : coinS ((more :: vs) ++ [m]) = Cw more + coinS (vs ++ [m]) := coinS_cons _ _
    have d2 : coinS ((cs ++ [more2]) ++ [f]) = Cw more + coinS (us ++ [f]) := by
      rw [coinS_app, coinS_app, coinS_app us, c1, coinS_cons more2, c3]
      have : coinS ([] : List Va) = 0 := rfl
      rw [this, add_z, BitVec.add_comm (coinS us), BitVec.add_assoc]
    have d3 : ∀ n, sumAt (ctsL ((more :: vs) ++ [m])) n = sumAt (ctsOf more) n + sumAt (ctsL (vs ++ [m])) n := fun n => by
      have : ctsL ((more :: vs) ++ [m]) = ctsOf more ++ ctsL (vs ++ [m]) := rfl
      rw [this, sumAt_append]
    have d4 : ∀ n, sumAt (ctsL ((cs ++ [more2]) ++ [f])) n = sumAt (ctsOf more) n + sumAt (ctsL (us ++ [f])) n := fun n => by
      have : ctsL [more2] = ctsOf more := by simp [ctsL, c4]
      rw [ctsL_app, ctsL_app, ctsL_app us, c2, this, sumAt_append, sumAt_append, sumAt_append, BitVec.add_comm (sumAt (ctsL us) n), BitVec.add_assoc]
    have canc : ∀ x y z : BitVec 128, x + y = x + z ↔ y = z := fun x y z => ⟨fun h => by
      have := congrArg (fun t => -x + t) h
      simpa [← BitVec.add_assoc, BitVec.add_comm (-x)] using this, fun h => by rw [h]⟩
    rw [d1, d2]
    exact ⟨fun h => ⟨(canc _ _ _).1 h.1, fun n => by have := h.2 n; rw [d3, d4] at this; exact (canc _ _ _).1 this⟩, fun h => ⟨(canc _ _ _).2 h.1, fun n => by rw [d3, d4, h.2 n]⟩⟩
  unfold BalOk at h k
  rw [e, ← h] at k
  cases a <;> cases b <;> simp_all
end Go.Proofs.Ytjngghihciimjaa
