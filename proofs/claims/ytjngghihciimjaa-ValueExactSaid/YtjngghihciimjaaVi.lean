/-
  A key of the map of sums is a name's cells, and nothing else.
-/
import Derived.Test.YtjngghihciimjaaVz
import Derived.Maps.Range
namespace Go.Proofs.Ytjngghihciimjaa
set_option maxRecDepth 100000
open Go.RowKit Go.Sort Go.Maps

theorem mapM_inv {α β : Type} {f : α → Option β} : ∀ {is : List α} {ls : List β}, is.mapM f = some ls → ∀ i, i ∈ is → ∃ y, f i = some y
  | [], _, _, i, hi => by simp at hi
  | j :: is, ls, h, i, hi => by
    rw [List.mapM_cons] at h
    simp only [bind, Option.bind_eq_some_iff, pure, Option.some.injEq] at h
    obtain ⟨y, hy, ys, hys, _⟩ := h
    rcases List.mem_cons.1 hi with rfl | hi
    · exact ⟨y, hy⟩
    · exact mapM_inv hys i hi
theorem lit8_inv {d : Nat} {cs : List Value} {l : List Lit} (h : Try.prog.keyLits (d + 1) 5 cs = some l) : ∃ b : UInt8, cs = [.int .u8 b.toNat] := by
  unfold Program.keyLits at h
  rw [Try.underlying5] at h
  split at h
  all_goals first
    | (rename_i q q' n hq
       split at h
       · rename_i hw
         simp only [Option.some.injEq, TypeDesc.int.injEq] at hq
         obtain ⟨rfl, hw⟩ := hw
         subst hq
         have h2 : (decide ((0 : Int) ≤ n) && decide (n ≤ 255)) = true := hw
         rw [Bool.and_eq_true_iff, decide_eq_true_iff, decide_eq_true_iff] at h2
         refine ⟨UInt8.ofNat n.toNat, ?_⟩
         have : ((UInt8.ofNat n.toNat).toNat : Int) = n := by simp; omega
         rw [this]
       · cases h)
    | (simp_all; done)
theorem litT_inv {d : Nat} {cs : List Value} {l : List Lit} (h : Try.prog.keyLits (d + 1) 9 cs = some l) : ∃ t : List UInt8, t.length ≤ maxLen ∧ cs = [.string (txt t)] := by
  unfold Program.keyLits at h
  rw [Try.underlying9] at h
  split at h
  all_goals first
    | (rename_i q sx hq
       split at h
       · rename_i hw
         refine ⟨sx.data.toList, ?_, ?_⟩
         · rw [Array.length_toList]; exact hw
         · show _ = [Value.string ⟨sx.data.toList.toArray⟩]
           rw [Array.toArray_toList]
       · cases h)
    | (simp_all; done)
theorem litsH_inv {d : Nat} {cs : List Value} {l : List Lit} (h : Try.prog.keyLits (d + 2) 26 cs = some l) : ∃ p : List UInt8, p.length = 32 ∧ cs = (B8 p).toList := by
  unfold Program.keyLits at h
  simp only [Try.underlying26, cells26, cells5] at h
  split at h
  · rename_i hl
    rw [Option.map_eq_some_iff] at h
    obtain ⟨ls, hm, _⟩ := h
    have hall : ∀ i, i < 32 → ∃ b : UInt8, cs[i]? = some (.int .u8 b.toNat) := fun i hi => by
      obtain ⟨y, hy⟩ := mapM_inv hm i (List.mem_range.2 hi)
      obtain ⟨b, hb⟩ := lit8_inv hy
      refine ⟨b, ?_⟩
      rw [Nat.mul_one, List.drop_eq_getElem_cons (by omega), List.take_succ_cons, List.take_zero] at hb
      rw [List.getElem?_eq_getElem (by omega)]
      simpa using hb
    let g : Nat → UInt8 := fun i => if hi : i < 32 then Classical.choose (hall i hi) else 0
    have hg : ∀ i, i < 32 → cs[i]? = some (.int .u8 (g i).toNat) := fun i hi => by
      show cs[i]? = some (.int .u8 (if hi : i < 32 then Classical.choose (hall i hi) else 0 : UInt8).toNat)
      rw [dif_pos hi]
      exact Classical.choose_spec (hall i hi)
    refine ⟨(List.range 32).map g, by simp, List.ext_getElem? fun i => ?_⟩
    by_cases hi : i < 32
    · rw [hg i hi, Array.getElem?_toList, B8_get _ i (by simpa using hi)]
      simp [hi]
    · rw [List.getElem?_eq_none (by omega), List.getElem?_eq_none (by rw [Array.length_toList, B8_size]; simp; omega)]
  · cases h
theorem lits_inv {d : Nat} {cs : Array Value} {l : List Lit} (h : Try.prog.keyLits (d + 3) 68 cs.toList = some l) : ∃ n : Nm, n.1.length = 32 ∧ n.2.length ≤ maxLen ∧ cs = nmC n := by
  unfold Program.keyLits at h
  simp only [Try.underlying68, cells68] at h
  split at h
  · rename_i hl
    rw [Option.map_eq_some_iff] at h
    obtain ⟨ls, hm, _⟩ := h
    obtain ⟨y0, h0⟩ := mapM_inv hm _ (by simp; exact .inl rfl)
    obtain ⟨y1, h1⟩ := mapM_inv hm _ (by simp; exact .inr rfl)
    simp only [cells26, cells9, List.drop_zero] at h0 h1
    obtain ⟨p, hp, e0⟩ := litsH_inv h0
    obtain ⟨t, ht, e1⟩ := litT_inv h1
    refine ⟨(p, t), hp, ht, ?_⟩
    apply Array.ext'
    have hd : cs.toList.drop 32 = [Value.string (txt t)] := by
      rw [← e1, List.take_of_length_le (by rw [List.length_drop]; omega)]
    rw [← List.take_append_drop 32 cs.toList, e0, hd]
    simp [nmC]
  · cases h
theorem key_inv {v : Value} {kl : Lit} (h : keyOf Try.prog 68 v = some kl) : ∃ n : Nm, n.1.length = 32 ∧ n.2.length ≤ maxLen ∧ v = .agg (nmC n) ∧ kl = kN n := by
  obtain ⟨d, hd⟩ : ∃ d, Try.prog.types.size + 1 = d + 3 := ⟨Try.prog.types.size - 2, by have : 2 ≤ Try.prog.types.size := of_decide_eq_true (by kernel_rfl); omega⟩
  have h' := h
  unfold keyOf at h
  rw [Try.underlying68] at h
  simp only at h
  split at h
  · rename_i hf
    rw [Option.map_eq_some_iff] at h
    obtain ⟨ls, hl, _⟩ := h
    rw [hd] at hl
    have hform := (Bool.and_eq_true_iff.1 hf).2
    cases v with
    | agg cs =>
      obtain ⟨n, hn, ht, rfl⟩ := lits_inv hl
      refine ⟨n, hn, ht, rfl, ?_⟩
      rw [key_nm n hn ht] at h'
      exact (Option.some.inj h').symm
    | _ => simp [Value.formed, Try.underlying68] at hform
  · cases h
/-- What each entry of the map is: a name's cells, what the map holds of it. -/
theorem entry_is {w : World} {b n : Nat} {D : DataW Unit} {f : Nm → BitVec 128} {es : Array MapEntry} {clock : Nat} (hb : w.heap[b]? = some (.map es clock)) (hown : w.ownsMap Try.prog 68 rdW b n D) (hf : HoldsF D f) {x : MapEntry} (hx : x ∈ es.toList) :
    ∃ m : Nm, m.1.length = 32 ∧ m.2.length ≤ maxLen ∧ x.key = .agg (nmC m) ∧ x.val = wv (f m) := by
  obtain ⟨es', clock', hb', F, _, rfl⟩ := hown
  rw [hb] at hb'
  simp only [Option.some.injEq, Obj.map.injEq] at hb'
  obtain ⟨rfl, rfl⟩ := hb'
  obtain ⟨y, hy⟩ := F.reads x hx
  have hk := Go.WideElems.rd_key hy
  obtain ⟨m, hm, hmt, hxk, hkl⟩ := key_inv hk
  refine ⟨m, hm, hmt, hxk, ?_⟩
  rcases Maps.fit_look false keyedName under70 (zeroW w) hb F hk with ⟨_, hno, _⟩ | ⟨e0, z, he0, hek, _, hR, hat, _⟩
  · exact absurd rfl (hno x hx)
  · have hn : es.toList.Pairwise (fun x y => x.key ≠ y.key) := ((Go.MapKept.stamped_iff es clock).1 F.stamped).2.2
    have e1 : e0 = x := Go.entry_eq_of_key hn he0 hx hek
    subst e1
    have h1 := hat (dW 0)
    rw [hkl, hf m hm hmt] at h1
    obtain ⟨z1, z2⟩ := z
    simp only at h1
    subst h1
    exact rdW_inv hR
/-- What the map holds other than 0 has an entry. -/
theorem entry_of {w : World} {b n : Nat} {D : DataW Unit} {f : Nm → BitVec 128} {es : Array MapEntry} {clock : Nat} (hb : w.heap[b]? = some (.map es clock)) (hown : w.ownsMap Try.prog 68 rdW b n D) (hf : HoldsF D f) {m : Nm} (hm : m.1.length = 32) (hmt : m.2.length ≤ maxLen) (hne : f m ≠ 0) :
    ∃ x, x ∈ es.toList ∧ x.key = .agg (nmC m) := by
  obtain ⟨es', clock', hb', F, _, rfl⟩ := hown
  rw [hb] at hb'
  simp only [Option.some.injEq, Obj.map.injEq] at hb'
  obtain ⟨rfl, rfl⟩ := hb'
  rcases Maps.fit_look false keyedName under70 (zeroW w) hb F (key_nm m hm hmt) with ⟨_, _, hat⟩ | ⟨e0, z, he0, hek, _⟩
  · have h1 := hat (dW 0)
    rw [hf m hm hmt] at h1
    exact absurd (dW_inj h1) hne
  · exact ⟨e0, he0, hek⟩
/-- A name that may stand in the map. -/
abbrev OkNm := {n : Nm // n.1.length = 32 ∧ n.2.length ≤ maxLen}
def mkK (n : OkNm) : Value := .agg (nmC n.1)
theorem invK (key : Value) (kl : Lit) (h : keyOf Try.prog 68 key = some kl) : ∃ n : OkNm, key = mkK n := by
  obtain ⟨n, hn, ht, e, _⟩ := key_inv h
  exact ⟨⟨n, hn, ht⟩, e⟩
theorem invV (v : Value) (y : DataW Unit × List MemPlace) (h : rdW v = some y) : ∃ c, v = wv c := by
  unfold rdW at h
  split at h
  · rename_i hh
    exact hh
  · cases h
/-- What comes up at a step of the range: a name, what the map holds of it. -/
theorem next_is {D : DataW Unit} {f : Nm → BitVec 128} (hf : HoldsF D f) {n : OkNm} {c : BitVec 128} {kl : Lit} {y : DataW Unit × List MemPlace} (hk : keyOf Try.prog 68 (mkK n) = some kl) (hy : rdW (wv c) = some y) (hat : ∀ zd, D.atKey kl zd = y.1) : kl = kN n.1 ∧ c = f n.1 := by
  have h1 := key_nm n.1 n.2.1 n.2.2
  unfold mkK at hk
  rw [h1] at hk
  obtain rfl := Option.some.inj hk
  have h2 := hat (dW 0)
  rw [hf n.1 n.2.1 n.2.2] at h2
  rw [rdW_wv] at hy
  obtain rfl := Option.some.inj hy
  exact ⟨rfl, (dW_inj h2).symm⟩
end Go.Proofs.Ytjngghihciimjaa
