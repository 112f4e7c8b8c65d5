/-
  TermOrder's walk (4).
-/
import Derived.Test.YtieoiklgoeclaaaGreatTcn2
import Derived.Test.YtieoiklgoeclaaaGreatTjp
import Derived.Deep.Cut
namespace Go.Proofs.YtieoiklgoeclaaaGreat
open Go.RowKit

/-- A term that came in. -/
structure TIn (w : World) (t : TK) : Prop where
  raw : TRaw w t.a t.xs
  txt : TxtRaw t.xs
  len : t.xs.length ≤ 140737488355328
  room : t.xs.length ≤ t.c
  none0 : t.a = none → t.c = 0
  words : Words t.xs
  kids : ∀ x ∈ t.xs, x.kids ≤ 9223372036854775807
theorem TIn.below {w w' : World} {t : TK} (h : TIn w t) (hb : Below w.heap.size w w') : TIn w' t := ⟨h.raw.below hb (Nat.le_refl _), h.txt, h.len, h.room, h.none0, h.words, h.kids⟩
theorem TIn.tat {w : World} {t : TK} (h : TIn w t) (hc : cost t.xs ≤ 300) : TAt w t.a t.xs := ⟨h.raw, by have := cost_len t.xs; omega, h.kids⟩
theorem TIn.txtIn {w : World} {t : TK} (h : TIn w t) : TxtIn t.xs := fun x hx => Nat.le_trans (h.txt x hx) (by omega)
theorem row_raw (w : World) (l : List TK) (h : ∀ t ∈ l, TIn w t) : RsAt (w.alloc (.cells (l.map TK.v).toArray 27)) (some ⟨w.heap.size, 0, none⟩) l :=
  ⟨fun _ => ⟨w.heap.size, 0, rfl, by simp, fun j hj => by
    rw [Nat.zero_add]
    exact (Lies.new w _ 27).cell j (by simp [hj])⟩, fun t ht => ⟨(h t ht).raw.below ((Below.refl _ w).alloc (Nat.le_refl _) _) (Nat.le_refl _), (h t ht).txt, (h t ht).len⟩⟩
theorem ts_of {w : World} {g : Nat} {l : List TK} (hl : Lies w g (l.map TK.v).toArray 27) (h : ∀ t ∈ l, TAt w t.a t.xs ∧ t.xs.length ≤ t.c ∧ TxtIn t.xs) : TsAt w (some ⟨g, 0, none⟩) l :=
  ⟨fun _ => ⟨g, 0, rfl, hl.lt, fun j hj => by
    rw [Nat.zero_add]
    exact hl.cell j (by simp [hj])⟩, h⟩
theorem own_term {w : World} {v : Value} {n : Nd} {ls : List (List Nd)} (h : OwnT w 0 v (joinL n ls)) (hl : 1 + ls.flatten.length ≤ 1000000) (hm : ls.length ≤ 1000000) (hk : ∀ xs ∈ ls, ∀ x ∈ xs, x.kids ≤ 9223372036854775807) :
    ∃ a c, v = .slice a (joinL n ls).length c ∧ TAt w a (joinL n ls) := by
  obtain ⟨a, m, c, rfl⟩ := h.isSlice
  have hll : (joinL n ls).length ≤ 1000000 := by simp only [joinL, List.length_cons]; omega
  have hkk : ∀ x ∈ joinL n ls, x.kids ≤ 9223372036854775807 := by
    intro x hx
    simp only [joinL, List.mem_cons, List.mem_flatten] at hx
    rcases hx with rfl | ⟨xs, h1, h2⟩
    · simp only; omega
    · exact hk xs h1 x h2
  obtain ⟨h1, h2, -⟩ := h.tat hll hkk
  exact ⟨a, c, by rw [h2], h1⟩
/-- The call's own boxes. -/
def Box4 (V : World) (p : Nat) (a b c : TK) (n : Nd) : Prop :=
  Lies V p #[a.v] 27 ∧ Lies V (p + 1) #[b.v] 27 ∧ Lies V (p + 2) #[c.v] 27 ∧ Lies V (p + 3) n.cells 36
theorem Box4.below {V V' : World} {p : Nat} {a b c : TK} {n : Nd} (h : Box4 V p a b c n) (hb : Below V.heap.size V V') : Box4 V' p a b c n :=
  ⟨h.1.below hb h.1.lt, h.2.1.below hb h.2.1.lt, h.2.2.1.below hb h.2.2.1.lt, h.2.2.2.below hb h.2.2.2.lt⟩
theorem box4_new (w : World) (a b c : TK) (n : Nd) : Box4 ((((w.alloc (.cells #[a.v] 27)).alloc (.cells #[b.v] 27)).alloc (.cells #[c.v] 27)).alloc (.cells n.cells 36)) w.heap.size a b c n ∧ Below w.heap.size w ((((w.alloc (.cells #[a.v] 27)).alloc (.cells #[b.v] 27)).alloc (.cells #[c.v] 27)).alloc (.cells n.cells 36)) := by
  refine ⟨⟨(((Lies.new w _ 27).alloc _).alloc _).alloc _, ?_, ?_, ?_⟩, ((((Below.refl _ _).alloc (Nat.le_refl _) _).alloc (by simp) _).alloc (by simp; omega) _).alloc (by simp; omega) _⟩
  · have := ((Lies.new (w.alloc (.cells #[a.v] 27)) #[b.v] 27).alloc (.cells #[c.v] 27)).alloc (.cells n.cells 36)
    simpa using this
  · have := (Lies.new ((w.alloc (.cells #[a.v] 27)).alloc (.cells #[b.v] 27)) #[c.v] 27).alloc (.cells n.cells 36)
    simpa using this
  · have := Lies.new (((w.alloc (.cells #[a.v] 27)).alloc (.cells #[b.v] 27)).alloc (.cells #[c.v] 27)) n.cells 36
    simpa using this
end Go.Proofs.YtieoiklgoeclaaaGreat
