/-
  Two writers side by side: the program's and the document's own; each call leaves the other one as it was.
-/
import Derived.Test.YtjbjagdpemnhiaaGreatByt2
import Derived.Test.YtjbjagdpemnhiaaGreatGreat
import Derived.Test.YtjbjagdpemnhiaaGreatAwake
namespace Go.Proofs.YtjbjagdpemnhiaaGreat
open Go.RowKit

theorem Only.keep {g : Nat} {w w' : World} {o : Option Nat} {k : Nat} {cs : Array Value} {t : TypeId} (h : Only g w w' o) (hl : Lies w k cs t) (hg : k ≠ g) (ho : o ≠ some k) : Lies w' k cs t :=
  (h.block k hl.lt hg (fun e => ho e.symm)).trans hl
theorem own_only {g : Nat} {w w' : World} {o : Option Nat} {base n : Nat} {e : TypeId} {size : Nat} {u : Value} {xs : List Value} (h : w.ownsRow base e size u n xs) (ho : Only g w w' o) (h1 : u.ownBlock ≠ some g) (h2 : ∀ k, u.ownBlock = some k → o ≠ some k) :
    w'.ownsRow base e size u n xs := by
  refine ⟨h.1, ?_⟩
  rcases h.2 with hn | ⟨k, cap, cur, rfl, hb, h3, h4⟩
  · exact .inl hn
  · exact .inr ⟨k, cap, cur, rfl, hb, (ho.block k (Array.getElem?_eq_some_iff.1 h3).1 (fun e => h1 (by rw [e]; rfl)) (fun e => h2 k rfl e.symm)).trans h3, h4⟩
theorem own_block {w : World} {B n : Nat} {e : TypeId} {size : Nat} {u : Value} {xs : List Value} (h : w.ownsRow B e size u n xs) : ∀ x, u.ownBlock = some x → B ≤ x ∧ x < w.heap.size := by
  intro x hx
  rcases h.2 with ⟨rfl, _⟩ | ⟨k, cap, cur, rfl, hb, _⟩
  · cases hx
  · obtain rfl : k = x := by simpa [Value.ownBlock] using hx
    exact ⟨hb, own_lt h rfl⟩
/-- The program's writer in gw, the document's own in gx. -/
structure Two (B gw gx : Nat) (v vx : Value) (sa sb : Option (List UInt8)) (w : World) : Prop where
  a : WSt w B gw v sa
  b : RfS w B gx vx sb
  ne : gw ≠ gx
  v1 : v.ownBlock ≠ some gx
  v2 : vx.ownBlock ≠ some gw
  v3 : ∀ k, v.ownBlock = some k → vx.ownBlock ≠ some k
  v4 : ∀ x, v.ownBlock = some x → B ≤ x ∧ x < w.heap.size
  v5 : ∀ x, vx.ownBlock = some x → B ≤ x ∧ x < w.heap.size
theorem WSt.lies {w : World} {B g : Nat} {v : Value} {st : Option (List UInt8)} (h : WSt w B g v st) : g < w.heap.size := by
  cases st with
  | none => exact h.1.lt
  | some l => exact h.1.lt
theorem RfS.lies {w : World} {B g : Nat} {v : Value} {st : Option (List UInt8)} (h : RfS w B g v st) : g < w.heap.size := by
  cases st with
  | none => exact h.1.lt
  | some l => exact h.1.lt
theorem WSt.low {w : World} {B g : Nat} {v : Value} {st : Option (List UInt8)} (h : WSt w B g v st) : B ≤ g := by
  cases st with
  | none => exact h.2
  | some l => exact h.2.2.2
theorem RfS.low {w : World} {B g : Nat} {v : Value} {st : Option (List UInt8)} (h : RfS w B g v st) : B ≤ g := by
  cases st with
  | none => exact h.2.2
  | some l => exact h.2.2.2
theorem WSt.only {g' : Nat} {w w' : World} {o : Option Nat} {B g : Nat} {v : Value} {st : Option (List UInt8)} (h : WSt w B g v st) (ho : Only g' w w' o) (h1 : g ≠ g') (h2 : o ≠ some g) (h3 : v.ownBlock ≠ some g') (h4 : ∀ k, v.ownBlock = some k → o ≠ some k) : WSt w' B g v st := by
  cases st with
  | none => exact ⟨ho.keep h.1 h1 h2, h.2⟩
  | some l => exact ⟨ho.keep h.1 h1 h2, own_only h.2.1 ho h3 h4, h.2.2⟩
theorem RfS.only {g' : Nat} {w w' : World} {o : Option Nat} {B g : Nat} {v : Value} {st : Option (List UInt8)} (h : RfS w B g v st) (ho : Only g' w w' o) (h1 : g ≠ g') (h2 : o ≠ some g) (h3 : v.ownBlock ≠ some g') (h4 : ∀ k, v.ownBlock = some k → o ≠ some k) : RfS w' B g v st := by
  cases st with
  | none => exact ⟨ho.keep h.1 h1 h2, h.2⟩
  | some l => exact ⟨ho.keep h.1 h1 h2, own_only h.2.1 ho h3 h4, h.2.2⟩
theorem Two.below {B gw gx : Nat} {v vx : Value} {sa sb : Option (List UInt8)} {w w' : World} (h : Two B gw gx v vx sa sb w) (hb : Below w.heap.size w w') : Two B gw gx v vx sa sb w' :=
  ⟨h.a.below hb, h.b.below hb, h.ne, h.v1, h.v2, h.v3, fun x hx => ⟨(h.v4 x hx).1, Nat.lt_of_lt_of_le (h.v4 x hx).2 hb.size⟩, fun x hx => ⟨(h.v5 x hx).1, Nat.lt_of_lt_of_le (h.v5 x hx).2 hb.size⟩⟩
theorem grown_only {w w' : World} {o : Option Nat} (hg : w.grownBy w' o) (K : Nat) : Only K w w' o := ⟨hg.os, hg.tape, hg.output, hg.size, fun k hk _ h => hg.block k hk h⟩
/-- One block that is neither's turns. -/
theorem Two.grown {B gw gx : Nat} {v vx : Value} {sa sb : Option (List UInt8)} {w w' : World} {o : Option Nat} (h : Two B gw gx v vx sa sb w) (hg : w.grownBy w' o) (h1 : o ≠ some gw) (h2 : o ≠ some gx) (h3 : ∀ k, v.ownBlock = some k → o ≠ some k) (h4 : ∀ k, vx.ownBlock = some k → o ≠ some k) : Two B gw gx v vx sa sb w' := by
  have ho := grown_only hg w.heap.size
  have ha := h.a.lies
  have hb := h.b.lies
  exact ⟨h.a.only ho (by omega) h1 (fun e => by have := (h.v4 _ e).2; omega) h3, h.b.only ho (by omega) h2 (fun e => by have := (h.v5 _ e).2; omega) h4, h.ne, h.v1, h.v2, h.v3, fun x hx => ⟨(h.v4 x hx).1, Nat.lt_of_lt_of_le (h.v4 x hx).2 hg.size⟩, fun x hx => ⟨(h.v5 x hx).1, Nat.lt_of_lt_of_le (h.v5 x hx).2 hg.size⟩⟩
/-- What may have turned by a call of the first writer, or of the second. -/
def Turned (g : Nat) (v : Value) (B : Nat) (w w' : World) : Prop := Only g w w' v.ownBlock ∧ B ≤ g ∧ ∀ x, v.ownBlock = some x → B ≤ x ∧ x < w.heap.size
theorem Turned.below {g : Nat} {v : Value} {w0 w w' : World} (h : Turned g v w0.heap.size w w') (hb : Below w0.heap.size w0 w) : Below w0.heap.size w0 w' :=
  h.1.below hb h.2.1 (fun x hx => (h.2.2 x hx).1)
/-- The own row is the old one, or newer than the world. -/
def Newer (w : World) (v v' : Value) : Prop := ∀ x, v'.ownBlock = some x → v.ownBlock = some x ∨ w.heap.size ≤ x
theorem newer_of {w w' : World} {v v' : Value} (h : v'.ownBlock = v.ownBlock ∨ ∃ k, v'.ownBlock = some k ∧ w.heap.size ≤ k ∧ k < w'.heap.size) : Newer w v v' := by
  intro x hx
  rcases h with e | ⟨k, e, h4, _⟩
  · exact .inl (e ▸ hx)
  · rw [e] at hx
    have := Option.some.inj hx
    exact .inr (by omega)
theorem Two.put {B gw gx : Nat} {v vx : Value} {sa sa' sb : Option (List UInt8)} {w w' : World} (h : Two B gw gx v vx sa sb w) (hm : MoreO w B gw v sa' w') : ∃ v', Two B gw gx v' vx sa' sb w' ∧ Turned gw v B w w' ∧ Newer w v v' := by
  obtain ⟨v', h1, h2, h3⟩ := hm
  refine ⟨v', ⟨h1, h.b.only h2 (Ne.symm h.ne) h.v1 h.v2 (fun k hk e => h.v3 k e hk), h.ne, ?_, h.v2, ?_, ?_, fun x hx => ⟨(h.v5 x hx).1, Nat.lt_of_lt_of_le (h.v5 x hx).2 h2.size⟩⟩, ⟨h2, h.a.low, h.v4⟩, newer_of h3⟩
  · rcases h3 with e | ⟨k, e, h4, h5⟩
    · rw [e]; exact h.v1
    · rw [e]; intro e2; have := Option.some.inj e2; have := h.b.lies; omega
  · intro k hk
    rcases h3 with e | ⟨k2, e, h4, h5⟩
    · exact h.v3 k (e ▸ hk)
    · intro e2
      have := (h.v5 k e2).2
      rw [e] at hk
      have := Option.some.inj hk
      omega
  · intro x hx
    rcases h3 with e | ⟨k, e, h4, h5⟩
    · exact ⟨(h.v4 x (e ▸ hx)).1, Nat.lt_of_lt_of_le (h.v4 x (e ▸ hx)).2 h2.size⟩
    · rw [e] at hx
      have := Option.some.inj hx
      have := h.a.low
      have := h.a.lies
      omega
theorem Two.want {B gw gx : Nat} {v vx : Value} {sa sb sb' : Option (List UInt8)} {w w' : World} (h : Two B gw gx v vx sa sb w) (hm : RMoreO w B gx vx sb' w') : ∃ v', Two B gw gx v v' sa sb' w' ∧ Turned gx vx B w w' ∧ Newer w vx v' := by
  obtain ⟨v', h1, h2, h3⟩ := hm
  refine ⟨v', ⟨h.a.only h2 h.ne h.v2 h.v1 (fun k hk e => h.v3 k hk e), h1, h.ne, h.v1, ?_, ?_, fun x hx => ⟨(h.v4 x hx).1, Nat.lt_of_lt_of_le (h.v4 x hx).2 h2.size⟩, ?_⟩, ⟨h2, h.b.low, h.v5⟩, newer_of h3⟩
  · rcases h3 with e | ⟨k, e, h4, h5⟩
    · rw [e]; exact h.v2
    · rw [e]; intro e2; have := Option.some.inj e2; have := h.a.lies; omega
  · intro k hk
    rcases h3 with e | ⟨k2, e, h4, h5⟩
    · rw [e]; exact h.v3 k hk
    · intro e2
      have := (h.v4 k hk).2
      rw [e] at e2
      have := Option.some.inj e2
      omega
  · intro x hx
    rcases h3 with e | ⟨k, e, h4, h5⟩
    · exact ⟨(h.v5 x (e ▸ hx)).1, Nat.lt_of_lt_of_le (h.v5 x (e ▸ hx)).2 h2.size⟩
    · rw [e] at hx
      have := Option.some.inj hx
      have := h.b.low
      have := h.b.lies
      omega
/-- A row that a call of either leaves: its block is newer than the writers' own. -/
theorem Turned.keep {g : Nat} {v : Value} {B : Nat} {w w' : World} {k : Nat} {cs : Array Value} {t : TypeId} (h : Turned g v B w w') (hl : Lies w k cs t) (hg : k ≠ g) (ho : v.ownBlock ≠ some k) : Lies w' k cs t := h.1.keep hl hg ho
theorem Turned.own {g : Nat} {v : Value} {B : Nat} {w w' : World} {base n : Nat} {u : Value} {xs : List Value} (h : Turned g v B w w') (ho : w.ownsRow base 5 1 u n xs) (hg : u.ownBlock ≠ some g) (h2 : ∀ k, u.ownBlock = some k → v.ownBlock ≠ some k) : w'.ownsRow base 5 1 u n xs := own_only ho h.1 hg h2
/-- How long the bytes may be behind k puts. -/
def Fits (ps : List PutD) (k : Nat) (st : Option (List UInt8)) : Prop := ∀ l, st = some l → l.length ≤ 400 * k + sumB ps k
theorem step_len (st : Option (List UInt8)) (p : PutD) (W : World) (hok : p.Ok W) (hs : Small p.s) (n : Nat) (h : ∀ l, st = some l → l.length ≤ n) : ∀ l, stepPut st p.n0 p.n1 p.n2 p.hs p.xs p.s = some l → l.length ≤ n + 400 + p.xs.length := by
  intro l
  have hN : ∀ m s, stepN st m s = some l → l.length ≤ n + s := by
    intro m s e
    cases st with
    | none => cases e
    | some l0 =>
      simp only [stepN, Option.bind_some] at e
      split at e
      · cases e; have := h l0 rfl; rw [List.length_append, beN_length]; omega
      · cases e
  have hB : ∀ xs : List UInt8, stepB st xs = some l → l.length ≤ n + xs.length := by
    intro xs e
    cases st with
    | none => cases e
    | some l0 =>
      simp only [stepB, Option.map_some] at e
      cases e; have := h l0 rfl; rw [List.length_append]; omega
  unfold stepPut
  intro e
  split at e
  · have := hN _ _ e; omega
  split at e
  · have := hN _ _ e; omega
  split at e
  · have := hN _ _ e; omega
  split at e
  · have := hN _ _ e; omega
  split at e
  · have := hN _ _ e; omega
  split at e
  · have := hB _ e; have := hok.hlen; omega
  split at e
  · have := hB _ e; omega
  split at e
  · unfold stepText at e
    split at e
    · have h1 := hB _ e
      rw [List.length_append, beN_length, str_len] at h1
      rcases hs with hs | hs <;> omega
    · cases e
  split at e
  · have := hB _ e; simp at this; omega
  split at e
  · cases e
  · have := h l e; omega
/-- Bytes of a row of one's own, as a text. -/
theorem own_text {w : World} {B : Nat} {u : Value} {l : List UInt8} (h : w.ownsRow B 5 1 u l.length (B8 l).toList) : (convert 26 9 u).run Tryz.prog w = .ok (.string ⟨l.toArray⟩) w := by
  rcases h.2 with ⟨rfl, hn⟩ | ⟨k, cap, cur, rfl, _⟩
  · obtain rfl : l = [] := List.eq_nil_of_length_eq_zero hn
    rw [run_convert_bytes_string w 26 9 5 none 0 0 Tryz.underlying26 Tryz.underlying5 Tryz.underlying9]
    simp [Conv.bytesToString]
    rfl
  · exact str_of_src (own_src h)
end Go.Proofs.YtjbjagdpemnhiaaGreat
