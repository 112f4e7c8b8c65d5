/-
  The document's own writer: Raw, Flag, Hash.
-/
import Derived.Test.YtjbjagdpemnhiaaGreatRef2
namespace Go.Proofs.YtjbjagdpemnhiaaGreat
open Go.RowKit

theorem RfV.below {w w' : World} {B g : Nat} {v : Value} {l : List UInt8} (h : RfV w B g v l) (hb : Below w.heap.size w w') : RfV w' B g v l :=
  ⟨h.1.below hb h.1.lt, own_kept h.2.1 (grown_below hb none) (fun _ _ => by simp), h.2.2.1, h.2.2.2⟩
theorem RfS.below {w w' : World} {B g : Nat} {v : Value} {st : Option (List UInt8)} (h : RfS w B g v st) (hb : Below w.heap.size w w') : RfS w' B g v st := by
  cases st with
  | none => exact ⟨h.1.below hb h.1.lt, h.2⟩
  | some l => exact RfV.below h hb
theorem RMoreO.after {w w1 w2 : World} {B g : Nat} {v : Value} {st : Option (List UInt8)} (hb : Below w.heap.size w w1) (h : RMoreO w1 B g v st w2) : RMoreO w B g v st w2 := by
  obtain ⟨v', h1, h2, h3⟩ := h
  refine ⟨v', h1, Only.trans ((only_below hb).weak _) h2 (.inl rfl), ?_⟩
  rcases h3 with h3 | ⟨k, h3, h4⟩
  · exact .inl h3
  · exact .inr ⟨k, h3, Nat.le_trans hb.size h4.1, h4.2⟩
theorem RMoreO.trans {w w1 w2 : World} {B g : Nat} {v v1 : Value} {st : Option (List UInt8)} (ho : Only g w w1 v.ownBlock) (hat : v1.ownBlock = v.ownBlock ∨ ∃ k, v1.ownBlock = some k ∧ w.heap.size ≤ k ∧ k < w1.heap.size) (h : RMoreO w1 B g v1 st w2) : RMoreO w B g v st w2 := by
  obtain ⟨v', h1, h2, h3⟩ := h
  refine ⟨v', h1, Only.trans ho h2 (hat.imp id fun ⟨k, e, h, _⟩ => ⟨k, e, h⟩), ?_⟩
  rcases h3 with h3 | ⟨k, h3, h4⟩
  · exact hat.imp (fun h => h3.trans h) (fun ⟨k, hk, h4, h5⟩ => ⟨k, h3.trans hk, h4, Nat.lt_of_lt_of_le h5 h2.size⟩)
  · exact .inr ⟨k, h3, Nat.le_trans ho.size h4.1, h4.2⟩
set_option maxRecDepth 100000 in
theorem rraw_bad (w : World) (g : Nat) (bv : Value) (h : w.cell? ⟨g, 1, none⟩ = some (.bool true)) : Calls Tryz.prog 39 #[.pointer (some ⟨g, 0, none⟩), bv] w fun e w' => e = .returned (.tuple #[]) ∧ w = w' := by
  go_enter Tryz.func39, Tryz.ntmps39
  go_wp2
  go_end0
  exact ⟨rfl, rfl⟩
set_option maxRecDepth 100000 in
set_option maxHeartbeats 1000000 in
theorem rraw_any (w : World) (B g : Nat) (v : Value) (l xs : List UInt8) (ad : Addr) (c : Nat) (h : RfV w B g v l) (hs : SrcA w ad xs) (hB : B ≤ w.heap.size) (hx : l.length + xs.length ≤ 2000000) :
    Calls Tryz.prog 39 #[.pointer (some ⟨g, 0, none⟩), .slice (some ad) xs.length c] w fun e w' => e = .returned (.tuple #[]) ∧ RMore w B g v (l ++ xs) w' := by
  obtain ⟨i0, hi0, hz0, hz1, hz2⟩ := info_parts info5
  have c1 : w.cell? ⟨g, 1, none⟩ = some (.bool false) := h.1.cell 1 rfl
  have c2 : w.cell? ⟨g, 0, none⟩ = some v := h.1.cell 0 rfl
  have HW := Lib.hid h
  have HS := Lib.hid hs
  clear h hs
  go_enter Tryz.func39, Tryz.ntmps39
  go_wp2_with (at_builtin; go_must (refine wpList_append_own_at _ rfl _ _ 26 rfl B 5 i0 (.int .u8 0) 1 1 Tryz.underlying26 hi0 hz0 hz1 hz2 rfl (by decide) v l.length (B8 l).toList rfl HW.out.2.1 ad xs.length c (B8 xs).toList rfl (by rw [Array.length_toList, B8_size, Nat.mul_one]) HS.out (byts_one _) (by unfold maxLen; omega) (by omega) hB ?_; intro v' w1 hown hgrow _ hat; obtain ⟨A', cc, rfl⟩ := own_slice hown; have c3 : w1.cell? ⟨g, 0, none⟩ = some v := (Lies.cell ((hgrow.block g HW.out.1.lt (fun e => HW.out.2.2.1 e.symm)).trans HW.out.1) 0 rfl); have f3 : w1.frozen? ⟨g, 0, none⟩ = false := (Lies.free (show Lies w1 g _ 38 from (hgrow.block g HW.out.1.lt (fun e => HW.out.2.2.1 e.symm)).trans HW.out.1) 0)))
  go_end0
  refine ⟨rfl, rmore_of HW.out ?_ hgrow hat⟩
  have e : (B8 (l ++ xs)).toList = (B8 l).toList ++ (B8 xs).toList := by simp [B8]
  rw [e, List.length_append]
  exact hown
theorem RMoreO.again {w : World} {B g : Nat} {v : Value} {l : List UInt8} (h : RfV w B g v l) : RMoreO w B g v (some l) (w.setCell ⟨g, 0, none⟩ v) := by
  refine ⟨v, ⟨?_, own_set h.2.1 h.2.2.1, h.2.2.1, h.2.2.2⟩, (only_set g 0 w v).weak _, .inl rfl⟩
  have := h.1.set 0 v
  exact this
set_option maxRecDepth 100000 in
theorem rraw_nil (w : World) (B g : Nat) (v : Value) (l : List UInt8) (h : RfV w B g v l) : Calls Tryz.prog 39 #[.pointer (some ⟨g, 0, none⟩), .slice none 0 0] w fun e w' => e = .returned (.tuple #[]) ∧ RMoreO w B g v (some l) w' := by
  have c1 : w.cell? ⟨g, 1, none⟩ = some (.bool false) := h.1.cell 1 rfl
  have c2 : w.cell? ⟨g, 0, none⟩ = some v := h.1.cell 0 rfl
  have f2 := h.1.free 0
  have hm := RMoreO.again h
  have HM := Lib.hid hm
  clear hm
  obtain ⟨_, ⟨rfl, hn⟩ | ⟨k, cap, cur, rfl, _, _, hcap, _⟩⟩ := h.2.1
  · clear h
    go_enter Tryz.func39, Tryz.ntmps39
    go_wp2_with fail
    go_end0
    exact ⟨rfl, HM.out⟩
  · clear h
    go_enter Tryz.func39, Tryz.ntmps39
    go_wp2_with fail
    go_end0
    exact ⟨rfl, HM.out⟩
theorem rraw_in (w : World) (B g : Nat) (v bv : Value) (st : Option (List UInt8)) (xs : List UInt8) (h : RfS w B g v st) (hs : RawIn w bv xs) (hB : B ≤ w.heap.size) (hx : ∀ l, st = some l → l.length + xs.length ≤ 2000000) :
    Calls Tryz.prog 39 #[.pointer (some ⟨g, 0, none⟩), bv] w fun e w' => e = .returned (.tuple #[]) ∧ RMoreO w B g v (stepB st xs) w' := by
  cases st with
  | none =>
    refine (rraw_bad w g bv (h.1.cell 1 rfl)).mono ?_
    rintro e w' ⟨rfl, rfl⟩
    exact ⟨rfl, RMoreO.same h⟩
  | some l =>
    rcases hs with ⟨rfl, rfl⟩ | ⟨ad, c, rfl, hs⟩
    · have := rraw_nil w B g v l h
      rwa [show stepB (some l) [] = some l by simp [stepB]]
    · refine (rraw_any w B g v l xs ad c h hs hB (hx l rfl)).mono ?_
      rintro e w' ⟨rfl, v', h1, h2, h3⟩
      exact ⟨rfl, v', h1, h2, h3⟩
set_option maxRecDepth 100000 in
theorem rhash_st (w : World) (B g : Nat) (v : Value) (st : Option (List UInt8)) (xs : List UInt8) (h : RfS w B g v st) (hl : xs.length = 32) (hB : B ≤ w.heap.size) (hx : ∀ l, st = some l → l.length ≤ 1000000) :
    Calls Tryz.prog 38 #[.pointer (some ⟨g, 0, none⟩), .agg (B8 xs)] w fun e w' => e = .returned (.tuple #[]) ∧ RMoreO w B g v (stepB st xs) w' := by
  have hb : Below w.heap.size w (w.alloc (.cells (B8 xs) 25)) := (Below.refl _ _).alloc (Nat.le_refl _) _
  have hsrc : Src (w.alloc (.cells (B8 xs) 25)) w.heap.size 0 xs := fun j hj => by
    have := (Lies.new w (B8 xs) 25).cell j (B8_get xs j hj)
    rwa [Nat.zero_add]
  have he := rraw_in (w.alloc (.cells (B8 xs) 25)) B g v (.slice (some ⟨w.heap.size, 0, none⟩) xs.length 32) st xs (h.below hb) (.inr ⟨_, 32, rfl, src_news hsrc⟩) (by simp; omega) (fun l e => by have := hx l e; omega)
  rw [hl] at he
  have HE := Lib.hid he
  have HB := Lib.hid hb
  clear he hb hsrc h hx
  go_enter Tryz.func38, Tryz.ntmps38
  go_wp2_with fail
  refine HE.out.mono ?_
  rintro e w1 ⟨rfl, hm⟩
  have HM := Lib.hid hm
  clear hm HE
  go_wp2_with fail
  go_end0
  exact ⟨rfl, HM.out.after HB.out⟩
theorem stepFlag_ref (st : Option (List UInt8)) (n : Int) : stepFlag st n = stepN st (low64 (if n = 1 then 1 else 0)) 1 := by
  have e1 : low64 1 = 1 := rfl
  have e0 : low64 0 = 0 := rfl
  have b1 : beN 1 1 = [1] := by decide
  have b0 : beN 0 1 = [0] := by decide
  by_cases h : n = 1
  · rw [stepFlag, if_pos h, if_pos h, stepN_fit1 st 1 (by omega) (by omega), e1, b1]
  · rw [stepFlag, if_neg h, if_neg h, stepN_fit1 st 0 (by omega) (by omega), e0, b0]
set_option maxRecDepth 100000 in
theorem rflag_st (w : World) (B g : Nat) (v : Value) (st : Option (List UInt8)) (n : Int) (h : RfS w B g v st) (hB : B ≤ w.heap.size) (hx : ∀ l, st = some l → l.length ≤ 1000000) :
    Calls Tryz.prog 41 #[.pointer (some ⟨g, 0, none⟩), .bool (n == 1)] w fun e w' => e = .returned (.tuple #[]) ∧ RMoreO w B g v (stepFlag st n) w' := by
  rw [stepFlag_ref]
  by_cases h1 : n = 1
  · have he := ru8_st w B g v st 1 (by omega) (by omega) h hB hx
    have eb : (n == 1) = true := by simp [h1]
    rw [eb, if_pos h1]
    have HE := Lib.hid he
    clear he h hx h1 eb
    go_enter Tryz.func41, Tryz.ntmps41
    go_wp2_with fail
    refine HE.out.mono ?_
    rintro e w1 ⟨rfl, hm⟩
    have HM := Lib.hid hm
    clear hm HE
    go_wp2_with fail
    go_end0
    exact ⟨rfl, HM.out⟩
  · have he := ru8_st w B g v st 0 (by omega) (by omega) h hB hx
    have eb : (n == 1) = false := by simp [h1]
    rw [eb, if_neg h1]
    have HE := Lib.hid he
    clear he h hx h1 eb
    go_enter Tryz.func41, Tryz.ntmps41
    go_wp2_with fail
    refine HE.out.mono ?_
    rintro e w1 ⟨rfl, hm⟩
    have HM := Lib.hid hm
    clear hm HE
    go_wp2_with fail
    go_end0
    exact ⟨rfl, HM.out⟩
end Go.Proofs.YtjbjagdpemnhiaaGreat
