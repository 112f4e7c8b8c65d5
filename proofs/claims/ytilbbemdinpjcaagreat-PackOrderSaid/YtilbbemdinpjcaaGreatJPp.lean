/-
  pack: the putter's closures of nodes, the map of them.
-/
import Derived.Test.YtilbbemdinpjcaaGreatJWRef2
import Derived.Lib.ConvBytes
import Derived.Test.YtilbbemdinpjcaaGreatJWFault
import Derived.Test.YtilbbemdinpjcaaGreatJTTf
namespace Go.Proofs.YtilbbemdinpjcaaGreat.W
open Go.RowKit

theorem RfV.below {w w' : World} {B g : Nat} {v : Value} {l : List UInt8} (h : RfV w B g v l) (hb : Below w.heap.size w w') : RfV w' B g v l :=
  ⟨h.1.below hb h.1.lt, own_kept h.2.1 (grown_below hb none) (fun _ _ => by simp), h.2.2.1, h.2.2.2⟩
theorem RfS.below {w w' : World} {B g : Nat} {v : Value} {st : Option (List UInt8)} (h : RfS w B g v st) (hb : Below w.heap.size w w') : RfS w' B g v st := by
  cases st with
  | none => exact ⟨h.1.below hb h.1.lt, h.2⟩
  | some l => exact RfV.below h hb
theorem RMoreO.after {w w1 w2 : World} {B g : Nat} {v : Value} {st : Option (List UInt8)} (hb : Below w.heap.size w w1) (h : RMoreO w1 B g v st w2) : RMoreO w B g v st w2 := by
  obtain ⟨v', h1, h2, h3⟩ := h
  refine ⟨v', h1, Only.trans ((only_below hb).weak _) h2 (.inl rfl), ?_⟩
  rcases h3 with h3 | ⟨k, h3, h4⟩
  · exact .inl h3
  · exact .inr ⟨k, h3, Nat.le_trans hb.size h4.1, h4.2⟩
theorem RMoreO.trans {w w1 w2 : World} {B g : Nat} {v v1 : Value} {st : Option (List UInt8)} (ho : Only g w w1 v.ownBlock) (hat : v1.ownBlock = v.ownBlock ∨ ∃ k, v1.ownBlock = some k ∧ w.heap.size ≤ k ∧ k < w1.heap.size) (h : RMoreO w1 B g v1 st w2) : RMoreO w B g v st w2 := by
  obtain ⟨v', h1, h2, h3⟩ := h
  refine ⟨v', h1, Only.trans ho h2 (hat.imp id fun ⟨k, e, h, _⟩ => ⟨k, e, h⟩), ?_⟩
  rcases h3 with h3 | ⟨k, h3, h4⟩
  · exact hat.imp (fun h => h3.trans h) (fun ⟨k, hk, h4, h5⟩ => ⟨k, h3.trans hk, h4, Nat.lt_of_lt_of_le h5 h2.size⟩)
  · exact .inr ⟨k, h3, Nat.le_trans ho.size h4.1, h4.2⟩
set_option maxRecDepth 100000 in
theorem rraw_bad (w : World) (g : Nat) (bv : Value) (h : w.cell? ⟨g, 1, none⟩ = some (.bool true)) : Calls Tryz.prog 214 #[.pointer (some ⟨g, 0, none⟩), bv] w fun e w' => e = .returned (.tuple #[]) ∧ w = w' := by
  go_enter Tryz.func214, Tryz.ntmps214
  go_wp2
  go_end0
  exact ⟨rfl, rfl⟩
set_option maxRecDepth 100000 in
set_option maxHeartbeats 1000000 in
theorem rraw_any (w : World) (B g : Nat) (v : Value) (l xs : List UInt8) (ad : Addr) (c : Nat) (h : RfV w B g v l) (hs : SrcA w ad xs) (hB : B ≤ w.heap.size) (hx : l.length + xs.length ≤ 2000000) :
    Calls Tryz.prog 214 #[.pointer (some ⟨g, 0, none⟩), .slice (some ad) xs.length c] w fun e w' => e = .returned (.tuple #[]) ∧ RMore w B g v (l ++ xs) w' := by
  obtain ⟨i0, hi0, hz0, hz1, hz2⟩ := info_parts info5
  have c1 : w.cell? ⟨g, 1, none⟩ = some (.bool false) := h.1.cell 1 rfl
  have c2 : w.cell? ⟨g, 0, none⟩ = some v := h.1.cell 0 rfl
  have HW := Lib.hid h
  have HS := Lib.hid hs
  clear h hs
  go_enter Tryz.func214, Tryz.ntmps214
  go_wp2_with (at_builtin; go_must (refine wpList_append_own_at _ rfl _ _ 54 rfl B 5 i0 (.int .u8 0) 1 1 Tryz.underlying54 hi0 hz0 hz1 hz2 rfl (by decide) v l.length (B8 l).toList rfl HW.out.2.1 ad xs.length c (B8 xs).toList rfl (by rw [Array.length_toList, B8_size, Nat.mul_one]) HS.out (byts_one _) (by unfold maxLen; omega) (by omega) hB ?_; intro v' w1 hown hgrow _ hat; obtain ⟨A', cc, rfl⟩ := own_slice hown; have c3 : w1.cell? ⟨g, 0, none⟩ = some v := (Lies.cell ((hgrow.block g HW.out.1.lt (fun e => HW.out.2.2.1 e.symm)).trans HW.out.1) 0 rfl); have f3 : w1.frozen? ⟨g, 0, none⟩ = false := (Lies.free (show Lies w1 g _ 76 from (hgrow.block g HW.out.1.lt (fun e => HW.out.2.2.1 e.symm)).trans HW.out.1) 0)))
  go_end0
  refine ⟨rfl, rmore_of HW.out ?_ hgrow hat⟩
  have e : (B8 (l ++ xs)).toList = (B8 l).toList ++ (B8 xs).toList := by simp [B8]
  rw [e, List.length_append]
  exact hown
theorem RMoreO.again {w : World} {B g : Nat} {v : Value} {l : List UInt8} (h : RfV w B g v l) : RMoreO w B g v (some l) (w.setCell ⟨g, 0, none⟩ v) := by
  refine ⟨v, ⟨?_, own_set h.2.1 h.2.2.1, h.2.2.1, h.2.2.2⟩, (only_set g 0 w v).weak _, .inl rfl⟩
  have := h.1.set 0 v
  exact this
set_option maxRecDepth 100000 in
theorem rraw_nil (w : World) (B g : Nat) (v : Value) (l : List UInt8) (h : RfV w B g v l) : Calls Tryz.prog 214 #[.pointer (some ⟨g, 0, none⟩), .slice none 0 0] w fun e w' => e = .returned (.tuple #[]) ∧ RMoreO w B g v (some l) w' := by
  have c1 : w.cell? ⟨g, 1, none⟩ = some (.bool false) := h.1.cell 1 rfl
  have c2 : w.cell? ⟨g, 0, none⟩ = some v := h.1.cell 0 rfl
  have f2 := h.1.free 0
  have hm := RMoreO.again h
  have HM := Lib.hid hm
  clear hm
  obtain ⟨_, ⟨rfl, hn⟩ | ⟨k, cap, cur, rfl, _, _, hcap, _⟩⟩ := h.2.1
  · clear h
    go_enter Tryz.func214, Tryz.ntmps214
    go_wp2_with fail
    go_end0
    exact ⟨rfl, HM.out⟩
  · clear h
    go_enter Tryz.func214, Tryz.ntmps214
    go_wp2_with fail
    go_end0
    exact ⟨rfl, HM.out⟩
theorem rraw_in (w : World) (B g : Nat) (v bv : Value) (st : Option (List UInt8)) (xs : List UInt8) (h : RfS w B g v st) (hs : RawIn w bv xs) (hB : B ≤ w.heap.size) (hx : ∀ l, st = some l → l.length + xs.length ≤ 2000000) :
    Calls Tryz.prog 214 #[.pointer (some ⟨g, 0, none⟩), bv] w fun e w' => e = .returned (.tuple #[]) ∧ RMoreO w B g v (stepB st xs) w' := by
  cases st with
  | none =>
    refine (rraw_bad w g bv (h.1.cell 1 rfl)).mono ?_
    rintro e w' ⟨rfl, rfl⟩
    exact ⟨rfl, RMoreO.same h⟩
  | some l =>
    rcases hs with ⟨rfl, rfl⟩ | ⟨ad, c, rfl, hs⟩
    · have := rraw_nil w B g v l h
      rwa [show stepB (some l) [] = some l by simp [stepB]]
    · refine (rraw_any w B g v l xs ad c h hs hB (hx l rfl)).mono ?_
      rintro e w' ⟨rfl, v', h1, h2, h3⟩
      exact ⟨rfl, v', h1, h2, h3⟩
set_option maxRecDepth 100000 in
theorem rhash_st (w : World) (B g : Nat) (v : Value) (st : Option (List UInt8)) (xs : List UInt8) (h : RfS w B g v st) (hl : xs.length = 32) (hB : B ≤ w.heap.size) (hx : ∀ l, st = some l → l.length ≤ 1000000) :
    Calls Tryz.prog 142 #[.pointer (some ⟨g, 0, none⟩), .agg (B8 xs)] w fun e w' => e = .returned (.tuple #[]) ∧ RMoreO w B g v (stepB st xs) w' := by
  have hb : Below w.heap.size w (w.alloc (.cells (B8 xs) 30)) := (Below.refl _ _).alloc (Nat.le_refl _) _
  have hsrc : Src (w.alloc (.cells (B8 xs) 30)) w.heap.size 0 xs := fun j hj => by
    have := (Lies.new w (B8 xs) 30).cell j (B8_get xs j hj)
    rwa [Nat.zero_add]
  have he := rraw_in (w.alloc (.cells (B8 xs) 30)) B g v (.slice (some ⟨w.heap.size, 0, none⟩) xs.length 32) st xs (h.below hb) (.inr ⟨_, 32, rfl, src_news hsrc⟩) (by simp; omega) (fun l e => by have := hx l e; omega)
  rw [hl] at he
  have HE := Lib.hid he
  have HB := Lib.hid hb
  clear he hb hsrc h hx
  go_enter Tryz.func142, Tryz.ntmps142
  go_wp2_with fail
  refine HE.out.mono ?_
  rintro e w1 ⟨rfl, hm⟩
  have HM := Lib.hid hm
  clear hm HE
  go_wp2_with fail
  go_end0
  exact ⟨rfl, HM.out.after HB.out⟩
theorem stepFlag_ref (st : Option (List UInt8)) (n : Int) : stepFlag st n = stepN st (low64 (if n = 1 then 1 else 0)) 1 := by
  have e1 : low64 1 = 1 := rfl
  have e0 : low64 0 = 0 := rfl
  have b1 : beN 1 1 = [1] := by decide
  have b0 : beN 0 1 = [0] := by decide
  by_cases h : n = 1
  · rw [stepFlag, if_pos h, if_pos h, stepN_fit1 st 1 (by omega) (by omega), e1, b1]
  · rw [stepFlag, if_neg h, if_neg h, stepN_fit1 st 0 (by omega) (by omega), e0, b0]
set_option maxRecDepth 100000 in
theorem rflag_st (w : World) (B g : Nat) (v : Value) (st : Option (List UInt8)) (n : Int) (h : RfS w B g v st) (hB : B ≤ w.heap.size) (hx : ∀ l, st = some l → l.length ≤ 1000000) :
    Calls Tryz.prog 141 #[.pointer (some ⟨g, 0, none⟩), .bool (n == 1)] w fun e w' => e = .returned (.tuple #[]) ∧ RMoreO w B g v (stepFlag st n) w' := by
  rw [stepFlag_ref]
  by_cases h1 : n = 1
  · have he := ru8_st w B g v st 1 (by omega) (by omega) h hB hx
    have eb : (n == 1) = true := by simp [h1]
    rw [eb, if_pos h1]
    have HE := Lib.hid he
    clear he h hx h1 eb
    go_enter Tryz.func141, Tryz.ntmps141
    go_wp2_with fail
    refine HE.out.mono ?_
    rintro e w1 ⟨rfl, hm⟩
    have HM := Lib.hid hm
    clear hm HE
    go_wp2_with fail
    go_end0
    exact ⟨rfl, HM.out⟩
  · have he := ru8_st w B g v st 0 (by omega) (by omega) h hB hx
    have eb : (n == 1) = false := by simp [h1]
    rw [eb, if_neg h1]
    have HE := Lib.hid he
    clear he h hx h1 eb
    go_enter Tryz.func141, Tryz.ntmps141
    go_wp2_with fail
    refine HE.out.mono ?_
    rintro e w1 ⟨rfl, hm⟩
    have HM := Lib.hid hm
    clear hm HE
    go_wp2_with fail
    go_end0
    exact ⟨rfl, HM.out⟩
end Go.Proofs.YtilbbemdinpjcaaGreat.W
namespace Go.Proofs.YtilbbemdinpjcaaGreat.W
open Go.RowKit

theorem str_len (s : ByteArray) : s.data.toList.length = s.size := Array.length_toList
theorem bytesWorld_below (w : World) (s : ByteArray) : Below w.heap.size w (Lib.bytesWorld w 5 s) :=
  ⟨rfl, rfl, rfl, by rw [Lib.bytesWorld_size]; omega, fun k hk => Lib.bytesWorld_at_old w 5 s k hk⟩
theorem bytesWorld_src (w : World) (s : ByteArray) : Src (Lib.bytesWorld w 5 s) w.heap.size 0 s.data.toList := fun j hj => by
  have := Lib.bytesWorld_cell w 5 s j (by rw [← str_len]; exact hj)
  rwa [Nat.zero_add]
theorem stepText_ref (st : Option (List UInt8)) (s : ByteArray) (hs2 : s.size < 9223372036854775808) : stepText st s = stepB (stepN st (low64 s.size) 2) s.data.toList := by
  have hl : low64 s.size = s.size := by have := low64_fit s.size (by omega) (by omega); omega
  by_cases h : s.size < 65536
  · rw [stepText, if_pos h, stepN_fit2 st s.size (by omega) (by omega), hl]
    cases st with
    | none => rfl
    | some l => simp [stepB]
  · rw [stepText, if_neg h, stepN_not2 st s.size (by omega) (by omega) (by omega)]
    rfl
set_option maxRecDepth 100000 in
theorem rtext_st (w : World) (B g : Nat) (v : Value) (st : Option (List UInt8)) (s : ByteArray) (h : RfS w B g v st) (hB : B ≤ w.heap.size) (hx : ∀ l, st = some l → l.length ≤ 900000) (hs2 : s.size < 9223372036854775808) (hs3 : ∀ l, st = some l → l.length + s.size ≤ 1000000) :
    Calls Tryz.prog 176 #[.pointer (some ⟨g, 0, none⟩), .string s] w fun e w' => e = .returned (.tuple #[]) ∧ RMoreO w B g v (stepText st s) w' := by
  rw [stepText_ref st s hs2]
  have hu := ru16_st w B g v st s.size (by omega) (by omega) h hB (fun l e => by have := hx l e; omega)
  have hx3 : ∀ l, stepN st (low64 s.size) 2 = some l → l.length + s.data.toList.length ≤ 2000000 := by
    intro l e
    have hsz := str_len s
    cases st with
    | none => cases e
    | some l0 =>
      simp only [stepN, Option.bind_some] at e
      split at e
      · cases e
        have := hs3 l0 rfl
        rw [List.length_append, beN_length]; omega
      · cases e
  have HU := Lib.hid hu
  have HX := Lib.hid hx3
  clear hu h hx hx3 hs3
  go_enter Tryz.func176, Tryz.ntmps176
  go_wp2_with fail
  refine HU.out.mono ?_
  rintro e w1 ⟨rfl, v1, hw1, ho1, ha1⟩
  have hB1 : B ≤ w1.heap.size := Nat.le_trans hB ho1.size
  have hb := bytesWorld_below w1 s
  have he := fun c => rraw_in (Lib.bytesWorld w1 5 s) B g v1 (.slice (some ⟨w1.heap.size, 0, none⟩) s.data.toList.length c) _ s.data.toList (hw1.below hb) (.inr ⟨_, c, rfl, src_news (bytesWorld_src w1 s)⟩) (Nat.le_trans hB1 hb.size) HX.out
  rw [str_len] at he
  have hcv := Lib.run_convert_string_bytes (P := Tryz.prog) w1 9 54 5 s Tryz.underlying9 Tryz.underlying54 Tryz.underlying5
  have HE := Lib.hid he
  have HO := Lib.hid (And.intro ho1 (And.intro ha1 hb))
  clear he hb hw1 ho1 ha1 HU
  go_wp2_with fail
  refine (HE.out _).mono ?_
  rintro e w2 ⟨rfl, hm⟩
  have HM := Lib.hid hm
  clear hm HE hcv
  go_wp2_with fail
  go_end0
  exact ⟨rfl, RMoreO.trans HO.out.1 HO.out.2.1 (HM.out.after HO.out.2.2)⟩
end Go.Proofs.YtilbbemdinpjcaaGreat.W
namespace Go.Proofs.YtilbbemdinpjcaaGreat.P
set_option maxRecDepth 100000
open Go.RowKit W

/-- From one world to another one nothing old turned but the writer g and its row. -/
def Lk (g : Nat) (w : World) (v : Value) (w' : World) (v' : Value) : Prop := W.Only g w w' v.ownBlock ∧ (v'.ownBlock = v.ownBlock ∨ ∃ k, v'.ownBlock = some k ∧ w.heap.size ≤ k ∧ k < w'.heap.size)
theorem Lk.refl (g : Nat) (w : World) (v : Value) : Lk g w v w v := ⟨W.Only.refl _ _ _, .inl rfl⟩
theorem Lk.trans {g : Nat} {w w1 w2 : World} {v v1 v2 : Value} (h : Lk g w v w1 v1) (k : Lk g w1 v1 w2 v2) : Lk g w v w2 v2 := by
  refine ⟨W.Only.trans h.1 k.1 (h.2.imp id fun ⟨x, e, h, _⟩ => ⟨x, e, h⟩), ?_⟩
  rcases k.2 with e | ⟨x, e, hx, hy⟩
  · rcases h.2 with e1 | ⟨x, e1, hx, hy⟩
    · exact .inl (e.trans e1)
    · exact .inr ⟨x, e.trans e1, hx, Nat.lt_of_lt_of_le hy k.1.size⟩
  · exact .inr ⟨x, e, Nat.le_trans h.1.size hx, hy⟩
theorem Lk.of_below {g : Nat} {w w' : World} {v : Value} (hb : Below w.heap.size w w') : Lk g w v w' v := ⟨(W.only_below hb).weak _, .inl rfl⟩
theorem Lk.below {g : Nat} {w w1 w2 : World} {v v1 : Value} (h : Lk g w v w1 v1) (hb : Below w1.heap.size w1 w2) : Lk g w v w2 v1 := h.trans (Lk.of_below hb)
theorem Lk.block {g : Nat} {w w' : World} {v v' : Value} (h : Lk g w v w' v') {k : Nat} (hk : k < w.heap.size) (h1 : k ≠ g) (h2 : v.ownBlock ≠ some k) : w'.heap[k]? = w.heap[k]? := h.1.block k hk h1 fun e => h2 e.symm
theorem Lk.cell {g : Nat} {w w' : World} {v v' : Value} (h : Lk g w v w' v') {k o : Nat} (hk : k < w.heap.size) (h1 : k ≠ g) (h2 : v.ownBlock ≠ some k) : w'.cell? ⟨k, o, none⟩ = w.cell? ⟨k, o, none⟩ := by
  simp only [World.cell?]
  rw [h.block hk h1 h2]
theorem Lk.lies {g : Nat} {w w' : World} {v v' : Value} (h : Lk g w v w' v') {k : Nat} {cs : Array Value} {t : TypeId} (hl : Lies w k cs t) (h1 : k ≠ g) (h2 : v.ownBlock ≠ some k) : Lies w' k cs t := (h.block hl.lt h1 h2).trans hl
/-- Something holds, however the writer is put to. -/
def Stays (g : Nat) (w : World) (v : Value) (P : World → Prop) : Prop := ∀ W u, Lk g w v W u → P W
theorem Stays.on {g : Nat} {w w1 : World} {v v1 : Value} {P : World → Prop} (h : Stays g w v P) (k : Lk g w v w1 v1) : Stays g w1 v1 P := fun W u hu => h W u (k.trans hu)
theorem Stays.now {g : Nat} {w : World} {v : Value} {P : World → Prop} (h : Stays g w v P) : P w := h w v (Lk.refl _ _ _)
theorem Stays.imp {g : Nat} {w : World} {v : Value} {P Q : World → Prop} (h : Stays g w v P) (k : ∀ W, P W → Q W) : Stays g w v Q := fun W u hu => k W (h W u hu)
/-- What is older than a block's number stays, where the writer is newer. -/
theorem Lk.low {g B : Nat} {w w' : World} {v v' : Value} (h : Lk g w v w' v') (hg : B ≤ g) (hv : ∀ x, v.ownBlock = some x → B ≤ x) (hB : B ≤ w.heap.size) : Below B w w' :=
  ⟨h.1.os, h.1.tape, h.1.output, h.1.size, fun k hk => h.block (Nat.lt_of_lt_of_le hk hB) (by omega) fun e => by have := hv _ e; omega⟩
/-- A writer, with what is said of its row. -/
structure WrO (S : World → Nat → Nat → Value → Option (List UInt8) → Prop) (w : World) (B g : Nat) (v : Value) (st : Option (List UInt8)) : Prop where
  s : S w B g v st
  own : ∀ x, v.ownBlock = some x → B ≤ x ∧ x < w.heap.size
  ne : v.ownBlock ≠ some g
  lt : g < w.heap.size
  le : B ≤ g
theorem WrO.below {S : World → Nat → Nat → Value → Option (List UInt8) → Prop} {w w' : World} {B g : Nat} {v : Value} {st : Option (List UInt8)} (h : WrO S w B g v st) (hb : Below w.heap.size w w') (hs : S w' B g v st) : WrO S w' B g v st :=
  ⟨hs, fun x e => ⟨(h.own x e).1, Nat.lt_of_lt_of_le (h.own x e).2 hb.size⟩, h.ne, Nat.lt_of_lt_of_le h.lt hb.size, h.le⟩
theorem WrO.on {S : World → Nat → Nat → Value → Option (List UInt8) → Prop} {w w' : World} {B g : Nat} {v v' : Value} {st st' : Option (List UInt8)} (h : WrO S w B g v st) (hs : S w' B g v' st') (k : Lk g w v w' v') : WrO S w' B g v' st' := by
  refine ⟨hs, fun x e => ?_, fun e => ?_, Nat.lt_of_lt_of_le h.lt k.1.size, h.le⟩
  · rcases k.2 with e1 | ⟨y, e1, h1, h2⟩
    · rw [e1] at e
      exact ⟨(h.own x e).1, Nat.lt_of_lt_of_le (h.own x e).2 k.1.size⟩
    · rw [e1] at e
      obtain rfl := Option.some.inj e
      exact ⟨by have := h.lt; have := h.le; omega, h2⟩
  · rcases k.2 with e1 | ⟨y, e1, h1, h2⟩
    · exact h.ne (e1.symm.trans e)
    · rw [e1] at e
      have := Option.some.inj e
      have := h.lt
      omega
/-- A put's end: the writer holds st, and nothing else turned. -/
def PutR (S : World → Nat → Nat → Value → Option (List UInt8) → Prop) (w : World) (B g : Nat) (v : Value) (st : Option (List UInt8)) (e : Ending) (w' : World) : Prop :=
  e = .returned (.tuple #[]) ∧ ∃ v', WrO S w' B g v' st ∧ Lk g w v w' v'
theorem putW {e : Ending} {w w' : World} {B g : Nat} {v : Value} {st st' : Option (List UInt8)} (h : WrO W.WSt w B g v st) (k : e = .returned (.tuple #[]) ∧ W.MoreO w B g v st' w') : PutR W.WSt w B g v st' e w' := by
  obtain ⟨he, v', h1, h2⟩ := k
  exact ⟨he, v', h.on h1 h2, h2⟩
theorem putF {e : Ending} {w w' : World} {B g : Nat} {v : Value} {st st' : Option (List UInt8)} (h : WrO W.RfS w B g v st) (k : e = .returned (.tuple #[]) ∧ W.RMoreO w B g v st' w') : PutR W.RfS w B g v st' e w' := by
  obtain ⟨he, v', h1, h2⟩ := k
  exact ⟨he, v', h.on h1 h2, h2⟩
/-- How much a writer holds. -/
def sz : Option (List UInt8) → Nat
  | none => 0
  | some l => l.length
theorem sz_le {st : Option (List UInt8)} {n m : Nat} (h : sz st + m ≤ n) : ∀ l, st = some l → l.length + m ≤ n := fun l e => by subst e; exact h
theorem sz_le0 {st : Option (List UInt8)} {n : Nat} (h : sz st ≤ n) : ∀ l, st = some l → l.length ≤ n := fun l e => by subst e; exact h
theorem sz_N (st : Option (List UInt8)) (m s : Nat) : sz (W.stepN st m s) ≤ sz st + s := by
  cases st with
  | none => exact Nat.zero_le _
  | some l =>
    simp only [W.stepN, Option.bind_some]
    split
    · simp [sz, W.beN_length]
    · exact Nat.zero_le _
theorem sz_B (st : Option (List UInt8)) (xs : List UInt8) : sz (W.stepB st xs) ≤ sz st + xs.length := by
  cases st with
  | none => exact Nat.zero_le _
  | some l => simp [W.stepB, sz]
theorem sz_T (st : Option (List UInt8)) (s : ByteArray) : sz (W.stepText st s) ≤ sz st + (2 + s.size) := by
  unfold W.stepText
  split
  · refine Nat.le_trans (sz_B _ _) ?_
    rw [List.length_append, W.beN_length, Array.length_toList]
    exact Nat.le_refl _
  · exact Nat.zero_le _
theorem PutR.after {S : World → Nat → Nat → Value → Option (List UInt8) → Prop} {w w1 w' : World} {B g : Nat} {v : Value} {st : Option (List UInt8)} {e : Ending} (hb : Below w.heap.size w w1) (h : PutR S w1 B g v st e w') : PutR S w B g v st e w' := by
  obtain ⟨he, v', h1, h2⟩ := h
  exact ⟨he, v', h1, (Lk.of_below hb).trans h2⟩
theorem PutR.on {S : World → Nat → Nat → Value → Option (List UInt8) → Prop} {w w1 w' : World} {B g : Nat} {v v1 : Value} {st : Option (List UInt8)} {e : Ending} (hk : Lk g w v w1 v1) (h : PutR S w1 B g v1 st e w') : PutR S w B g v st e w' := by
  obtain ⟨he, v', h1, h2⟩ := h
  exact ⟨he, v', h1, hk.trans h2⟩
theorem PutR.end_ {S : World → Nat → Nat → Value → Option (List UInt8) → Prop} {w w' : World} {B g : Nat} {v v' : Value} {st : Option (List UInt8)} (h1 : WrO S w' B g v' st) (hk : Lk g w v w' v') : PutR S w B g v st (.returned (.tuple #[])) w' := ⟨rfl, v', h1, hk⟩
theorem WrO.belowW {w w' : World} {B g : Nat} {v : Value} {st : Option (List UInt8)} (h : WrO W.WSt w B g v st) (hb : Below w.heap.size w w') : WrO W.WSt w' B g v st := h.below hb (h.s.below hb)
theorem WrO.belowF {w w' : World} {B g : Nat} {v : Value} {st : Option (List UInt8)} (h : WrO W.RfS w B g v st) (hb : Below w.heap.size w w') : WrO W.RfS w' B g v st := h.below hb (h.s.below hb)
/-- A block that the writer has not. -/
structure Off (w : World) (g : Nat) (v : Value) (p : Nat) : Prop where
  lt : p < w.heap.size
  ne : p ≠ g
  own : v.ownBlock ≠ some p
theorem Off.on {w w' : World} {g : Nat} {v v' : Value} {p : Nat} (h : Off w g v p) (k : Lk g w v w' v') : Off w' g v' p :=
  ⟨Nat.lt_of_lt_of_le h.lt k.1.size, h.ne, fun e => by
    rcases k.2 with e1 | ⟨y, e1, h1, h2⟩
    · exact h.own (e1.symm.trans e)
    · rw [e1] at e
      have := Option.some.inj e
      have := h.lt
      omega⟩
theorem WrO.off {S : World → Nat → Nat → Value → Option (List UInt8) → Prop} {w w' : World} {B g : Nat} {v : Value} {st : Option (List UInt8)} (h : WrO S w B g v st) {p : Nat} (hp : w.heap.size ≤ p) (hw : p < w'.heap.size) : Off w' g v p :=
  ⟨hw, by have := h.lt; omega, fun e => by have := (h.own p e).2; omega⟩
/-- The calls, one by one. -/
theorem wU8 (w : World) {B g : Nat} {v : Value} {st : Option (List UInt8)} (n : Int) (h : WrO W.WSt w B g v st) (hx : sz st ≤ 900000) : Calls Tryz.prog 58 #[.pointer (some ⟨g, 0, none⟩), .int .i64 n] w (PutR W.WSt w B g v (W.stepN st (W.low64 n) 1)) :=
  (W.u8_st w B g v st n (W.low64 n) h.s (by have := h.lt; have := h.le; omega) (sz_le0 (by omega)) (W.low64_eq n)).mono fun _ _ k => putW h k
theorem wU16 (w : World) {B g : Nat} {v : Value} {st : Option (List UInt8)} (n : Int) (h : WrO W.WSt w B g v st) (hx : sz st ≤ 900000) : Calls Tryz.prog 236 #[.pointer (some ⟨g, 0, none⟩), .int .i64 n] w (PutR W.WSt w B g v (W.stepN st (W.low64 n) 2)) :=
  (W.u16_st w B g v st n (W.low64 n) h.s (by have := h.lt; have := h.le; omega) (sz_le0 (by omega)) (W.low64_eq n)).mono fun _ _ k => putW h k
theorem wU32 (w : World) {B g : Nat} {v : Value} {st : Option (List UInt8)} (n : Int) (h : WrO W.WSt w B g v st) (hx : sz st ≤ 900000) : Calls Tryz.prog 239 #[.pointer (some ⟨g, 0, none⟩), .int .i64 n] w (PutR W.WSt w B g v (W.stepN st (W.low64 n) 4)) :=
  (W.u32_st w B g v st n (W.low64 n) h.s (by have := h.lt; have := h.le; omega) (sz_le0 (by omega)) (W.low64_eq n)).mono fun _ _ k => putW h k
theorem wI64 (w : World) {B g : Nat} {v : Value} {st : Option (List UInt8)} (n : Int) (h : WrO W.WSt w B g v st) (hx : sz st ≤ 900000) : Calls Tryz.prog 238 #[.pointer (some ⟨g, 0, none⟩), .int .i64 n] w (PutR W.WSt w B g v (W.stepN st (W.low64 n) 8)) :=
  (W.i64_st w B g v st n (W.low64 n) h.s (by have := h.lt; have := h.le; omega) (sz_le0 (by omega)) (W.low64_eq n)).mono fun _ _ k => putW h k
theorem wU64 (w : World) {B g : Nat} {v : Value} {st : Option (List UInt8)} (n : Nat) (hn : n < 18446744073709551616) (h : WrO W.WSt w B g v st) (hx : sz st ≤ 900000) : Calls Tryz.prog 240 #[.pointer (some ⟨g, 0, none⟩), .int .u64 n] w (PutR W.WSt w B g v (W.stepN st n 8)) :=
  (W.u64_st w B g v st n h.s (by have := h.lt; have := h.le; omega) (sz_le0 (by omega)) hn).mono fun _ _ k => putW h k
theorem wHash (w : World) {B g : Nat} {v : Value} {st : Option (List UInt8)} (xs : List UInt8) (hl : xs.length = 32) (h : WrO W.WSt w B g v st) (hx : sz st ≤ 900000) : Calls Tryz.prog 212 #[.pointer (some ⟨g, 0, none⟩), .agg (B8 xs)] w (PutR W.WSt w B g v (W.stepB st xs)) :=
  (W.hash_st w B g v st xs h.s hl (by have := h.lt; have := h.le; omega) (sz_le0 (by omega))).mono fun _ _ k => putW h k
theorem wFlag (w : World) {B g : Nat} {v : Value} {st : Option (List UInt8)} (b : Bool) (h : WrO W.WSt w B g v st) (hx : sz st ≤ 900000) : Calls Tryz.prog 266 #[.pointer (some ⟨g, 0, none⟩), .bool b] w (PutR W.WSt w B g v (W.stepB st [if b then 1 else 0])) :=
  (W.flag_st w B g v st b h.s (by have := h.lt; have := h.le; omega) (sz_le0 (by omega))).mono fun _ _ k => putW h k
theorem wText (w : World) {B g : Nat} {v : Value} {st : Option (List UInt8)} (s : ByteArray) (hs : s.size ≤ 140737488355328) (h : WrO W.WSt w B g v st) (hx : sz st ≤ 900000) : Calls Tryz.prog 237 #[.pointer (some ⟨g, 0, none⟩), .string s] w (PutR W.WSt w B g v (W.stepText st s)) :=
  (W.text_of w B g v st s h.s (by have := h.lt; have := h.le; omega) (sz_le0 hx) (by omega)).mono fun _ _ k => putW h k
theorem wSpoil (w : World) {B g : Nat} {v : Value} {st : Option (List UInt8)} (h : WrO W.WSt w B g v st) : Calls Tryz.prog 193 #[.pointer (some ⟨g, 0, none⟩)] w (PutR W.WSt w B g v none) :=
  (W.spoil_st w B g v st h.s).mono fun _ _ k => putW h k
def I64 (n : Int) : Prop := -9223372036854775808 ≤ n ∧ n < 9223372036854775808
theorem fU8 (w : World) {B g : Nat} {v : Value} {st : Option (List UInt8)} (n : Int) (hn : I64 n) (h : WrO W.RfS w B g v st) (hx : sz st ≤ 900000) : Calls Tryz.prog 59 #[.pointer (some ⟨g, 0, none⟩), .int .i64 n] w (PutR W.RfS w B g v (W.stepN st (W.low64 n) 1)) :=
  (W.ru8_st w B g v st n hn.1 hn.2 h.s (by have := h.lt; have := h.le; omega) (sz_le0 (by omega))).mono fun _ _ k => putF h k
theorem fU16 (w : World) {B g : Nat} {v : Value} {st : Option (List UInt8)} (n : Int) (hn : I64 n) (h : WrO W.RfS w B g v st) (hx : sz st ≤ 900000) : Calls Tryz.prog 179 #[.pointer (some ⟨g, 0, none⟩), .int .i64 n] w (PutR W.RfS w B g v (W.stepN st (W.low64 n) 2)) :=
  (W.ru16_st w B g v st n hn.1 hn.2 h.s (by have := h.lt; have := h.le; omega) (sz_le0 (by omega))).mono fun _ _ k => putF h k
theorem fU32 (w : World) {B g : Nat} {v : Value} {st : Option (List UInt8)} (n : Int) (hn : I64 n) (h : WrO W.RfS w B g v st) (hx : sz st ≤ 900000) : Calls Tryz.prog 178 #[.pointer (some ⟨g, 0, none⟩), .int .i64 n] w (PutR W.RfS w B g v (W.stepN st (W.low64 n) 4)) :=
  (W.ru32_st w B g v st n hn.1 hn.2 h.s (by have := h.lt; have := h.le; omega) (sz_le0 (by omega))).mono fun _ _ k => putF h k
theorem fI64 (w : World) {B g : Nat} {v : Value} {st : Option (List UInt8)} (n : Int) (h : WrO W.RfS w B g v st) (hx : sz st ≤ 900000) : Calls Tryz.prog 175 #[.pointer (some ⟨g, 0, none⟩), .int .i64 n] w (PutR W.RfS w B g v (W.stepN st (W.low64 n) 8)) :=
  (W.ri64_st w B g v st n (W.low64 n) h.s (by have := h.lt; have := h.le; omega) (sz_le0 (by omega)) (W.low64_eq n)).mono fun _ _ k => putF h k
theorem fU64 (w : World) {B g : Nat} {v : Value} {st : Option (List UInt8)} (n : Nat) (hn : n < 18446744073709551616) (h : WrO W.RfS w B g v st) (hx : sz st ≤ 900000) : Calls Tryz.prog 177 #[.pointer (some ⟨g, 0, none⟩), .int .u64 n] w (PutR W.RfS w B g v (W.stepN st n 8)) :=
  (W.ru64_st w B g v st n h.s (by have := h.lt; have := h.le; omega) (sz_le0 (by omega)) hn).mono fun _ _ k => putF h k
theorem fHash (w : World) {B g : Nat} {v : Value} {st : Option (List UInt8)} (xs : List UInt8) (hl : xs.length = 32) (h : WrO W.RfS w B g v st) (hx : sz st ≤ 900000) : Calls Tryz.prog 142 #[.pointer (some ⟨g, 0, none⟩), .agg (B8 xs)] w (PutR W.RfS w B g v (W.stepB st xs)) :=
  (W.rhash_st w B g v st xs h.s hl (by have := h.lt; have := h.le; omega) (sz_le0 (by omega))).mono fun _ _ k => putF h k
theorem fFlag (w : World) {B g : Nat} {v : Value} {st : Option (List UInt8)} (b : Bool) (h : WrO W.RfS w B g v st) (hx : sz st ≤ 900000) : Calls Tryz.prog 141 #[.pointer (some ⟨g, 0, none⟩), .bool b] w (PutR W.RfS w B g v (W.stepB st [if b then 1 else 0])) := by
  have k := W.rflag_st w B g v st (if b then 1 else 0) h.s (by have := h.lt; have := h.le; omega) (sz_le0 (by omega))
  have e1 : ((if b then (1 : Int) else 0) == 1) = b := by cases b <;> rfl
  have e2 : W.stepFlag st (if b then 1 else 0) = W.stepB st [if b then 1 else 0] := by cases b <;> rfl
  rw [e1, e2] at k
  exact k.mono fun _ _ k => putF h k
theorem fText (w : World) {B g : Nat} {v : Value} {st : Option (List UInt8)} (s : ByteArray) (hs : s.size ≤ 140737488355328) (h : WrO W.RfS w B g v st) (hx : sz st + s.size ≤ 900000) : Calls Tryz.prog 176 #[.pointer (some ⟨g, 0, none⟩), .string s] w (PutR W.RfS w B g v (W.stepText st s)) :=
  (W.rtext_st w B g v st s h.s (by have := h.lt; have := h.le; omega) (sz_le0 (by omega)) (by omega) (fun l e => by have := sz_le hx l e; omega)).mono fun _ _ k => putF h k
theorem fSpoil (w : World) {B g : Nat} {v : Value} {st : Option (List UInt8)} (h : WrO W.RfS w B g v st) : Calls Tryz.prog 213 #[.pointer (some ⟨g, 0, none⟩)] w (PutR W.RfS w B g v none) :=
  (W.rspoil_st w B g v st h.s).mono fun _ _ k => putF h k
/-- A node's bytes, put to whatever writer. -/
def ndT (st : Option (List UInt8)) (n : T.Nd) : Option (List UInt8) :=
  if n.kind = 1 then W.stepN st (W.low64 n.num) 8
  else if n.kind = 2 then W.stepText st n.txt
  else if n.kind = 3 then W.stepN st n.bits 8
  else if n.kind = 5 then W.stepN (W.stepN st (W.low64 n.num) 4) (W.low64 n.kids) 2
  else W.stepN st (W.low64 n.kids) 2
def ndS (st : Option (List UInt8)) (n : T.Nd) : Option (List UInt8) := ndT (W.stepN st (W.low64 n.kind) 1) n
def termS (st : Option (List UInt8)) (xs : List T.Nd) : Option (List UInt8) := xs.foldl ndS st
theorem sz_ndT (st : Option (List UInt8)) (n : T.Nd) : sz (ndT st n) ≤ sz st + (10 + n.txt.size) := by
  unfold ndT
  split
  · have := sz_N st (W.low64 n.num) 8; omega
  · split
    · have := sz_T st n.txt; omega
    · split
      · have := sz_N st n.bits 8; omega
      · split
        · have := sz_N st (W.low64 n.num) 4
          have := sz_N (W.stepN st (W.low64 n.num) 4) (W.low64 n.kids) 2
          omega
        · have := sz_N st (W.low64 n.kids) 2; omega
theorem sz_nd (st : Option (List UInt8)) (n : T.Nd) : sz (ndS st n) ≤ sz st + (11 + n.txt.size) := by
  have h0 := sz_N st (W.low64 n.kind) 1
  have h1 := sz_ndT (W.stepN st (W.low64 n.kind) 1) n
  unfold ndS
  omega
theorem sz_nd16 (st : Option (List UInt8)) (n : T.Nd) : sz (ndS st n) ≤ sz st + 26 * (1 + n.txt.size / 16) := by have := sz_nd st n; omega
theorem sz_term : ∀ (xs : List T.Nd) (st : Option (List UInt8)), sz (termS st xs) ≤ sz st + 26 * T.cost xs
  | [], st => by simp [termS, T.cost]
  | x :: xs, st => by
    have h1 := sz_term xs (ndS st x)
    have h2 := sz_nd16 st x
    simp only [T.cost]
    show sz (termS (ndS st x) xs) ≤ _
    omega
theorem termS_take {xs : List T.Nd} {k : Nat} (h : k < xs.length) (st : Option (List UInt8)) : termS st (xs.take (k + 1)) = ndS (termS st (xs.take k)) xs[k] := by
  unfold termS
  rw [List.take_succ_eq_append_getElem h, List.foldl_append]
  rfl
/-- The numbers of a node are numbers of Go. -/
structure NdIn (x : T.Nd) : Prop where
  kind : I64 x.kind
  num : I64 x.num
  bits : x.bits < 18446744073709551616
  txt : x.txt.size ≤ 140737488355328
  kids : I64 x.kids
end Go.Proofs.YtilbbemdinpjcaaGreat.P
namespace Go.Proofs.YtilbbemdinpjcaaGreat.P
set_option maxRecDepth 100000
open Go.RowKit

def asS (st : Option (List UInt8)) (a : As) : Option (List UInt8) := W.stepN (W.stepText (W.stepB st a.nm.1) (txt a.nm.2)) (W.low64 a.amt) 8
def asListS (st : Option (List UInt8)) (l : List As) : Option (List UInt8) := l.foldl asS (W.stepN st (W.low64 l.length) 2)
def valS (st : Option (List UInt8)) (v : Va) : Option (List UInt8) := asListS (W.stepN st (W.low64 v.coin) 8) v.l
def toS (st : Option (List UInt8)) (a : To) : Option (List UInt8) := W.stepN (W.stepN (W.stepText (W.stepB st a.nm.1) (txt a.nm.2)) (W.low64 (hiS a.w)) 8) (loN a.w) 8
def totS (st : Option (List UInt8)) (l : List To) : Option (List UInt8) := l.foldl toS (W.stepN st (W.low64 l.length) 4)
def outS (st : Option (List UInt8)) (o : Ot) : Option (List UInt8) :=
  if o.kind = 1 then W.stepB (W.stepN (valS (W.stepB (W.stepB st [if o.prog then 1 else 0]) o.ah) o.v) (W.low64 o.kind) 1) o.dh
  else if o.kind = 2 then termS (W.stepN (valS (W.stepB (W.stepB st [if o.prog then 1 else 0]) o.ah) o.v) (W.low64 o.kind) 1) o.ns
  else W.stepN (valS (W.stepB (W.stepB st [if o.prog then 1 else 0]) o.ah) o.v) (W.low64 o.kind) 1
def refS (st : Option (List UInt8)) (r : Rf) : Option (List UInt8) := W.stepN (W.stepB st r.tx) (W.low64 r.place) 2
def enS (st : Option (List UInt8)) (e : En) : Option (List UInt8) := outS (refS st e.r) e.o
def ensS (st : Option (List UInt8)) (es : List En) : Option (List UInt8) := es.foldl enS (W.stepN st (W.low64 es.length) 4)
theorem foldl_take {α β : Type} (f : β → α → β) (b : β) (l : List α) (k : Nat) (x : α) (h : l[k]? = some x) : (l.take (k + 1)).foldl f b = f ((l.take k).foldl f b) x := by
  obtain ⟨hk, rfl⟩ := List.getElem?_eq_some_iff.1 h
  rw [List.take_succ_eq_append_getElem hk, List.foldl_append]
  rfl
theorem sz_as (st : Option (List UInt8)) (a : As) (h : a.nm.1.length = 32) : sz (asS st a) ≤ sz st + 57 * (1 + a.nm.2.length / 16) := by
  have h1 := sz_B st a.nm.1
  have h2 := sz_T (W.stepB st a.nm.1) (txt a.nm.2)
  have h3 := sz_N (W.stepText (W.stepB st a.nm.1) (txt a.nm.2)) (W.low64 a.amt) 8
  rw [txt_size] at h2
  unfold asS
  omega
theorem sz_asF : ∀ (l : List As) (st : Option (List UInt8)), (∀ a ∈ l, a.nm.1.length = 32) → sz (l.foldl asS st) ≤ sz st + 57 * cntA l
  | [], st, _ => by simp [cntA]
  | x :: xs, st, h => by
    have h1 := sz_asF xs (asS st x) (fun a ha => h a (List.mem_cons_of_mem _ ha))
    have h2 := sz_as st x (h x List.mem_cons_self)
    have e : cntA (x :: xs) = (1 + x.nm.2.length / 16) + cntA xs := by simp [cntA]
    rw [e]
    show sz (xs.foldl asS (asS st x)) ≤ _
    omega
theorem sz_asL (l : List As) (st : Option (List UInt8)) (h : ∀ a ∈ l, a.nm.1.length = 32) : sz (asListS st l) ≤ sz st + (2 + 57 * cntA l) := by
  have h1 := sz_asF l (W.stepN st (W.low64 l.length) 2) h
  have h2 := sz_N st (W.low64 l.length) 2
  unfold asListS
  omega
theorem sz_val (v : Va) (st : Option (List UInt8)) (h : ∀ a ∈ v.l, a.nm.1.length = 32) : sz (valS st v) ≤ sz st + 57 * cntV v := by
  have h1 := sz_asL v.l (W.stepN st (W.low64 v.coin) 8) h
  have h2 := sz_N st (W.low64 v.coin) 8
  unfold valS cntV
  omega
theorem sz_to (st : Option (List UInt8)) (a : To) (h : a.nm.1.length = 32) : sz (toS st a) ≤ sz st + 65 * (1 + a.nm.2.length / 16) := by
  have h1 := sz_B st a.nm.1
  have h2 := sz_T (W.stepB st a.nm.1) (txt a.nm.2)
  have h3 := sz_N (W.stepText (W.stepB st a.nm.1) (txt a.nm.2)) (W.low64 (hiS a.w)) 8
  have h4 := sz_N (W.stepN (W.stepText (W.stepB st a.nm.1) (txt a.nm.2)) (W.low64 (hiS a.w)) 8) (loN a.w) 8
  rw [txt_size] at h2
  unfold toS
  omega
theorem sz_toF : ∀ (l : List To) (st : Option (List UInt8)), (∀ a ∈ l, a.nm.1.length = 32) → sz (l.foldl toS st) ≤ sz st + 65 * cntT l
  | [], st, _ => by simp [cntT]
  | x :: xs, st, h => by
    have h1 := sz_toF xs (toS st x) (fun a ha => h a (List.mem_cons_of_mem _ ha))
    have h2 := sz_to st x (h x List.mem_cons_self)
    have e : cntT (x :: xs) = (1 + x.nm.2.length / 16) + cntT xs := by simp [cntT]
    rw [e]
    show sz (xs.foldl toS (toS st x)) ≤ _
    omega
theorem sz_tot (l : List To) (st : Option (List UInt8)) (h : ∀ a ∈ l, a.nm.1.length = 32) : sz (totS st l) ≤ sz st + (4 + 65 * cntT l) := by
  have h1 := sz_toF l (W.stepN st (W.low64 l.length) 4) h
  have h2 := sz_N st (W.low64 l.length) 4
  unfold totS
  omega
theorem sz_ref (st : Option (List UInt8)) (r : Rf) (h : r.tx.length = 32) : sz (refS st r) ≤ sz st + 34 := by
  have h1 := sz_B st r.tx
  have h2 := sz_N (W.stepB st r.tx) (W.low64 r.place) 2
  unfold refS
  omega
theorem sz_outH (st : Option (List UInt8)) (o : Ot) (h1 : o.ah.length = 32) (h3 : ∀ a ∈ o.v.l, a.nm.1.length = 32) :
    sz (W.stepN (valS (W.stepB (W.stepB st [if o.prog then 1 else 0]) o.ah) o.v) (W.low64 o.kind) 1) ≤ sz st + (34 + 57 * cntV o.v) := by
  have k1 := sz_B st [if o.prog then 1 else 0]
  have k2 := sz_B (W.stepB st [if o.prog then 1 else 0]) o.ah
  have k3 := sz_val o.v (W.stepB (W.stepB st [if o.prog then 1 else 0]) o.ah) h3
  have k4 := sz_N (valS (W.stepB (W.stepB st [if o.prog then 1 else 0]) o.ah) o.v) (W.low64 o.kind) 1
  rw [List.length_singleton] at k1
  omega
theorem sz_out (st : Option (List UInt8)) (o : Ot) (h1 : o.ah.length = 32) (h2 : o.dh.length = 32) (h3 : ∀ a ∈ o.v.l, a.nm.1.length = 32) : sz (outS st o) ≤ sz st + 123 * cntO o := by
  have k := sz_outH st o h1 h3
  have hc : 1 ≤ cntV o.v := by unfold cntV; omega
  have hO : cntO o = cntV o.v + T.cost o.ns := rfl
  unfold outS
  split
  · have := sz_B (W.stepN (valS (W.stepB (W.stepB st [if o.prog then 1 else 0]) o.ah) o.v) (W.low64 o.kind) 1) o.dh; omega
  · split
    · have := sz_term o.ns (W.stepN (valS (W.stepB (W.stepB st [if o.prog then 1 else 0]) o.ah) o.v) (W.low64 o.kind) 1); omega
    · omega
theorem sz_en (st : Option (List UInt8)) (e : En) (h0 : e.r.tx.length = 32) (h1 : e.o.ah.length = 32) (h2 : e.o.dh.length = 32) (h3 : ∀ a ∈ e.o.v.l, a.nm.1.length = 32) : sz (enS st e) ≤ sz st + 123 * (1 + cntO e.o) := by
  have k1 := sz_ref st e.r h0
  have k2 := sz_out (refS st e.r) e.o h1 h2 h3
  unfold enS
  omega
/-- The hashes of an entry are hashes. -/
structure EnH (e : En) : Prop where
  tx : e.r.tx.length = 32
  ah : e.o.ah.length = 32
  dh : e.o.dh.length = 32
  pol : ∀ a ∈ e.o.v.l, a.nm.1.length = 32
theorem sz_enF : ∀ (l : List En) (st : Option (List UInt8)), (∀ a ∈ l, EnH a) → sz (l.foldl enS st) ≤ sz st + 123 * cntE l
  | [], st, _ => by simp [cntE]
  | x :: xs, st, h => by
    have h1 := sz_enF xs (enS st x) (fun a ha => h a (List.mem_cons_of_mem _ ha))
    have hx := h x List.mem_cons_self
    have h2 := sz_en st x hx.tx hx.ah hx.dh hx.pol
    have e : cntE (x :: xs) = (1 + cntO x.o) + cntE xs := by simp [cntE]
    rw [e]
    show sz (xs.foldl enS (enS st x)) ≤ _
    omega
theorem sz_ens (l : List En) (st : Option (List UInt8)) (h : ∀ a ∈ l, EnH a) : sz (ensS st l) ≤ sz st + (4 + 123 * cntE l) := by
  have h1 := sz_enF l (W.stepN st (W.low64 l.length) 4) h
  have h2 := sz_N st (W.low64 l.length) 4
  unfold ensS
  omega
end Go.Proofs.YtilbbemdinpjcaaGreat.P
namespace Go.Proofs.YtilbbemdinpjcaaGreat.P
set_option maxRecDepth 100000
open Go.RowKit

theorem cl1_any (w : World) {B g : Nat} {v : Value} {st : Option (List UInt8)} (p : Nat) (n : T.Nd) (hp : w.cell? ⟨p, 0, none⟩ = some (.pointer (some ⟨g, 0, none⟩))) (hl : p < w.heap.size) (h : WrO W.WSt w B g v st) (hx : sz st ≤ 900000) :
    Calls Tryz.prog 245 #[.agg n.cells, .pointer (some ⟨p, 0, none⟩)] w (PutR W.WSt w B g v (W.stepN st (W.low64 n.kids) 2)) := by
  obtain ⟨k1, n1, b1, t1, d1⟩ := n
  have hA := Lies.new w #[.int .i64 k1, .int .i64 n1, .int .u64 b1, .string t1, .int .i64 d1] 72
  have hb : Below w.heap.size w (w.alloc (.cells #[.int .i64 k1, .int .i64 n1, .int .u64 b1, .string t1, .int .i64 d1] 72)) := (Below.refl _ _).alloc (Nat.le_refl _) _
  have H := Lib.hid (And.intro h (And.intro hp (And.intro hl hx)))
  clear h hp hl hx
  unfold T.Nd.cells
  go_enter Tryz.func245, Tryz.ntmps245
  go_upto_region 1 with fail
  generalize w.alloc (.cells #[.int .i64 k1, .int .i64 n1, .int .u64 b1, .string t1, .int .i64 d1] 72) = W0 at hA hb ⊢
  have c4 := hA.cell 4 (v := .int .i64 d1) rfl
  have cp := (hb.cell (p := ⟨p, 0, none⟩) H.out.2.2.1).trans H.out.2.1
  have HC := Lib.hid (wU16 W0 d1 (H.out.1.belowW hb) H.out.2.2.2)
  have HB := Lib.hid hb
  clear hA hb
  go_wp2_with fail
  refine HC.out.mono ?_
  rintro e w1 hr
  obtain ⟨rfl, hr⟩ := hr
  have HR := Lib.hid hr
  clear hr c4 cp HC
  go_wp2_with fail
  go_end0
  exact PutR.after HB.out ⟨rfl, HR.out⟩
theorem cl2_any (w : World) {B g : Nat} {v : Value} {st : Option (List UInt8)} (p : Nat) (n : T.Nd) (hp : w.cell? ⟨p, 0, none⟩ = some (.pointer (some ⟨g, 0, none⟩))) (hl : p < w.heap.size) (h : WrO W.WSt w B g v st) (hx : sz st ≤ 900000) :
    Calls Tryz.prog 246 #[.agg n.cells, .pointer (some ⟨p, 0, none⟩)] w (PutR W.WSt w B g v (W.stepN st (W.low64 n.num) 8)) := by
  obtain ⟨k1, n1, b1, t1, d1⟩ := n
  have hA := Lies.new w #[.int .i64 k1, .int .i64 n1, .int .u64 b1, .string t1, .int .i64 d1] 72
  have hb : Below w.heap.size w (w.alloc (.cells #[.int .i64 k1, .int .i64 n1, .int .u64 b1, .string t1, .int .i64 d1] 72)) := (Below.refl _ _).alloc (Nat.le_refl _) _
  have H := Lib.hid (And.intro h (And.intro hp (And.intro hl hx)))
  clear h hp hl hx
  unfold T.Nd.cells
  go_enter Tryz.func246, Tryz.ntmps246
  go_upto_region 1 with fail
  generalize w.alloc (.cells #[.int .i64 k1, .int .i64 n1, .int .u64 b1, .string t1, .int .i64 d1] 72) = W0 at hA hb ⊢
  have c4 := hA.cell 1 (v := .int .i64 n1) rfl
  have cp := (hb.cell (p := ⟨p, 0, none⟩) H.out.2.2.1).trans H.out.2.1
  have HC := Lib.hid (wI64 W0 n1 (H.out.1.belowW hb) H.out.2.2.2)
  have HB := Lib.hid hb
  clear hA hb
  go_wp2_with fail
  refine HC.out.mono ?_
  rintro e w1 hr
  obtain ⟨rfl, hr⟩ := hr
  have HR := Lib.hid hr
  clear hr c4 cp HC
  go_wp2_with fail
  go_end0
  exact PutR.after HB.out ⟨rfl, HR.out⟩
theorem cl3_any (w : World) {B g : Nat} {v : Value} {st : Option (List UInt8)} (p : Nat) (n : T.Nd) (hp : w.cell? ⟨p, 0, none⟩ = some (.pointer (some ⟨g, 0, none⟩))) (hl : p < w.heap.size) (hn : n.txt.size ≤ 140737488355328) (h : WrO W.WSt w B g v st) (hx : sz st ≤ 900000) :
    Calls Tryz.prog 247 #[.agg n.cells, .pointer (some ⟨p, 0, none⟩)] w (PutR W.WSt w B g v (W.stepText st n.txt)) := by
  obtain ⟨k1, n1, b1, t1, d1⟩ := n
  have hA := Lies.new w #[.int .i64 k1, .int .i64 n1, .int .u64 b1, .string t1, .int .i64 d1] 72
  have hb : Below w.heap.size w (w.alloc (.cells #[.int .i64 k1, .int .i64 n1, .int .u64 b1, .string t1, .int .i64 d1] 72)) := (Below.refl _ _).alloc (Nat.le_refl _) _
  have H := Lib.hid (And.intro h (And.intro hp (And.intro hl (And.intro hx hn))))
  clear h hp hl hx hn
  unfold T.Nd.cells
  go_enter Tryz.func247, Tryz.ntmps247
  go_upto_region 1 with fail
  generalize w.alloc (.cells #[.int .i64 k1, .int .i64 n1, .int .u64 b1, .string t1, .int .i64 d1] 72) = W0 at hA hb ⊢
  have c4 := hA.cell 3 (v := .string t1) rfl
  have cp := (hb.cell (p := ⟨p, 0, none⟩) H.out.2.2.1).trans H.out.2.1
  have HC := Lib.hid (wText W0 t1 H.out.2.2.2.2 (H.out.1.belowW hb) H.out.2.2.2.1)
  have HB := Lib.hid hb
  clear hA hb
  go_wp2_with fail
  refine HC.out.mono ?_
  rintro e w1 hr
  obtain ⟨rfl, hr⟩ := hr
  have HR := Lib.hid hr
  clear hr c4 cp HC
  go_wp2_with fail
  go_end0
  exact PutR.after HB.out ⟨rfl, HR.out⟩
theorem cl4_any (w : World) {B g : Nat} {v : Value} {st : Option (List UInt8)} (p : Nat) (n : T.Nd) (hp : w.cell? ⟨p, 0, none⟩ = some (.pointer (some ⟨g, 0, none⟩))) (hl : p < w.heap.size) (hn : n.bits < 18446744073709551616) (h : WrO W.WSt w B g v st) (hx : sz st ≤ 900000) :
    Calls Tryz.prog 248 #[.agg n.cells, .pointer (some ⟨p, 0, none⟩)] w (PutR W.WSt w B g v (W.stepN st n.bits 8)) := by
  obtain ⟨k1, n1, b1, t1, d1⟩ := n
  have hA := Lies.new w #[.int .i64 k1, .int .i64 n1, .int .u64 b1, .string t1, .int .i64 d1] 72
  have hb : Below w.heap.size w (w.alloc (.cells #[.int .i64 k1, .int .i64 n1, .int .u64 b1, .string t1, .int .i64 d1] 72)) := (Below.refl _ _).alloc (Nat.le_refl _) _
  have H := Lib.hid (And.intro h (And.intro hp (And.intro hl (And.intro hx hn))))
  clear h hp hl hx hn
  unfold T.Nd.cells
  go_enter Tryz.func248, Tryz.ntmps248
  go_upto_region 1 with fail
  generalize w.alloc (.cells #[.int .i64 k1, .int .i64 n1, .int .u64 b1, .string t1, .int .i64 d1] 72) = W0 at hA hb ⊢
  have c4 := hA.cell 2 (v := .int .u64 b1) rfl
  have cp := (hb.cell (p := ⟨p, 0, none⟩) H.out.2.2.1).trans H.out.2.1
  have HC := Lib.hid (wU64 W0 b1 H.out.2.2.2.2 (H.out.1.belowW hb) H.out.2.2.2.1)
  have HB := Lib.hid hb
  clear hA hb
  go_wp2_with fail
  refine HC.out.mono ?_
  rintro e w1 hr
  obtain ⟨rfl, hr⟩ := hr
  have HR := Lib.hid hr
  clear hr c4 cp HC
  go_wp2_with fail
  go_end0
  exact PutR.after HB.out ⟨rfl, HR.out⟩
theorem cl5_any (w : World) {B g : Nat} {v : Value} {st : Option (List UInt8)} (p : Nat) (n : T.Nd) (hp : w.cell? ⟨p, 0, none⟩ = some (.pointer (some ⟨g, 0, none⟩))) (hl : Off w g v p) (h : WrO W.WSt w B g v st) (hx : sz st ≤ 800000) :
    Calls Tryz.prog 249 #[.agg n.cells, .pointer (some ⟨p, 0, none⟩)] w (PutR W.WSt w B g v (W.stepN (W.stepN st (W.low64 n.num) 4) (W.low64 n.kids) 2)) := by
  obtain ⟨k1, n1, b1, t1, d1⟩ := n
  have hA := Lies.new w #[.int .i64 k1, .int .i64 n1, .int .u64 b1, .string t1, .int .i64 d1] 72
  have hb : Below w.heap.size w (w.alloc (.cells #[.int .i64 k1, .int .i64 n1, .int .u64 b1, .string t1, .int .i64 d1] 72)) := (Below.refl _ _).alloc (Nat.le_refl _) _
  have H := Lib.hid (And.intro h (And.intro hp (And.intro hl hx)))
  have HQ := Lib.hid (h.off (w' := w.alloc (.cells #[.int .i64 k1, .int .i64 n1, .int .u64 b1, .string t1, .int .i64 d1] 72)) (Nat.le_refl _) (by simp))
  clear h hp hl hx
  unfold T.Nd.cells
  go_enter Tryz.func249, Tryz.ntmps249
  go_upto_region 1 with fail
  generalize w.alloc (.cells #[.int .i64 k1, .int .i64 n1, .int .u64 b1, .string t1, .int .i64 d1] 72) = W0 at hA hb HQ ⊢
  have c1 := hA.cell 1 (v := .int .i64 n1) rfl
  have c4 := hA.cell 4 (v := .int .i64 d1) rfl
  have cp := (hb.cell (p := ⟨p, 0, none⟩) H.out.2.2.1.lt).trans H.out.2.1
  have hw0 := H.out.1.belowW hb
  have HC := Lib.hid (wU32 W0 n1 hw0 (by have := H.out.2.2.2; omega))
  have HB := Lib.hid hb
  have HP := Lib.hid (H.out.2.2.1.on (Lk.of_below hb))
  clear hA hb
  go_wp2_with fail
  refine HC.out.mono ?_
  rintro e w1 hr
  obtain ⟨rfl, v1, hw1, hk1⟩ := hr
  have d4 := (hk1.cell (o := 4) HQ.out.lt HQ.out.ne HQ.out.own).trans c4
  have dp := (hk1.cell (o := 0) HP.out.lt HP.out.ne HP.out.own).trans cp
  have HC2 := Lib.hid (wU16 w1 d1 hw1 (by have := H.out.2.2.2; have := sz_N st (W.low64 n1) 4; omega))
  have HR := Lib.hid hk1
  clear hw1 hk1 c1 c4 cp HC
  go_wp2_with fail
  refine HC2.out.mono ?_
  rintro e w2 hr
  obtain ⟨rfl, hr⟩ := hr
  have HR2 := Lib.hid hr
  clear hr d4 dp HC2
  go_wp2_with fail
  go_end0
  exact PutR.after HB.out (PutR.on HR.out ⟨rfl, HR2.out⟩)

theorem uMapP : Tryz.prog.underlying 247 = some (.map 67 249) := by kernel_rfl
theorem run_insertP (w : World) (es : Array MapEntry) (clock : Nat) (key : Int) (v : Value) (h : Instr.findNow (.int .i64) (.int .i64 key) es.toList 0 = some none) :
    (Instr.mapUpdate 247 (.map (some w.heap.size)) (.int .i64 key) v).run Tryz.prog (w.alloc (.map es clock)) = .ok () (w.alloc (.map (es.push ⟨.int .i64 key, v, clock⟩) (clock + 1))) := by
  have hb : (w.alloc (.map es clock)).heap[w.heap.size]? = some (.map es clock) := (MapKept.heap_alloc w _).1
  have hk := MapKept.run_checkKey (P := Tryz.prog) (w := w.alloc (.map es clock)) (k := .int .i64 key) T.u29 (by simp [MapKept.IsKey]) false 9999
  simp [Instr.mapUpdate, run_underlying uMapP, MapKept.run_getObj_map hb, hk, MapKept.run_findKey T.u29 h, MapKept.run_setObj_map _ hb, Result.andThen]
  simp [World.alloc, -World.alloc_eq, T.push_set]
theorem run_foundP (w : World) (b : Nat) (es : Array MapEntry) (clock : Nat) (key : Int) (i : Nat) (v : Value) (hb : w.heap[b]? = some (.map es clock)) (h : Instr.findNow (.int .i64) (.int .i64 key) es.toList 0 = some (some (i, v))) :
    (Instr.lookup 247 (.map (some b)) (.int .i64 key) false).run Tryz.prog w = .ok v w := by
  have hk := MapKept.run_checkKey (P := Tryz.prog) (w := w) (k := .int .i64 key) T.u29 (by simp [MapKept.IsKey]) es.isEmpty 9999
  simp [Instr.lookup, run_underlying uMapP, MapKept.run_getObj_map hb, hk, MapKept.run_findKey T.u29 h, Result.andThen]
def entP (k : Int) (f : Nat) (a : Nat) (born : Nat) : MapEntry := ⟨.int .i64 k, .func (Fn.func f) #[] #[.pointer (some ⟨a, 0, none⟩)], born⟩
/-- The putter's map of kinds; p: the putter's box. -/
def kindsP (p : Nat) : Array MapEntry := #[entP 1 246 p 0, entP 2 247 p 1, entP 3 248 p 2, entP 4 245 p 3, entP 5 249 p 4, entP 6 245 p 5]
set_option maxHeartbeats 1000000 in
theorem kindsP_any (w : World) (g : Nat) :
    Calls Tryz.prog 195 #[.agg #[.pointer (some ⟨g, 0, none⟩)]] w fun e w' => e = .returned (.map (some (w.heap.size + 1))) ∧ w'.cell? ⟨w.heap.size, 0, none⟩ = some (.pointer (some ⟨g, 0, none⟩)) ∧ w'.heap[w.heap.size + 1]? = some (.map (kindsP w.heap.size) 6) ∧ Below w.heap.size w w' ∧ w'.heap.size = w.heap.size + 2 := by
  have hmf : ∀ (fn : Fn) (first cap : Array Value) (w : World), (Instr.makeFunc fn first cap).run Tryz.prog w = .ok (.func fn first cap) w := fun _ _ _ _ => rfl
  have hmm := @run_makeMap Tryz.prog
  have k1 := fun (W : World) (v1 : Value) => run_insertP W #[] 0 1 v1 rfl
  have k2 := fun (W : World) (v1 v2 : Value) => run_insertP W #[⟨.int .i64 1, v1, 0⟩] 1 2 v2 rfl
  have k3 := fun (W : World) (v1 v2 v3 : Value) => run_insertP W #[⟨.int .i64 1, v1, 0⟩, ⟨.int .i64 2, v2, 1⟩] 2 3 v3 rfl
  have k4 := fun (W : World) (v1 v2 v3 v4 : Value) => run_insertP W #[⟨.int .i64 1, v1, 0⟩, ⟨.int .i64 2, v2, 1⟩, ⟨.int .i64 3, v3, 2⟩] 3 4 v4 rfl
  have k5 := fun (W : World) (v1 v2 v3 v4 v5 : Value) => run_insertP W #[⟨.int .i64 1, v1, 0⟩, ⟨.int .i64 2, v2, 1⟩, ⟨.int .i64 3, v3, 2⟩, ⟨.int .i64 4, v4, 3⟩] 4 5 v5 rfl
  have k6 := fun (W : World) (v1 v2 v3 v4 v5 v6 : Value) => run_insertP W #[⟨.int .i64 1, v1, 0⟩, ⟨.int .i64 2, v2, 1⟩, ⟨.int .i64 3, v3, 2⟩, ⟨.int .i64 4, v4, 3⟩, ⟨.int .i64 5, v5, 4⟩] 5 6 v6 rfl
  simp only [List.push_toArray, List.cons_append, List.nil_append, Nat.reduceAdd] at k1 k2 k3 k4 k5 k6
  have hA := Lies.new w #[.pointer (some ⟨g, 0, none⟩)] 170
  have hb0 : Below w.heap.size w (w.alloc (.cells #[.pointer (some ⟨g, 0, none⟩)] 170)) := (Below.refl _ _).alloc (Nat.le_refl _) _
  have hz : (w.alloc (.cells #[.pointer (some ⟨g, 0, none⟩)] 170)).heap.size = w.heap.size + 1 := by simp
  go_enter Tryz.func195, Tryz.ntmps195
  go_upto_region 1 with fail
  generalize w.alloc (.cells #[.pointer (some ⟨g, 0, none⟩)] 170) = W0 at *
  have H := Lib.hid (And.intro hA (And.intro hb0 hz))
  clear hA hb0 hz
  go_wp2_with fail
  go_ret
  refine ⟨by rw [H.out.2.2]; rfl, (H.out.1.alloc _).cell 0 rfl, ?_, H.out.2.1.alloc H.out.2.1.size _, by simp [H.out.2.2]⟩
  rw [← H.out.2.2]
  exact (MapKept.heap_alloc _ _).1
end Go.Proofs.YtilbbemdinpjcaaGreat.P
