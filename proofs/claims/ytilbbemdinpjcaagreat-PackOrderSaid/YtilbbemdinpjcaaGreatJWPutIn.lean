/-
  What a Put is, as it comes in.
-/
import Derived.Test.YtilbbemdinpjcaaGreatJWRef3
import Derived.Lib.ConvBytes
import Derived.Test.YtilbbemdinpjcaaGreatJWPutSt
import Derived.Laws.Tables
import Derived.Deep.CutRange
import Derived.WalkKit
import Derived.ProofKit
import Derived.OpenShut
import Derived.Carry
namespace Go.Proofs.YtilbbemdinpjcaaGreat.W
open Go.RowKit

theorem str_len (s : ByteArray) : s.data.toList.length = s.size := Array.length_toList
theorem bytesWorld_below (w : World) (s : ByteArray) : Below w.heap.size w (Lib.bytesWorld w 5 s) :=
  ⟨rfl, rfl, rfl, by rw [Lib.bytesWorld_size]; omega, fun k hk => Lib.bytesWorld_at_old w 5 s k hk⟩
theorem bytesWorld_src (w : World) (s : ByteArray) : Src (Lib.bytesWorld w 5 s) w.heap.size 0 s.data.toList := fun j hj => by
  have := Lib.bytesWorld_cell w 5 s j (by rw [← str_len]; exact hj)
  rwa [Nat.zero_add]
theorem stepText_ref (st : Option (List UInt8)) (s : ByteArray) (hs2 : s.size < 9223372036854775808) : stepText st s = stepB (stepN st (low64 s.size) 2) s.data.toList := by
  have hl : low64 s.size = s.size := by have := low64_fit s.size (by omega) (by omega); omega
  by_cases h : s.size < 65536
  · rw [stepText, if_pos h, stepN_fit2 st s.size (by omega) (by omega), hl]
    cases st with
    | none => rfl
    | some l => simp [stepB]
  · rw [stepText, if_neg h, stepN_not2 st s.size (by omega) (by omega) (by omega)]
    rfl
set_option maxRecDepth 100000 in
theorem rtext_st (w : World) (B g : Nat) (v : Value) (st : Option (List UInt8)) (s : ByteArray) (h : RfS w B g v st) (hB : B ≤ w.heap.size) (hx : ∀ l, st = some l → l.length ≤ 900000) (hs2 : s.size < 9223372036854775808) (hs3 : ∀ l, st = some l → l.length + s.size ≤ 1000000) :
    Calls Tryz.prog 176 #[.pointer (some ⟨g, 0, none⟩), .string s] w fun e w' => e = .returned (.tuple #[]) ∧ RMoreO w B g v (stepText st s) w' := by
  rw [stepText_ref st s hs2]
  have hu := ru16_st w B g v st s.size (by omega) (by omega) h hB (fun l e => by have := hx l e; omega)
  have hx3 : ∀ l, stepN st (low64 s.size) 2 = some l → l.length + s.data.toList.length ≤ 2000000 := by
    intro l e
    have hsz := str_len s
    cases st with
    | none => cases e
    | some l0 =>
      simp only [stepN, Option.bind_some] at e
      split at e
      · cases e
        have := hs3 l0 rfl
        rw [List.length_append, beN_length]; omega
      · cases e
  have HU := Lib.hid hu
  have HX := Lib.hid hx3
  clear hu h hx hx3 hs3
  go_enter Tryz.func176, Tryz.ntmps176
  go_wp2_with fail
  refine HU.out.mono ?_
  rintro e w1 ⟨rfl, v1, hw1, ho1, ha1⟩
  have hB1 : B ≤ w1.heap.size := Nat.le_trans hB ho1.size
  have hb := bytesWorld_below w1 s
  have he := fun c => rraw_in (Lib.bytesWorld w1 5 s) B g v1 (.slice (some ⟨w1.heap.size, 0, none⟩) s.data.toList.length c) _ s.data.toList (hw1.below hb) (.inr ⟨_, c, rfl, src_news (bytesWorld_src w1 s)⟩) (Nat.le_trans hB1 hb.size) HX.out
  rw [str_len] at he
  have hcv := Lib.run_convert_string_bytes (P := Tryz.prog) w1 9 54 5 s Tryz.underlying9 Tryz.underlying54 Tryz.underlying5
  have HE := Lib.hid he
  have HO := Lib.hid (And.intro ho1 (And.intro ha1 hb))
  clear he hb hw1 ho1 ha1 HU
  go_wp2_with fail
  refine (HE.out _).mono ?_
  rintro e w2 ⟨rfl, hm⟩
  have HM := Lib.hid hm
  clear hm HE hcv
  go_wp2_with fail
  go_end0
  exact ⟨rfl, RMoreO.trans HO.out.1 HO.out.2.1 (HM.out.after HO.out.2.2)⟩
end Go.Proofs.YtilbbemdinpjcaaGreat.W
namespace Go.Proofs.YtilbbemdinpjcaaGreat.W
open Go.RowKit

theorem str_of_src {W : World} {k off c : Nat} {l : List UInt8} (h : Src W k off l) : (convert 54 9 (.slice (some ⟨k, off, none⟩) l.length c)).run Tryz.prog W = .ok (.string ⟨l.toArray⟩) W :=
  run_convert_bytes_back W 54 9 5 ⟨k, off, none⟩ c l Tryz.underlying54 Tryz.underlying5 Tryz.underlying9 (fun j hj => by
    rw [Addr.add_mid, h j hj]
    simp [hj])
theorem str_none (w : World) (k off c : Nat) : (convert 54 9 (.slice (some ⟨k, off, none⟩) 0 c)).run Tryz.prog w = .ok (.string ⟨#[]⟩) w :=
  str_of_src (l := []) (fun j hj => absurd hj (by simp))
set_option maxRecDepth 100000 in
theorem text1_some (W : World) (p q g k : Nat) (xs : List UInt8) (c a : Nat) (m : Int) (n : Nat) (ys : List UInt8) (hp : W.cell? ⟨p, 0, none⟩ = some (.pointer (some ⟨g, 0, none⟩))) (hq : W.cell? ⟨q, 0, none⟩ = some (.int .i64 m)) (hpl : p < W.heap.size) (hql : q < W.heap.size) (hpg : p ≠ g) (hqg : q ≠ g) (h : Rdr W g k xs c a false)
    (hn : a + 2 + n ≤ xs.length) (h0 : 0 < n) (hv : beVal ((xs.drop a).take 2) = n) (hm : (n : Int) ≤ m) (hys : (xs.drop (a + 2)).take n = ys) :
    Calls Tryz.prog 282 #[.pointer (some ⟨p, 0, none⟩), .pointer (some ⟨q, 0, none⟩)] W fun e W' => e = .returned (.string ⟨ys.toArray⟩) ∧ Rdr W' g k xs c (a + 2 + n) false ∧ Only g W W' none := by
  have hyl : ys.length = n := by rw [← hys, List.length_take, List.length_drop]; omega
  have hu : ∀ V, Rdr V g k xs c a false → Calls Tryz.prog 269 #[.pointer (some ⟨g, 0, none⟩), .int .i64 m, .int .i64 2] V fun e V' => e = .returned (.int .i64 n) ∧ Rdr V' g k xs c (a + 2) false ∧ Only g V V' none := fun V hV => by
    have := upto_good V g k xs c a hV m 2 (by omega) (by omega) (by rw [hv]; exact hm)
    rwa [hv] at this
  have hx : ∀ V, Rdr V g k xs c (a + 2) false → Calls Tryz.prog 276 #[.pointer (some ⟨g, 0, none⟩), .int .i64 n] V fun e V' => e = .returned (.slice (some ⟨k, a + 2, none⟩) n (c - (a + 2))) ∧ Rdr V' g k xs c (a + 2 + n) false ∧ Only g V V' none := fun V hV => next_at V g k xs c (a + 2) hV n hn h0
  have hts : ∀ V, V.cell? ⟨p, 0, none⟩ = some (.pointer (some ⟨g, 0, none⟩)) → V.cell? ⟨q, 0, none⟩ = some (.int .i64 m) → Src V k 0 xs →
      V.cell? ⟨p, 0, none⟩ = some (.pointer (some ⟨g, 0, none⟩)) ∧ V.cell? ⟨q, 0, none⟩ = some (.int .i64 m) ∧ (convert 54 9 (.slice (some ⟨k, a + 2, none⟩) n (c - (a + 2)))).run Tryz.prog V = .ok (.string ⟨ys.toArray⟩) V := fun V h1 h2 hs => ⟨h1, h2, by
    have := str_of_src (c := c - (a + 2)) (part_src hs (a + 2) n)
    rwa [hys, hyl] at this⟩
  have HU := Lib.hid hu
  have HX := Lib.hid hx
  have HT := Lib.hid hts
  have hbd : Below W.heap.size W W.drew := (Below.refl _ _).drew
  have hd := h.below hbd
  have HBD := Lib.hid hbd
  have HR := Lib.hid hd
  have hsw : Src W k 0 xs := h.2.1
  clear hu hx hts hv hm hys hyl hd hbd h
  go_enter Tryz.func282, Tryz.ntmps282
  go_wp2_with fail
  go_region_held3 (fun w' => w'.cell? ⟨p, 0, none⟩ = some (.pointer (some ⟨g, 0, none⟩)) ∧ w'.cell? ⟨q, 0, none⟩ = some (.int .i64 m) ∧ (convert 54 9 (.slice (some ⟨k, a + 2, none⟩) n (c - (a + 2)))).run Tryz.prog w' = .ok (.string ⟨ys.toArray⟩) w') (exact HT.out _ (by assumption) (by assumption) (by assumption)) (first
    | ((with_reducible refine (HU.out _ HR.out).mono ?_); rintro e w1 ⟨rfl, hr1, ho1⟩; have g1 := (ho1.cell (o := 0) hpl hpg).trans hp; have g2 := (ho1.cell (o := 0) hql hqg).trans hq; have g3 := hr1.2.1)
    | ((with_reducible refine (HX.out _ hr1).mono ?_); rintro e w2 ⟨rfl, hr2, ho2⟩; have k1 := (ho2.cell (o := 0) (Nat.lt_of_lt_of_le hpl ho1.size) hpg).trans g1; have k2 := (ho2.cell (o := 0) (Nat.lt_of_lt_of_le hql ho1.size) hqg).trans g2; have k3 := hr2.2.1))
  all_goals
    go_wp2_with fail
    go_ret
    exact ⟨rfl, hr2, ((only_below HBD.out).trans0 ho1).trans0 ho2⟩
set_option maxRecDepth 100000 in
theorem rtext_some (w : World) (g k : Nat) (xs : List UInt8) (c a : Nat) (m : Int) (n : Nat) (ys : List UInt8) (h : Rdr w g k xs c a false)
    (hn : a + 2 + n ≤ xs.length) (h0 : 0 < n) (hv : beVal ((xs.drop a).take 2) = n) (hm : (n : Int) ≤ m) (hys : (xs.drop (a + 2)).take n = ys) :
    Calls Tryz.prog 254 #[.pointer (some ⟨g, 0, none⟩), .int .i64 m] w fun e w' => e = .returned (.string ⟨ys.toArray⟩) ∧ Rdr w' g k xs c (a + 2 + n) false ∧ Only g w w' none := by
  have hmf : ∀ (fn : Fn) (first cap : Array Value) (w : World), (Instr.makeFunc fn first cap).run Tryz.prog w = .ok (.func fn first cap) w := fun _ _ _ _ => rfl
  have hgl := h.1.lt
  obtain ⟨hr, hb⟩ := rdr_pair h (.pointer (some ⟨g, 0, none⟩)) (.int .i64 m) 56 3
  have ht := tell83_met _ g k xs c a (a + 2 + n) (.string ⟨ys.toArray⟩) 282 #[.pointer (some ⟨w.heap.size, 0, none⟩), .pointer (some ⟨w.heap.size + 1, 0, none⟩)] hr (callK 282 Tryz.f282 Tryz.func282 (by kernel_rfl) (by kernel_rfl) _)
    (fun W hW hR => text1_some W w.heap.size (w.heap.size + 1) g k xs c a m n ys (by rw [hW.cell (p := ⟨w.heap.size, 0, none⟩) (by simp; omega)]; simp [go_sem]) (by rw [hW.cell (p := ⟨w.heap.size + 1, 0, none⟩) (by simp)]; simp [go_sem])
      (by have := hW.size; simp at this; omega) (by have := hW.size; simp at this; omega) (by omega) (by omega) hR hn h0 hv hm hys)
  have HT := Lib.hid ht
  have HB := Lib.hid hb
  clear ht hb hr h hv hm hys
  go_enter Tryz.func254, Tryz.ntmps254
  go_wp2_with fail
  refine HT.out.mono ?_
  rintro e w1 ⟨rfl, hr, ho⟩
  have HR := Lib.hid (And.intro hr ((only_below HB.out).trans0 ho))
  clear hr ho
  go_wp2_with fail
  go_ret
  exact ⟨rfl, HR.out⟩
end Go.Proofs.YtilbbemdinpjcaaGreat.W
namespace Go.Proofs.YtilbbemdinpjcaaGreat.W
open Go.RowKit

theorem Only.below {w0 : World} {g : Nat} {w w' : World} {o : Option Nat} (h : Only g w w' o) (hb : Below w0.heap.size w0 w) (hg : w0.heap.size ≤ g) (ho : ∀ x, o = some x → w0.heap.size ≤ x) : Below w0.heap.size w0 w' :=
  ⟨h.os.trans hb.os, h.tape.trans hb.tape, h.output.trans hb.output, Nat.le_trans hb.size h.size, fun k hk => (h.block k (Nat.lt_of_lt_of_le hk hb.size) (by omega) (fun e => by have := ho k e.symm; omega)).trans (hb.block k hk)⟩
theorem WrV.block {w : World} {B g : Nat} {v : Value} {l : List UInt8} (h : WrV w B g v l) : ∀ x, v.ownBlock = some x → B ≤ x := by
  intro x hx
  rcases h.2.1.2 with ⟨rfl, _⟩ | ⟨g2, cap, cur, rfl, h2, _⟩
  · cases hx
  · have : g2 = x := by simpa [Value.ownBlock] using hx
    omega
theorem Wr.wrv {w : World} {B g : Nat} {l : List UInt8} (h : Wr w B g l) : ∃ v, WrV w B g v l := by
  obtain ⟨v, h1, h2, h3, h4⟩ := h
  exact ⟨v, h1, h2, h3, h4⟩
theorem Rdr.only {w w' : World} {g k g' : Nat} {xs : List UInt8} {c a : Nat} {sp : Bool} (h : Rdr w g k xs c a sp) (ho : Only g' w w' none) (hg : g ≠ g') (hk : k ≠ g') : Rdr w' g k xs c a sp :=
  ⟨(ho.block g h.1.lt hg (by simp)).trans h.1, h.2.1.only ho h.2.2.2.1 hk, h.2.2.1, Nat.lt_of_lt_of_le h.2.2.2.1 ho.size, h.2.2.2.2⟩
def exB : List UInt8 := [1, 2, 0, 2, 97, 98, 1]
theorem ex_bytes : ([] ++ beN 258 2 ++ (beN (⟨#[97, 98]⟩ : ByteArray).size 2 ++ (⟨#[97, 98]⟩ : ByteArray).data.toList)) ++ [if true then 1 else 0] = exB := by decide

end Go.Proofs.YtilbbemdinpjcaaGreat.W
namespace Go.Proofs.YtilbbemdinpjcaaGreat.W
open Go.RowKit

end Go.Proofs.YtilbbemdinpjcaaGreat.W
namespace Go.Proofs.YtilbbemdinpjcaaGreat.W
open Go.RowKit

theorem clone_own (w : World) (B : Nat) (v : Value) (l : List UInt8) (h : w.ownsRow B 5 1 v l.length (B8 l).toList) (hx : l.length ≤ 2000000) :
    Calls Tryz.prog 85 #[v] w fun e w' => ∃ u, e = .returned u ∧ w'.ownsRow w.heap.size 5 1 u l.length (B8 l).toList ∧ Below w.heap.size w w' := by
  rcases h.2 with ⟨rfl, hn⟩ | ⟨k, cap, cur, rfl, _, hk, _⟩
  · refine (clone_nil w).mono ?_
    rintro e w' ⟨rfl, rfl⟩
    obtain rfl : l = [] := List.eq_nil_of_length_eq_zero hn
    exact ⟨_, rfl, World.ownsRow_nil _ _ _ _, Below.refl _ _⟩
  · exact clone_any w l k 0 cap (own_src h) (Array.getElem?_eq_some_iff.1 hk).1 hx
set_option maxRecDepth 100000 in
theorem wbytes_good (w : World) (B g : Nat) (v : Value) (l : List UInt8) (h : WrV w B g v l) (hx : l.length ≤ 2000000) :
    Calls Tryz.prog 38 #[.pointer (some ⟨g, 0, none⟩)] w fun e w' => ∃ u, e = .returned (.tuple #[u, .int .i64 0]) ∧ w'.ownsRow w.heap.size 5 1 u l.length (B8 l).toList ∧ Below w.heap.size w w' := by
  have hcl := clone_own w B v l h.2.1 hx
  have ha := answered_self w g (h.1.cell 0 rfl)
  have c1 : w.cell? ⟨g, 1, none⟩ = some (.bool false) := h.1.cell 1 rfl
  have c2 : w.cell? ⟨g, 2, none⟩ = some v := h.1.cell 2 rfl
  have HC := Lib.hid hcl
  clear hcl h
  go_enter Tryz.func38, Tryz.ntmps38
  go_wp2_with fail
  refine ha.mono ?_
  rintro e w1 ⟨rfl, rfl⟩
  clear ha
  go_wp2_with fail
  refine HC.out.mono ?_
  rintro e w1 ⟨u, rfl, hown, hb⟩
  have HH := Lib.hid (And.intro hown hb)
  clear hown hb
  go_wp2_with fail
  go_ret2
  exact ⟨u, rfl, HH.out.1, HH.out.2⟩
set_option maxRecDepth 100000 in
theorem wbytes_spoilt (w : World) (B g : Nat) (v : Value) (h : WSt w B g v none) :
    Calls Tryz.prog 38 #[.pointer (some ⟨g, 0, none⟩)] w fun e w' => e = .returned (.tuple #[.slice none 0 0, .int .i64 2]) ∧ w = w' := by
  have ha := answered_self w g (h.1.cell 0 rfl)
  have c1 : w.cell? ⟨g, 1, none⟩ = some (.bool true) := h.1.cell 1 rfl
  clear h
  go_enter Tryz.func38, Tryz.ntmps38
  go_wp2_with fail
  refine ha.mono ?_
  rintro e w1 ⟨rfl, rfl⟩
  clear ha
  go_wp2_with fail
  go_ret2
  exact ⟨rfl, rfl⟩
set_option maxRecDepth 100000 in
theorem rbytes_spoilt (w : World) (B g : Nat) (v : Value) (h : RfS w B g v none) :
    Calls Tryz.prog 35 #[.pointer (some ⟨g, 0, none⟩)] w fun e w' => e = .returned (.tuple #[.slice none 0 0, .int .i64 2]) ∧ w = w' := by
  have c1 : w.cell? ⟨g, 1, none⟩ = some (.bool true) := h.1.cell 1 rfl
  clear h
  go_enter Tryz.func35, Tryz.ntmps35
  go_wp2
  go_ret2
  exact ⟨rfl, rfl⟩
set_option maxRecDepth 100000 in
theorem rbytes_good (w : World) (B g : Nat) (v : Value) (l : List UInt8) (h : RfV w B g v l) (hx : l.length ≤ 2000000) :
    Calls Tryz.prog 35 #[.pointer (some ⟨g, 0, none⟩)] w fun e w' => ∃ u, e = .returned (.tuple #[u, .int .i64 0]) ∧ w'.ownsRow w.heap.size 5 1 u l.length (B8 l).toList ∧ Below w.heap.size w w' := by
  have c1 : w.cell? ⟨g, 1, none⟩ = some (.bool false) := h.1.cell 1 rfl
  have c2 : w.cell? ⟨g, 0, none⟩ = some v := h.1.cell 0 rfl
  have hb : Below w.heap.size w (w.alloc (.cells #[] 5)) := (Below.refl _ _).alloc (Nat.le_refl _) _
  have he : (w.alloc (.cells #[] 5)).ownsRow w.heap.size 5 1 (.slice (some ⟨w.heap.size, 0, none⟩) 0 0) 0 [] := World.ownsRow_made w #[] 0 (Nat.le_refl _) (Nat.zero_le _) rfl
  have c3 : (w.alloc (.cells #[] 5)).cell? ⟨g, 0, none⟩ = some v := (hb.cell (p := ⟨g, 0, none⟩) h.1.lt).trans c2
  have HB := Lib.hid hb
  have HE := Lib.hid he
  rcases h.2.1.2 with ⟨rfl, hn⟩ | ⟨k, cap, cur, rfl, _, hk, _⟩
  · obtain rfl : l = [] := List.eq_nil_of_length_eq_zero hn
    clear h hb he
    go_enter Tryz.func35, Tryz.ntmps35
    go_wp2_with fail
    go_ret2
    exact ⟨_, rfl, HE.out, HB.out⟩
  · have hs := own_src h.2.1
    have hg := (Array.getElem?_eq_some_iff.1 hk).1
    have hs2 : Src (w.alloc (.cells #[] 5)) k 0 l := fun j hj => (hb.cell (p := ⟨k, 0 + j, none⟩) hg).trans (hs j hj)
    obtain ⟨i0, hi0, hz0, hz1, hz2⟩ := info_parts info5
    have HS := Lib.hid hs2
    clear h hb he hs hs2 hk
    go_enter Tryz.func35, Tryz.ntmps35
    go_wp2_with (at_builtin; go_must (refine wpList_append_own_at _ rfl _ _ 54 rfl w.heap.size 5 i0 (.int .u8 0) 1 1 Tryz.underlying54 hi0 hz0 hz1 hz2 rfl (by decide) _ 0 [] rfl HE.out ⟨k, 0, none⟩ l.length cap (B8 l).toList rfl (by rw [Array.length_toList, B8_size, Nat.mul_one]) (src_news HS.out) (byts_one _) (by unfold maxLen; omega) (by omega) (by simp) ?_; intro v' w1 hown hgrow _ hat))
    go_ret2
    refine ⟨_, rfl, by simpa using hown, HB.out.grown hgrow (by simp) (fun k e => ?_)⟩
    have : w.heap.size = k := Option.some.inj e
    omega
end Go.Proofs.YtilbbemdinpjcaaGreat.W
namespace Go.Proofs.YtilbbemdinpjcaaGreat.W
open Go.RowKit

def z32 : Array Value := B8 (List.replicate 32 0)
theorem info33 : (Tryz.prog.info? 30).map (·.size) = some z32.size := by kernel_rfl
set_option maxRecDepth 100000 in
theorem tell95_idle (w : World) (p : Option Addr) (fv : Value) (h : Idle w p) : Calls Tryz.prog 274 #[.pointer p, fv] w fun e w' => e = .returned (.agg z32) ∧ Below w.heap.size w w' := by
  have hb1 : Below w.heap.size w (w.alloc (.cells #[.pointer p] 56)) := (Below.refl _ _).alloc (Nat.le_refl _) _
  have hb2 : Below w.heap.size w ((w.alloc (.cells #[.pointer p] 56)).alloc (.cells z32 30)) := hb1.alloc hb1.size _
  have hz : Lies ((w.alloc (.cells #[.pointer p] 56)).alloc (.cells z32 30)) (w.heap.size + 1) z32 30 := by
    have := Lies.new (w.alloc (.cells #[.pointer p] 56)) z32 30
    simpa using this
  have ht := tells_idle _ p (h.below hb2)
  have HT := Lib.hid ht
  have HZ := Lib.hid hz
  have HB := Lib.hid hb2
  clear ht hz hb1 hb2 h
  go_enter_defers Tryz.func274, Tryz.ntmps274
  go_wp2_with fail
  refine HT.out.mono ?_
  rintro e w1 ⟨rfl, rfl⟩
  generalize (w.alloc (.cells #[.pointer p] 56)).alloc (.cells z32 30) = W0 at HZ HB HT ⊢
  go_wp2_with (first
    | (refine wpList_load_row rfl 30 _ rfl (w.heap.size + 1) rfl 30 z32 (0, 0) _ HZ.out Tryz.underlying30 rfl info33 ?_)
    | (refine wpList_store_row rfl 30 _ _ rfl (w.heap.size + 1) z32 rfl rfl 30 z32 HZ.out info33 rfl (B8_one _) ?_))
  refine ⟨_, results_cell_row (p := 4) (ty := 30) (by kernel_rfl) _ _ (w.heap.size + 1) 30 z32 (0, 0) _ rfl (HZ.out.setRow _) Tryz.underlying30 rfl info33, rfl, below_setRow HB.out _ _ (by omega)⟩
set_option maxRecDepth 100000 in
theorem ask57_idle (w : World) (p : Option Addr) (h : Idle w p) : Calls Tryz.prog 228 #[.pointer p] w fun e w' => e = .returned (.agg z32) ∧ Below w.heap.size w w' := by
  have hmf : ∀ (fn : Fn) (first cap : Array Value) (w : World), (Instr.makeFunc fn first cap).run Tryz.prog w = .ok (.func fn first cap) w := fun _ _ _ _ => rfl
  have hb1 : Below w.heap.size w (w.alloc (.cells #[.pointer p] 56)) := (Below.refl _ _).alloc (Nat.le_refl _) _
  have hb2 : Below w.heap.size w ((w.alloc (.cells #[.pointer p] 56)).alloc (.cells z32 30)) := hb1.alloc hb1.size _
  have hz : Lies ((w.alloc (.cells #[.pointer p] 56)).alloc (.cells z32 30)) (w.heap.size + 1) z32 30 := by
    have := Lies.new (w.alloc (.cells #[.pointer p] 56)) z32 30
    simpa using this
  have ht := tell95_idle _ p (.func (Fn.func 275) #[] #[.pointer (some ⟨w.heap.size, 0, none⟩)]) (h.below hb2)
  have HT := Lib.hid ht
  have HZ := Lib.hid hz
  have HB := Lib.hid hb2
  clear ht hz hb1 hb2 h
  go_enter Tryz.func228, Tryz.ntmps228
  go_wp2_with fail
  refine HT.out.mono ?_
  rintro e w1 ⟨rfl, hb⟩
  have hz1 := HZ.out.below hb HZ.out.lt
  have HZ1 := Lib.hid hz1
  have HB1 := Lib.hid (HB.out.trans (hb.mono HB.out.size))
  clear hz1 hb
  go_wp2_with (refine wpList_store_row rfl 30 _ _ rfl (w.heap.size + 1) z32 rfl rfl 30 z32 HZ1.out info33 rfl (B8_one _) ?_)
  refine bodyPost_ret (v := .agg z32) (results_cell_row (p := 2) (ty := 30) (by kernel_rfl) _ _ (w.heap.size + 1) 30 z32 (0, 0) _ rfl (HZ1.out.setRow _) Tryz.underlying30 rfl info33) rfl ⟨rfl, below_setRow HB1.out _ _ (by omega)⟩
end Go.Proofs.YtilbbemdinpjcaaGreat.W
namespace Go.Proofs.YtilbbemdinpjcaaGreat.W
open Go.RowKit

def toldE (n : Int) : Array Value := #[.int .i64 0, .int .u64 0, .int .u8 0, .int .u8 0, .int .u8 0, .int .u8 0, .int .u8 0, .int .u8 0, .int .u8 0, .int .u8 0, .int .u8 0, .int .u8 0, .int .u8 0, .int .u8 0, .int .u8 0, .int .u8 0, .int .u8 0, .int .u8 0, .int .u8 0, .int .u8 0, .int .u8 0, .int .u8 0, .int .u8 0, .int .u8 0, .int .u8 0, .int .u8 0, .int .u8 0, .int .u8 0, .int .u8 0, .int .u8 0, .int .u8 0, .int .u8 0, .int .u8 0, .int .u8 0, .string ⟨#[]⟩, .bool false, .int .i64 0, .int .i64 n, .bool false]
theorem told_one (n : Int) : (toldE n).all (·.oneCell') = true := by simp [toldE]; exact ⟨rfl, rfl, rfl, rfl, rfl, rfl, rfl, rfl⟩
theorem set_same {cs : Array Value} {j : Nat} {v : Value} (h : cs[j]? = some v) : cs.setIfInBounds j v = cs := by
  apply Array.ext_getElem?
  intro i
  rw [Array.getElem?_setIfInBounds]
  by_cases e : j = i
  · subst e
    have hl := (Array.getElem?_eq_some_iff.1 h).1
    rw [if_pos rfl, if_pos hl, h]
  · rw [if_neg e]
theorem Lies.same {w : World} {g : Nat} {cs : Array Value} {t : TypeId} (h : Lies w g cs t) (j : Nat) (v : Value) (hv : cs[j]? = some v) : Lies (w.setCell ⟨g, j, none⟩ v) g cs t := by
  have := h.set j v
  rwa [set_same hv] at this
theorem Lies.sames {w : World} {g : Nat} {cs : Array Value} {t : TypeId} (h : Lies w g cs t) : ∀ (vs : List Value) (o : Nat), (∀ j v, vs[j]? = some v → cs[o + j]? = some v) → Lies (w.setCells g o vs) g cs t := by
  intro vs
  induction vs generalizing w with
  | nil => intro o _; exact h
  | cons v vs ih =>
    intro o hv
    rw [World.setCells]
    refine ih (h.same o v (hv 0 v rfl)) (o + 1) (fun j u hu => ?_)
    have := hv (j + 1) u hu
    rwa [show o + 1 + j = o + (j + 1) by omega]
theorem Lies.outs {w : World} {g b : Nat} {cs : Array Value} {t : TypeId} (h : Lies w g cs t) (hne : g ≠ b) : ∀ (vs : List Value) (o : Nat), Lies (w.setCells b o vs) g cs t := by
  intro vs
  induction vs generalizing w with
  | nil => intro o; exact h
  | cons v vs ih =>
    intro o
    rw [World.setCells]
    exact ih (h.other _ v hne) (o + 1)
theorem below_cells {B : Nat} {a w : World} (h : Below B a w) {b : Nat} (hb : B ≤ b) : ∀ (vs : List Value) (o : Nat), Below B a (w.setCells b o vs) := by
  intro vs
  induction vs generalizing w with
  | nil => intro o; exact h
  | cons v vs ih =>
    intro o
    rw [World.setCells]
    exact ih (h.setCell hb v) (o + 1)
theorem z32_get (j : Nat) (hj : j < z32.size) : z32.toList[j]? = some (.int .u8 0) := by
  have h32 : z32.size = 32 := rfl
  rw [Array.getElem?_toList]
  have := B8_get (List.replicate 32 0) j (by simp; omega)
  unfold z32
  rw [this]
  congr 2
  have : (List.replicate 32 (0 : UInt8)).getD j 0 = 0 := by
    rw [List.getD_eq_getElem?_getD]
    simp only [List.getElem?_replicate]
    split <;> rfl
  rw [this]; rfl
theorem told_mid : ∀ j v, z32.toList[j]? = some v → (toldE 0)[2 + j]? = some v := by
  intro j v hv
  have hj : j < z32.size := by have := (List.getElem?_eq_some_iff.1 hv).1; rwa [Array.length_toList] at this
  have h32 : z32.size = 32 := rfl
  rw [z32_get j hj] at hv
  cases hv
  have hj2 : j = 0 ∨ j = 1 ∨ j = 2 ∨ j = 3 ∨ j = 4 ∨ j = 5 ∨ j = 6 ∨ j = 7 ∨ j = 8 ∨ j = 9 ∨ j = 10 ∨ j = 11 ∨ j = 12 ∨ j = 13 ∨ j = 14 ∨ j = 15 ∨ j = 16 ∨ j = 17 ∨ j = 18 ∨ j = 19 ∨ j = 20 ∨ j = 21 ∨ j = 22 ∨ j = 23 ∨ j = 24 ∨ j = 25 ∨ j = 26 ∨ j = 27 ∨ j = 28 ∨ j = 29 ∨ j = 30 ∨ j = 31 := by omega
  rcases hj2 with rfl | rfl | rfl | rfl | rfl | rfl | rfl | rfl | rfl | rfl | rfl | rfl | rfl | rfl | rfl | rfl | rfl | rfl | rfl | rfl | rfl | rfl | rfl | rfl | rfl | rfl | rfl | rfl | rfl | rfl | rfl | rfl
  all_goals rfl
end Go.Proofs.YtilbbemdinpjcaaGreat.W
namespace Go.Proofs.YtilbbemdinpjcaaGreat.W
open Go.RowKit
theorem z32_one : z32.all (·.oneCell') = true := B8_one _
attribute [local irreducible] z32
end Go.Proofs.YtilbbemdinpjcaaGreat.W
namespace Go.Proofs.YtilbbemdinpjcaaGreat.W
open Go.RowKit

theorem same32 (W : World) : (Op.equalIn 9999 30 (.agg #[.int .u8 0, .int .u8 0, .int .u8 0, .int .u8 0, .int .u8 0, .int .u8 0, .int .u8 0, .int .u8 0, .int .u8 0, .int .u8 0, .int .u8 0, .int .u8 0, .int .u8 0, .int .u8 0, .int .u8 0, .int .u8 0, .int .u8 0, .int .u8 0, .int .u8 0, .int .u8 0, .int .u8 0, .int .u8 0, .int .u8 0, .int .u8 0, .int .u8 0, .int .u8 0, .int .u8 0, .int .u8 0, .int .u8 0, .int .u8 0, .int .u8 0, .int .u8 0]) (.agg #[.int .u8 0, .int .u8 0, .int .u8 0, .int .u8 0, .int .u8 0, .int .u8 0, .int .u8 0, .int .u8 0, .int .u8 0, .int .u8 0, .int .u8 0, .int .u8 0, .int .u8 0, .int .u8 0, .int .u8 0, .int .u8 0, .int .u8 0, .int .u8 0, .int .u8 0, .int .u8 0, .int .u8 0, .int .u8 0, .int .u8 0, .int .u8 0, .int .u8 0, .int .u8 0, .int .u8 0, .int .u8 0, .int .u8 0, .int .u8 0, .int .u8 0, .int .u8 0])).run Tryz.prog W = .ok true W := by kernel_rfl
theorem setRow_cell (V : World) (g : Nat) (cs' : Array Value) (a : Addr) (h : a.block ≠ g) : (V.setRow g cs').cell? a = V.cell? a := by
  unfold World.cell?
  rw [setRow_other V g a.block cs' h]
attribute [-go_sem] loadCellsFrom storeCells
end Go.Proofs.YtilbbemdinpjcaaGreat.W
set_option maxRecDepth 1000000
set_option linter.constructorNameAsVariable false
namespace Go.Proofs.YtilbbemdinpjcaaGreat.W
open Go.ChangeShapes Go.WideShapes Go.ChangeAt Go.RowKit

theorem cell_int {W : World} {base : Nat} {t : TypeId} {k : IntKind} {v : Value} (ht : Tryz.prog.underlying t = some (.int k)) (h : Cell.okWide Tryz.prog W .any base t v) : ∃ n, v = .int k n := by
  simp only [Cell.okWide, ht] at h
  cases v <;> simp_all [Cell.ok]
theorem cell_slice {W : World} {base : Nat} {t e : TypeId} {v : Value} (ht : Tryz.prog.underlying t = some (.slice e)) (h : Cell.okWide Tryz.prog W .any base t v) : ∃ a l c, v = .slice a l c := by
  simp only [Cell.okWide, ht] at h
  cases v <;> simp_all [Cell.ok]
theorem cell_text {W : World} {base : Nat} {t : TypeId} {v : Value} (ht : Tryz.prog.underlying t = some .string) (h : Cell.okWide Tryz.prog W .any base t v) : ∃ s, v = .string s := by
  simp only [Cell.okWide, ht] at h
  cases v <;> simp_all [Cell.ok]
theorem args_stay {H : Type} {enc : TypeId × Value → H} {W W' : World} {t : TypeId} {v : Value} {d : DataW H} {ps : List MemPlace} (hr : Tryz.prog.readableRec t = true) (hrow : t < Tryz.prog.types.size)
    (h : DataW.Trod enc Tryz.prog W 0 (fun _ => true) true t v d ps) (hb : Below W.heap.size W W') (hlt : ∀ x ∈ ps, x.block < W.heap.size) : DataW.Trod enc Tryz.prog W' 0 (fun b => decide (b < W.heap.size)) true t v d ps :=
  Below.trod (by kernel_rfl) hr hrow h hb hlt
end Go.Proofs.YtilbbemdinpjcaaGreat.W
