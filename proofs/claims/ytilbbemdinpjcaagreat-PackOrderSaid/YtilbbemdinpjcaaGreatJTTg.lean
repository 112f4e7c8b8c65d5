/-
  The closures of tags (104) and maps (105).
-/
import Derived.Test.YtilbbemdinpjcaaGreatJTTr
namespace Go.Proofs.YtilbbemdinpjcaaGreat.T
open Go.RowKit

/-- So many keys from a place on rise, behind the last one. -/
def riseB (xs : List Nd) (E : Nat → Nat) : Nat → Nat → Option Nat → Bool
  | 0, _, _ => true
  | k + 1, p, l => (match l with | none => true | some b => decide ((aheadR (sub xs b (E b)) (sub xs p (E p)) 0 1).getD 0 < 0)) && riseB xs E k (E (E p)) (some p)
theorem steps_two {E : Nat → Nat} {n m p b : Nat} (h : steps E n (m + 2) p = some b) : p < n ∧ E p < n ∧ steps E n m (E (E p)) = some b := by
  rw [show m + 2 = (m + 1) + 1 by omega] at h
  simp only [steps] at h
  by_cases h1 : n ≤ p
  · rw [if_pos h1] at h; cases h
  · rw [if_neg h1] at h
    by_cases h2 : n ≤ E p
    · rw [if_pos h2] at h; cases h
    · rw [if_neg h2] at h
      exact ⟨by omega, by omega, h⟩
def LastV (xs : List Nd) (E : Nat → Nat) (g off nc : Nat) (l : Option Nat) (v : Value) : Prop := match l with
  | none => v = .slice none 0 0
  | some b => b < xs.length ∧ v = .slice (some ⟨g, off + b * 5, none⟩) (E b - b) (nc - b)
set_option maxRecDepth 100000 in
set_option maxHeartbeats 1000000 in
theorem rise_any (w : World) (g off nc gE gD i kd : Nat) (xs : List Nd) (E : Nat → Nat) (hE : Lies w gE (iv xs.length E) 3) (hx : NAt w g off xs) (he : Ends xs E) (hki : KidsIn xs) (hi : i < xs.length) (hc : xs.length ≤ nc) (hn : xs.length ≤ 1000000) (hkd : xs[i].kids = ((2 * kd : Nat) : Int)) :
    Calls Tryz.prog 302 #[.agg (layV (some ⟨g, off, none⟩) xs.length nc gE gD), .int .i64 i] w fun e w' => e = .returned (.bool (riseB xs E kd (i + 1) none)) ∧ Below w.heap.size w w' := by
  obtain ⟨n, hnn⟩ : ∃ n, n = xs.length := ⟨_, rfl⟩
  rw [← hnn] at hE hn hc ⊢
  have hA : Lies (w.alloc (.cells (layV (some ⟨g, off, none⟩) n nc gE gD) 279)) w.heap.size (layV (some ⟨g, off, none⟩) n nc gE gD) 279 := Lies.new _ _ _
  have hb0 : Below w.heap.size w (w.alloc (.cells (layV (some ⟨g, off, none⟩) n nc gE gD) 279)) := (Below.refl _ _).alloc (Nat.le_refl _) _
  have hk0 := he.kids i hi
  have hkb := hki _ (List.getElem_mem hi)
  have hst : steps E n (2 * kd) (i + 1) = some (E i) := by
    have := hk0.2
    rw [hkd, ← hnn] at this
    exact this
  have hS : ∀ V, Below w.heap.size w V → Lies V gE (iv n E) 3 ∧ NAt V g off xs ∧ V.cell? ⟨g, off + i * 5 + 4, none⟩ = some (.int .i64 ((2 * kd : Nat) : Int)) := fun V hV => by
    have : V.cell? ⟨g, off + i * 5 + 4, none⟩ = some (.int .i64 xs[i].kids) := (hx.below hV hx.1).2 i hi 4 _ rfl
    rw [hkd] at this
    exact ⟨hE.below hV hE.lt, hx.below hV hx.1, this⟩
  have H := Lib.hid (And.intro hS (And.intro he (And.intro hki (And.intro hst (And.intro hc (And.intro hn hnn))))))
  have q0 : (0 : Int) ≤ (i : Int) := by omega
  have q1 : (i : Int) < (n : Int) := by omega
  have hkz : kd ≤ 500000 := by omega
  have x4 := (hS _ hb0).2.2
  have w1 : IntKind.i64.wrap ((i : Int) + 1) = ((i + 1 : Nat) : Int) := by rw [IntKind.wrap_i64]; omega
  clear hE hx hk0 hkb hst hS hc hkd he hki hi hn hnn
  unfold layV at *
  go_enter Tryz.func302, Tryz.ntmps302
  go_upto_region 1 with fail
  generalize w.alloc (.cells #[.slice (some ⟨g, off, none⟩) n nc, .slice (some ⟨gE, 0, none⟩) n n, .slice (some ⟨gD, 0, none⟩) n n] 279) = W0 at *
  have c0 := hA.cell 0 (v := .slice (some ⟨g, off, none⟩) n nc) rfl
  have HA := Lib.hid (And.intro hA hb0)
  clear hA hb0
  go_wp2_with fail
  clear x4 c0
  have hall : ∀ V, Below W0.heap.size W0 V → V.cell? ⟨w.heap.size, 0, none⟩ = some (.slice (some ⟨g, off, none⟩) n nc) ∧ V.cell? ⟨w.heap.size, 1, none⟩ = some (.slice (some ⟨gE, 0, none⟩) n n) ∧ V.cell? ⟨w.heap.size, 2, none⟩ = some (.slice (some ⟨gD, 0, none⟩) n n) ∧
      Lies V gE (iv n E) 3 ∧ NAt V g off xs ∧ Below w.heap.size w V := fun V hV => by
    have hA' := HA.out.1.below hV HA.out.1.lt
    have hbw := HA.out.2.trans (hV.mono HA.out.2.size)
    exact ⟨hA'.cell 0 rfl, hA'.cell 1 rfl, hA'.cell 2 rfl, (H.out.1 V hbw).1, (H.out.1 V hbw).2.1, hbw⟩
  have HALL := Lib.hid hall
  clear hall
  go_loopw [5, 6, 17] (fun a l c W => ∃ (k at' : Nat) (lo : Option Nat), k ≤ kd ∧ a = .int .i64 at' ∧ c = .int .i64 k ∧ LastV xs E g off nc lo l ∧ steps E n (2 * (kd - k)) at' = some (E i) ∧ riseB xs E (kd - k) at' lo = riseB xs E kd (i + 1) none ∧ Below W0.heap.size W0 W) (fun _ _ c _ => (kd - intOf c).toNat)
  case atStart => exact ⟨0, i + 1, none, by omega, by go_num, rfl, rfl, H.out.2.2.2.1, rfl, Below.refl _ _⟩
  case round =>
    obtain ⟨k, at', lo, hk, rfl, rfl, hl, hst, hrb, hbr⟩ := hrel
    by_cases hlt : k < kd
    · obtain ⟨j, hj⟩ : ∃ j, kd - k = j + 1 := ⟨kd - k - 1, by omega⟩
      rw [hj] at hst hrb
      rw [show 2 * (j + 1) = 2 * j + 2 by omega] at hst
      obtain ⟨p1, p2, p3⟩ := steps_two hst
      have he := H.out.2.1
      have hnn := H.out.2.2.2.2.2.2
      have hc := H.out.2.2.2.2.1
      have hn := H.out.2.2.2.2.2.1
      have ia := he.inc at' (by omega)
      obtain ⟨s0, s1, s2, sE, sN, sB⟩ := HALL.out _ hbr
      have hbl := below_any wr g off n nc gE gD at' E sE p1 (by omega) (by omega) hc
      unfold layV at hbl
      have k1 : (k : Int) < (kd : Int) := by omega
      have HR := Lib.hid (And.intro hbr (And.intro hl (And.intro hst (And.intro hrb (And.intro p1 (And.intro p2 (And.intro p3 (And.intro hlt hj))))))))
      have HB := Lib.hid hbl
      clear hbr hl hst hrb p1 p2 p3 hlt hj he hnn hc hn ia hbl hk sE sN sB
      go_wp2_with fail
      refine HB.out.mono ?_
      rintro e w5 ⟨rfl, hb5⟩
      have HB5 := Lib.hid (HR.out.1.trans (hb5.mono HR.out.1.size))
      clear hb5 s0 s1 s2
      have hrb := HR.out.2.2.2.1
      cases lo with
      | none =>
        have hl := HR.out.2.1
        change _ = Value.slice none 0 0 at hl
        subst hl
        have HK2 := Lib.hid (show riseB xs E j (E (E at')) (some at') = riseB xs E kd (i + 1) none by rw [← hrb]; simp [riseB])
        have HZ := Lib.hid HB5.out
        have HK := Lib.hid (show E at' = E at' from rfl)
        clear hrb
        obtain ⟨s0, s1, s2, sE, -, -⟩ := HALL.out _ HZ.out
        have ce1 := sE.cell at' (iv_get n E at' HR.out.2.2.2.2.1)
        have ce2 := sE.cell (E at') (iv_get n E (E at') HR.out.2.2.2.2.2.1)
        obtain ⟨x1, hx1⟩ : ∃ x, x = E at' := ⟨_, rfl⟩
        obtain ⟨x2, hx2⟩ : ∃ x, x = E x1 := ⟨_, rfl⟩
        rw [← hx1] at ce1 ce2 HK
        rw [← hx2] at ce2
        have m1 : (0 : Int) ≤ (at' : Int) := by omega
        have m2 : (at' : Int) < (n : Int) := by have := HR.out.2.2.2.2.1; omega
        have m3 : (0 : Int) ≤ (x1 : Int) := by omega
        have m4 : (x1 : Int) < (n : Int) := by have := HR.out.2.2.2.2.2.1; rw [← hx1] at this; omega
        have HX := Lib.hid (And.intro hx1 hx2)
        rw [← hx1]
        clear sE hx1 hx2
        go_wp2_with fail
        go_quiet (fail)
        go_wp2_with fail
        have g1 := HX.out.1
        have g2 := HX.out.2
        have hkd := HR.out.2.2.2.2.2.2.2.1
        have hjd := HR.out.2.2.2.2.2.2.2.2
        have hb7 := HZ.out
        refine ⟨⟨k + 1, x2, some at', by omega, rfl, by go_num, ⟨by rw [← H.out.2.2.2.2.2.2]; exact HR.out.2.2.2.2.1, by rw [← g1]⟩, ?_, ?_, below_drewN hb7 _⟩, by simp [intOf]; omega⟩
        · rw [show kd - (k + 1) = j by omega, g2, g1]; exact HR.out.2.2.2.2.2.2.1
        · rw [show kd - (k + 1) = j by omega, g2, g1]; exact HK2.out
      | some b =>
        have hlv := HR.out.2.1
        obtain ⟨hb0, hlv⟩ := hlv
        subst hlv
        have he := H.out.2.1
        have hnn := H.out.2.2.2.2.2.2
        have hp1 := HR.out.2.2.2.2.1
        rw [hnn] at hp1
        have ib := he.inc b hb0
        have ia := he.inc at' hp1
        obtain ⟨r, hr⟩ := (he.sub b hb0).told (he.sub at' hp1) (by rw [sub_len ib.2]; omega) (by rw [sub_len ia.2]; omega)
        obtain ⟨-, -, -, -, sN, -⟩ := HALL.out _ HB5.out
        have hah := ahead_any w5 g (off + b * 5) (nc - b) g (off + at' * 5) (nc - at') _ _ r (sN.sub b (E b) ib.2) (sN.sub at' (E at') ia.2) (by rw [sub_len ib.2]; have := H.out.2.2.2.2.2.1; omega) (by rw [sub_len ia.2]; have := H.out.2.2.2.2.2.1; omega) (H.out.2.2.1.sub _ _) (H.out.2.2.1.sub _ _) hr
        rw [sub_len ib.2, sub_len ia.2] at hah
        have hrb2 : (decide (r < 0) && riseB xs E j (E (E at')) (some at')) = riseB xs E kd (i + 1) none := by
          rw [← hrb]
          simp only [riseB, hr]
          rfl
        have HAH := Lib.hid hah
        have HRB := Lib.hid hrb2
        clear hrb hrb2 hah hr sN ia ib hp1 hnn he hb0
        by_cases hr0 : r < 0
        · have hge : ¬ r ≥ 0 := by omega
          have hge2 : ¬ (0 : Int) ≤ r := by omega
          have HK2 := Lib.hid (show riseB xs E j (E (E at')) (some at') = riseB xs E kd (i + 1) none by rw [← HRB.out, decide_eq_true hr0, Bool.true_and])
          go_wp2_with fail
          refine HAH.out.mono ?_
          rintro e w6 ⟨rfl, hb6⟩
          have HZ := Lib.hid (HB5.out.trans (hb6.mono HB5.out.size))
          clear hb6
          have HK := Lib.hid (show E at' = E at' from rfl)
          obtain ⟨s0, s1, s2, sE, -, -⟩ := HALL.out _ HZ.out
          have ce1 := sE.cell at' (iv_get n E at' HR.out.2.2.2.2.1)
          have ce2 := sE.cell (E at') (iv_get n E (E at') HR.out.2.2.2.2.2.1)
          obtain ⟨x1, hx1⟩ : ∃ x, x = E at' := ⟨_, rfl⟩
          obtain ⟨x2, hx2⟩ : ∃ x, x = E x1 := ⟨_, rfl⟩
          rw [← hx1] at ce1 ce2 HK
          rw [← hx2] at ce2
          have m1 : (0 : Int) ≤ (at' : Int) := by omega
          have m2 : (at' : Int) < (n : Int) := by have := HR.out.2.2.2.2.1; omega
          have m3 : (0 : Int) ≤ (x1 : Int) := by omega
          have m4 : (x1 : Int) < (n : Int) := by have := HR.out.2.2.2.2.2.1; rw [← hx1] at this; omega
          have HX := Lib.hid (And.intro hx1 hx2)
          rw [← hx1]
          clear sE hx1 hx2
          go_wp2_with fail
          go_quiet (fail)
          go_wp2_with fail
          have g1 := HX.out.1
          have g2 := HX.out.2
          have hkd := HR.out.2.2.2.2.2.2.2.1
          have hjd := HR.out.2.2.2.2.2.2.2.2
          have hb7 := HZ.out
          refine ⟨⟨k + 1, x2, some at', by omega, rfl, by go_num, ⟨by rw [← H.out.2.2.2.2.2.2]; exact HR.out.2.2.2.2.1, by rw [← g1]⟩, ?_, ?_, below_drewN hb7 _⟩, by simp [intOf]; omega⟩
          · rw [show kd - (k + 1) = j by omega, g2, g1]; exact HR.out.2.2.2.2.2.2.1
          · rw [show kd - (k + 1) = j by omega, g2, g1]; exact HK2.out
        · have hge : r ≥ 0 := by omega
          have hge2 : (0 : Int) ≤ r := by omega
          have HK2 := Lib.hid (show riseB xs E kd (i + 1) none = false by rw [← HRB.out, decide_eq_false hr0, Bool.false_and])
          go_wp2_with fail
          refine HAH.out.mono ?_
          rintro e w6 ⟨rfl, hb6⟩
          have HZ := Lib.hid (HB5.out.trans (hb6.mono HB5.out.size))
          clear hb6
          go_wp2_with fail
          go_ret
          exact ⟨by rw [HK2.out]; rfl, (HALL.out _ HZ.out).2.2.2.2.2⟩
    · have hke : k = kd := by omega
      subst hke
      rw [Nat.sub_self] at hrb
      have HR := Lib.hid (And.intro hbr hrb)
      clear hbr hrb hst hl hk hlt
      go_wp2_with fail
      go_ret
      exact ⟨by rw [← HR.out.2]; rfl, (HALL.out _ HR.out.1).2.2.2.2.2⟩
end Go.Proofs.YtilbbemdinpjcaaGreat.T
namespace Go.Proofs.YtilbbemdinpjcaaGreat.T
open Go.RowKit

def tagIn (n : Int) : Bool := decide (0 ≤ n) && decide (n ≤ 2147483647)
set_option maxRecDepth 100000 in
set_option maxHeartbeats 1000000 in
theorem kindTag_any (w : World) (p q g off n nc gE gD i : Nat) (xs : List Nd) (h : KW w p q g off n nc gE gD xs) (hi : i < xs.length) :
    Calls Tryz.prog 300 #[.int .i64 i, .pointer (some ⟨p, 0, none⟩), .pointer (some ⟨q, 0, none⟩)] w fun e w' => e = .returned (.bool (tagIn xs[i].num && justB xs[i] ⟨0, xs[i].num, 0, ⟨#[]⟩, xs[i].kids⟩)) ∧ Below w.heap.size w w' := by
  obtain ⟨r, hr⟩ : ∃ r, r = justB xs[i] ⟨0, xs[i].num, 0, ⟨#[]⟩, xs[i].kids⟩ := ⟨_, rfl⟩
  have hj : ∀ V, Below w.heap.size w V → Calls Tryz.prog 294 #[.int .i64 i, .agg #[.int .i64 0, .int .i64 xs[i].num, .int .u64 0, .string ⟨#[]⟩, .int .i64 xs[i].kids], .pointer (some ⟨p, 0, none⟩)] V fun e w' => e = .returned (.bool r) ∧ Below w.heap.size w w' := fun V hV => by
    rw [hr]
    exact (just_any V p g off n nc gE gD i xs ⟨0, xs[i].num, 0, ⟨#[]⟩, xs[i].kids⟩ (h.below hV).lay (h.below hV).at_ h.len hi).mono fun e w' h => ⟨h.1, hV.trans (h.2.mono hV.size)⟩
  rw [← hr]
  have hS : ∀ V, Below w.heap.size w V → V.cell? ⟨p, 0, none⟩ = some (.slice (some ⟨g, off, none⟩) n nc) ∧ V.cell? ⟨q, 0, none⟩ = some (.func (Fn.func 294) #[] #[.pointer (some ⟨p, 0, none⟩)]) := fun V hV =>
    ⟨(h.below hV).lay.cell 0 rfl, (h.below hV).just.cell 0 rfl⟩
  have hx := h.at_.2 i hi
  obtain ⟨x, ex⟩ : ∃ x, x = xs[i] := ⟨_, rfl⟩
  rw [← ex] at hx hj ⊢
  obtain ⟨k1, n1, b1, t1, d1⟩ := x
  simp only at hj ⊢
  have q0 : (0 : Int) ≤ (i : Int) := by omega
  have q1 : (i : Int) < (n : Int) := by have := h.len; omega
  have x0 : w.cell? ⟨g, off + i * 5, none⟩ = some (.int .i64 k1) := hx 0 _ rfl
  have x1 : w.cell? ⟨g, off + i * 5 + 1, none⟩ = some (.int .i64 n1) := hx 1 _ rfl
  have x2 : w.cell? ⟨g, off + i * 5 + 2, none⟩ = some (.int .u64 b1) := hx 2 _ rfl
  have x3 : w.cell? ⟨g, off + i * 5 + 3, none⟩ = some (.string t1) := hx 3 _ rfl
  have x4 : w.cell? ⟨g, off + i * 5 + 4, none⟩ = some (.int .i64 d1) := hx 4 _ rfl
  obtain ⟨c0, k0⟩ := hS w (Below.refl _ _)
  have hA : Lies (w.alloc (.cells #[.int .i64 k1, .int .i64 n1, .int .u64 b1, .string t1, .int .i64 d1] 72)) w.heap.size #[.int .i64 k1, .int .i64 n1, .int .u64 b1, .string t1, .int .i64 d1] 72 := Lies.new _ _ _
  have hb0 : Below w.heap.size w (w.alloc (.cells #[.int .i64 k1, .int .i64 n1, .int .u64 b1, .string t1, .int .i64 d1] 72)) := (Below.refl _ _).alloc (Nat.le_refl _) _
  have HJ := Lib.hid hj
  have HS := Lib.hid hS
  obtain ⟨z, hz⟩ : ∃ z, z = (tagIn n1 && r) := ⟨_, rfl⟩
  rw [← hz]
  have HZ := Lib.hid hz
  clear h hi hr hj hS hx ex hz
  go_enter Tryz.func300, Tryz.ntmps300
  go_upto_region 2 with fail
  generalize w.alloc (.cells #[.int .i64 k1, .int .i64 n1, .int .u64 b1, .string t1, .int .i64 d1] 72) = W0 at hA hb0 ⊢
  clear x0 x1 x2 x3 x4 c0 k0
  obtain ⟨c0, k0⟩ := HS.out _ hb0
  have y1 := hA.cell 1 (v := .int .i64 n1) rfl
  have y4 := hA.cell 4 (v := .int .i64 d1) rfl
  have HB := Lib.hid hb0
  clear hA hb0
  by_cases a1 : 0 ≤ n1
  · by_cases a2 : n1 ≤ 2147483647
    · have e1 : Hid (z = r) := Lib.hid (by rw [HZ.out]; simp [tagIn, a1, a2])
      go_wp2_with fail
      refine (HJ.out _ HB.out).mono ?_
      rintro e w1 ⟨rfl, hb1⟩
      clear c0 k0 y1 y4
      go_wp2_with fail
      go_ret
      exact ⟨by rw [e1.out]; rfl, hb1⟩
    · have e1 : Hid (z = false) := Lib.hid (by rw [HZ.out]; simp [tagIn, a2])
      go_wp2_with fail
      go_ret
      exact ⟨by rw [e1.out]; rfl, HB.out⟩
  · have e1 : Hid (z = false) := Lib.hid (by rw [HZ.out]; simp [tagIn, a1])
    go_wp2_with fail
    go_ret
    exact ⟨by rw [e1.out]; rfl, HB.out⟩
/-- The box of a lay, and where it all ends. -/
structure KE (w : World) (p q g off n nc gE gD : Nat) (xs : List Nd) (E : Nat → Nat) : Prop where
  kw : KW w p q g off n nc gE gD xs
  row : Lies w gE (iv n E) 3
  ends : Ends xs E
  kids : KidsIn xs
  room : n ≤ nc
  few : n ≤ 1000000
theorem KE.below {w w' : World} {p q g off n nc gE gD : Nat} {xs : List Nd} {E : Nat → Nat} (h : KE w p q g off n nc gE gD xs E) (hb : Below w.heap.size w w') : KE w' p q g off n nc gE gD xs E :=
  ⟨h.kw.below hb, h.row.below hb h.row.lt, h.ends, h.kids, h.room, h.few⟩
/-- A map's keys, two by two, rise. -/
def mapB (xs : List Nd) (E : Nat → Nat) (i : Nat) (x : Nd) : Bool := decide (x.kids % 2 = 0) && (justB x ⟨0, 0, 0, ⟨#[]⟩, x.kids⟩ && riseB xs E (x.kids / 2).toNat (i + 1) none)
set_option maxRecDepth 100000 in
set_option maxHeartbeats 1000000 in
theorem kindMap_any (w : World) (p q g off n nc gE gD i : Nat) (xs : List Nd) (E : Nat → Nat) (h : KE w p q g off n nc gE gD xs E) (hi : i < xs.length) :
    Calls Tryz.prog 301 #[.int .i64 i, .pointer (some ⟨p, 0, none⟩), .pointer (some ⟨q, 0, none⟩)] w fun e w' => e = .returned (.bool (mapB xs E i xs[i])) ∧ Below w.heap.size w w' := by
  have hk := h.kids _ (List.getElem_mem hi)
  obtain ⟨m, hm⟩ : ∃ m, m = xs[i].kids := ⟨_, rfl⟩
  obtain ⟨r, hr⟩ : ∃ r, r = justB xs[i] ⟨0, 0, 0, ⟨#[]⟩, m⟩ := ⟨_, rfl⟩
  obtain ⟨u, hu⟩ : ∃ u, u = riseB xs E (m / 2).toNat (i + 1) none := ⟨_, rfl⟩
  have hR : mapB xs E i xs[i] = (decide (m % 2 = 0) && (r && u)) := by rw [hr, hu, hm]; rfl
  rw [hR]
  have hj : ∀ V, Below w.heap.size w V → Calls Tryz.prog 294 #[.int .i64 i, .agg #[.int .i64 0, .int .i64 0, .int .u64 0, .string ⟨#[]⟩, .int .i64 m], .pointer (some ⟨p, 0, none⟩)] V fun e w' => e = .returned (.bool r) ∧ Below w.heap.size w w' := fun V hV => by
    rw [hr]
    exact (just_any V p g off n nc gE gD i xs ⟨0, 0, 0, ⟨#[]⟩, m⟩ (h.below hV).kw.lay (h.below hV).kw.at_ h.kw.len hi).mono fun e w' h => ⟨h.1, hV.trans (h.2.mono hV.size)⟩
  have hq : m % 2 = 0 → ∀ V, Below w.heap.size w V → Calls Tryz.prog 302 #[.agg (layV (some ⟨g, off, none⟩) n nc gE gD), .int .i64 i] V fun e w' => e = .returned (.bool u) ∧ Below w.heap.size w w' := fun h2 V hV => by
    have hV2 := h.below hV
    have h0 := h.kw.len
    subst h0
    rw [hu]
    exact (rise_any V g off nc gE gD i (m / 2).toNat xs E hV2.row hV2.kw.at_ h.ends h.kids hi h.room h.few (by rw [← hm]; omega)).mono fun e w' h => ⟨h.1, hV.trans (h.2.mono hV.size)⟩
  have hS : ∀ V, Below w.heap.size w V → V.cell? ⟨p, 0, none⟩ = some (.slice (some ⟨g, off, none⟩) n nc) ∧ V.cell? ⟨p, 1, none⟩ = some (.slice (some ⟨gE, 0, none⟩) n n) ∧ V.cell? ⟨p, 2, none⟩ = some (.slice (some ⟨gD, 0, none⟩) n n) ∧ V.cell? ⟨q, 0, none⟩ = some (.func (Fn.func 294) #[] #[.pointer (some ⟨p, 0, none⟩)]) := fun V hV =>
    ⟨(h.below hV).kw.lay.cell 0 rfl, (h.below hV).kw.lay.cell 1 rfl, (h.below hV).kw.lay.cell 2 rfl, (h.below hV).kw.just.cell 0 rfl⟩
  have x4 : w.cell? ⟨g, off + i * 5 + 4, none⟩ = some (.int .i64 m) := by rw [hm]; exact h.kw.at_.2 i hi 4 _ rfl
  have q0 : (0 : Int) ≤ (i : Int) := by omega
  have q1 : (i : Int) < (n : Int) := by have := h.kw.len; omega
  have m0 : 0 ≤ m := by omega
  have m1 : m ≤ 1000000 := by omega
  obtain ⟨c0, c1, c2, k0⟩ := hS w (Below.refl _ _)
  have HJ := Lib.hid hj
  have HQ := Lib.hid hq
  have HS := Lib.hid hS
  unfold layV at HQ
  clear h hi hr hj hS hq hu hm hR hk
  by_cases h2 : m % 2 = 0
  · have e1 : (m % 2 == 0) = true := by simp [h2]
    have HC := Lib.hid (HQ.out h2)
    rw [decide_eq_true h2, Bool.true_and]
    obtain ⟨z, hz⟩ : ∃ z, z = (r && u) := ⟨_, rfl⟩
    rw [← hz]
    have HZ := Lib.hid hz
    clear h2 HQ hz
    go_enter Tryz.func301, Tryz.ntmps301
    go_wp2_with fail
    refine (HJ.out _ (Below.refl _ _)).mono ?_
    rintro e w1 ⟨rfl, hb1⟩
    clear c0 c1 c2 k0 x4
    obtain ⟨c0, c1, c2, k0⟩ := HS.out _ hb1
    have HB := Lib.hid hb1
    clear hb1
    cases r with
    | true =>
      have e1 : Hid (z = u) := Lib.hid (by rw [HZ.out, Bool.true_and])
      go_wp2_with fail
      refine (HC.out _ HB.out).mono ?_
      rintro e w2 ⟨rfl, hb2⟩
      clear c0 c1 c2 k0
      go_wp2_with fail
      go_ret
      exact ⟨by rw [e1.out]; rfl, hb2⟩
    | false =>
      have e1 : Hid (z = false) := Lib.hid (by rw [HZ.out, Bool.false_and])
      go_wp2_with fail
      go_ret
      exact ⟨by rw [e1.out]; rfl, HB.out⟩
  · have e1 : (m % 2 == 0) = false := by simp [h2]
    rw [decide_eq_false h2, Bool.false_and]
    clear h2 HQ
    go_enter Tryz.func301, Tryz.ntmps301
    go_wp2_with fail
    go_ret
    exact ⟨rfl, Below.refl _ _⟩
end Go.Proofs.YtilbbemdinpjcaaGreat.T
