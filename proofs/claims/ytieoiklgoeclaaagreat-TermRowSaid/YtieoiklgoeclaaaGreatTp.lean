/-
  Fits (31), Right (14): whether a term is right.
-/
import Derived.Test.YtieoiklgoeclaaaGreatTh
import Derived.Test.YtieoiklgoeclaaaGreatTfo
namespace Go.Proofs.YtieoiklgoeclaaaGreat
open Go.RowKit

def endsT (xs : List Nd) : Nat → Nat := match layOf (ksOf xs) xs.length with
  | none => fun _ => 0
  | some (E, _) => E
/-- Whether a term is right, of so many nodes at most, so deep at most. -/
def fitsB (xs : List Nd) (most deep : Int) : Bool := decide ((xs.length : Int) ≤ most) && (inO xs && (decide ((deepT xs : Int) ≤ deep) && kindsB xs (endsT xs)))
set_option maxRecDepth 100000 in
set_option maxHeartbeats 1000000 in
theorem clo62_ok (w : World) (p q : Nat) (a : Option Addr) (nc : Nat) (xs : List Nd) (deep : Int) (E D : Nat → Nat) (hp : w.cell? ⟨p, 0, none⟩ = some (.slice a xs.length nc)) (hq : w.cell? ⟨q, 0, none⟩ = some (.int .i64 deep)) (hplt : q < w.heap.size) (hk : TAt w a xs) (hc : xs.length ≤ nc) (hl : Laid (ksOf xs) xs.length E D) :
    Calls Tryz.prog 41 #[.pointer (some ⟨p, 0, none⟩), .pointer (some ⟨q, 0, none⟩)] w fun e w' => e = .returned (.bool (decide ((D 0 : Int) ≤ deep) && kindsB xs E)) ∧ Below w.heap.size w w' := by
  have h := laid_ok a xs.length nc (ksOf xs) E D w hk.2.1 hk.ks hl
  obtain ⟨g, off, ea, hx⟩ := hk.1 hl.1
  subst ea
  obtain ⟨n, hn⟩ : ∃ n, n = xs.length := ⟨_, rfl⟩
  have hle : n ≤ 1000000 := by rw [hn]; exact hk.2.1
  rw [← hn] at hp h hc
  have hn0 : 0 < n := by rw [hn]; exact hl.1
  have H := Lib.hid (And.intro h (And.intro hx (And.intro hn (And.intro hl (And.intro hc (And.intro hle (And.intro hplt hn0)))))))
  obtain ⟨z, hz⟩ : ∃ z, z = (decide ((D 0 : Int) ≤ deep) && kindsB xs E) := ⟨_, rfl⟩
  rw [← hz]
  have HZ := Lib.hid hz
  have HQ := Lib.hid hq
  clear h hx hn hl hc hle hk hz hplt hn0 hq
  go_enter Tryz.func41, Tryz.ntmps41
  go_wp2_with fail
  refine H.out.1.mono ?_
  rintro e w2 ⟨gE, gD, rfl, b1, b2, z1, z2, hb⟩
  unfold layV
  have HB := Lib.hid (And.intro z1 (And.intro z2 hb))
  clear b1 b2 z1 z2 hb hp
  go_upto_region 2 with fail
  have hA : Lies (w2.alloc (.cells #[.slice (some ⟨g, off, none⟩) n nc, .slice (some ⟨gE, 0, none⟩) n n, .slice (some ⟨gD, 0, none⟩) n n] 55)) w2.heap.size #[.slice (some ⟨g, off, none⟩) n nc, .slice (some ⟨gE, 0, none⟩) n n, .slice (some ⟨gD, 0, none⟩) n n] 55 := Lies.new _ _ _
  have hb3 : Below w2.heap.size w2 (w2.alloc (.cells #[.slice (some ⟨g, off, none⟩) n nc, .slice (some ⟨gE, 0, none⟩) n n, .slice (some ⟨gD, 0, none⟩) n n] 55)) := (Below.refl _ _).alloc (Nat.le_refl _) _
  generalize w2.alloc (.cells #[.slice (some ⟨g, off, none⟩) n nc, .slice (some ⟨gE, 0, none⟩) n n, .slice (some ⟨gD, 0, none⟩) n n] 55) = W3 at hA hb3 ⊢
  have hbw := HB.out.2.2.trans (hb3.mono HB.out.2.2.size)
  obtain ⟨d0, hd0⟩ : ∃ d, d = D 0 := ⟨_, rfl⟩
  have hS : ∀ V, Below W3.heap.size W3 V → V.cell? ⟨w2.heap.size, 0, none⟩ = some (.slice (some ⟨g, off, none⟩) n nc) ∧ V.cell? ⟨w2.heap.size, 1, none⟩ = some (.slice (some ⟨gE, 0, none⟩) n n) ∧ V.cell? ⟨w2.heap.size, 2, none⟩ = some (.slice (some ⟨gD, 0, none⟩) n n) ∧ V.cell? ⟨gD, 0, none⟩ = some (.int .i64 d0) ∧ V.cell? ⟨q, 0, none⟩ = some (.int .i64 deep) := fun V hV => by
    have a1 := hA.below hV hA.lt
    have a2 := (HB.out.2.1.below hb3 HB.out.2.1.lt).below hV (Nat.lt_of_lt_of_le HB.out.2.1.lt hb3.size)
    refine ⟨a1.cell 0 rfl, a1.cell 1 rfl, a1.cell 2 rfl, by rw [hd0]; exact a2.cell 0 (iv_get n D 0 H.out.2.2.2.2.2.2.2), ?_⟩
    rw [hV.cell (p := ⟨q, 0, none⟩) (Nat.lt_of_lt_of_le H.out.2.2.2.2.2.2.1 hbw.size), hbw.cell (p := ⟨q, 0, none⟩) H.out.2.2.2.2.2.2.1]
    exact HQ.out
  have hof : ∀ V, Below W3.heap.size W3 V → Calls Tryz.prog 42 #[.agg #[.slice (some ⟨g, off, none⟩) n nc, .slice (some ⟨gE, 0, none⟩) n n, .slice (some ⟨gD, 0, none⟩) n n]] V fun e w' => e = .returned (.bool (kindsB xs E)) ∧ Below W3.heap.size W3 w' := fun V hV => by
    have hbV := hbw.trans (hV.mono hbw.size)
    exact (ofKinds_any V g off n nc gE gD xs E (H.out.2.1.below hbV H.out.2.1.1) H.out.2.2.1 ((HB.out.1.below hb3 HB.out.1.lt).below hV (Nat.lt_of_lt_of_le HB.out.1.lt hb3.size)) (ends_of H.out.2.2.2.1) (kidsIn_of H.out.2.2.2.1 (by rw [← H.out.2.2.1]; exact H.out.2.2.2.2.2.1)) H.out.2.2.2.2.1 H.out.2.2.2.2.2.1).mono fun e w' k => ⟨k.1, hV.trans (k.2.mono hV.size)⟩
  obtain ⟨kb, hkb⟩ : ∃ kb, kb = kindsB xs E := ⟨_, rfl⟩
  rw [← hkb] at hof
  have d1 : Below W3.heap.size W3 W3.drew := (Below.refl _ _).drew
  obtain ⟨s0, s1, s2, s3, s4⟩ := hS W3 (Below.refl _ _)
  have p1 : (0 : Int) < (n : Int) := by have := H.out.2.2.2.2.2.2.2; omega
  have p2 : 0 < n := H.out.2.2.2.2.2.2.2
  have HS := Lib.hid hS
  have HO := Lib.hid hof
  have HW := Lib.hid (And.intro hbw (And.intro hd0 hkb))
  clear hS hof hA hb3 hbw hd0 hkb
  by_cases hd : (d0 : Int) ≤ deep
  · have e1 : Hid (z = kb) := Lib.hid (by rw [HZ.out, HW.out.2.2, ← HW.out.2.1, decide_eq_true hd, Bool.true_and])
    go_region_held3 (fun V => V.cell? ⟨w2.heap.size, 0, none⟩ = some (.slice (some ⟨g, off, none⟩) n nc) ∧ V.cell? ⟨w2.heap.size, 1, none⟩ = some (.slice (some ⟨gE, 0, none⟩) n n) ∧ V.cell? ⟨w2.heap.size, 2, none⟩ = some (.slice (some ⟨gD, 0, none⟩) n n) ∧ V.cell? ⟨gD, 0, none⟩ = some (.int .i64 d0) ∧ V.cell? ⟨q, 0, none⟩ = some (.int .i64 deep)) (first | go_keep | exact HS.out _ (by assumption)) (first | (with_reducible refine (HO.out _ (by assumption)).mono ?_; rintro e w4 ⟨rfl, hb4⟩))
    go_wp2_with fail
    go_ret
    exact ⟨by rw [e1.out]; rfl, HW.out.1.trans (hb4.mono HW.out.1.size)⟩
  · have e1 : Hid (z = false) := Lib.hid (by rw [HZ.out, ← HW.out.2.1, decide_eq_false hd, Bool.false_and])
    have hd2 : decide ((d0 : Int) ≤ deep) = false := decide_eq_false hd
    go_quiet (fail)
    go_wp2_with fail
    go_ret
    exact ⟨by rw [e1.out]; rfl, below_drewN HW.out.1 _⟩
theorem clo62_bad (w : World) (p q : Nat) (a : Option Addr) (n nc : Nat) (ks : Nat → Int) (hn : n ≤ 1000000) (hp : w.cell? ⟨p, 0, none⟩ = some (.slice a n nc)) (hk : KsAt w a n ks) (hl : layOf ks n = none) :
    Calls Tryz.prog 41 #[.pointer (some ⟨p, 0, none⟩), .pointer (some ⟨q, 0, none⟩)] w fun e w' => ThrownT e ∧ Below w.heap.size w w' := by
  have h := laid_bad a n nc ks w hn hk (layOf_none hl)
  have H := Lib.hid h
  clear h hk hl hn
  go_enter Tryz.func41, Tryz.ntmps41
  go_wp2_with fail
  refine H.out.mono ?_
  rintro e w2 ⟨⟨v, rfl⟩, hb⟩
  have HB := Lib.hid hb
  clear hb
  go_wp2_with fail
  exact ⟨rfl, ⟨_, rfl⟩, HB.out⟩
set_option maxRecDepth 100000 in
set_option maxHeartbeats 1000000 in
theorem fits_any (w : World) (a : Option Addr) (nc : Nat) (xs : List Nd) (most deep : Int) (hk : TAt w a xs) (hc : xs.length ≤ nc) :
    Calls Tryz.prog 20 #[.agg #[.slice a xs.length nc], .int .i64 most, .int .i64 deep] w fun e w' => e = .returned (.bool (fitsB xs most deep)) ∧ Below w.heap.size w w' := by
  have hmf : ∀ (fn : Fn) (first cap : Array Value) (w : World), (Instr.makeFunc fn first cap).run Tryz.prog w = .ok (.func fn first cap) w := fun _ _ _ _ => rfl
  have hA : Lies ((w.alloc (.cells #[.slice a xs.length nc] 27)).alloc (.cells #[.int .i64 deep] 3)) w.heap.size #[.slice a xs.length nc] 27 := (Lies.new _ _ _).alloc _
  have hB : Lies ((w.alloc (.cells #[.slice a xs.length nc] 27)).alloc (.cells #[.int .i64 deep] 3)) (w.heap.size + 1) #[.int .i64 deep] 3 := by
    have := Lies.new (w.alloc (.cells #[.slice a xs.length nc] 27)) #[.int .i64 deep] 3
    simpa using this
  have hb0 : Below w.heap.size w ((w.alloc (.cells #[.slice a xs.length nc] 27)).alloc (.cells #[.int .i64 deep] 3)) := ((Below.refl _ _).alloc (Nat.le_refl _) _).alloc (by simp) _
  obtain ⟨z, hz⟩ : ∃ z, z = (inO xs && (decide ((deepT xs : Int) ≤ deep) && kindsB xs (endsT xs))) := ⟨_, rfl⟩
  have hR : fitsB xs most deep = (decide ((xs.length : Int) ≤ most) && z) := by rw [hz]; rfl
  rw [hR]
  obtain ⟨zz, hzz⟩ : ∃ zz, zz = (decide ((xs.length : Int) ≤ most) && z) := ⟨_, rfl⟩
  rw [← hzz]
  have HZ := Lib.hid hzz
  clear hzz hR
  go_enter Tryz.func20, Tryz.ntmps20
  go_upto_region 1 with fail
  generalize ((w.alloc (.cells #[.slice a xs.length nc] 27)).alloc (.cells #[.int .i64 deep] 3)) = W0 at *
  have hask : Calls Tryz.prog 35 #[.bool false, .func (Fn.func 41) #[] #[.pointer (some ⟨w.heap.size, 0, none⟩), .pointer (some ⟨w.heap.size + 1, 0, none⟩)]] W0 fun e w' => e = .returned (.bool z) ∧ Below W0.heap.size W0 w' := by
    have hT := fun V (hV : Below W0.heap.size W0 V) => hk.below (hb0.trans (hV.mono hb0.size)) (Nat.le_refl _)
    cases hl : layOf (ksOf xs) xs.length with
    | none =>
      have e1 : z = false := by rw [hz]; unfold inO inOrd; rw [hl]; rfl
      rw [e1]
      exact askB_thrown _ false 41 _ (fun w => callK 41 Tryz.f41 Tryz.func41 (by kernel_rfl) (by kernel_rfl) _ w) fun w1 h1 =>
        clo62_bad w1 w.heap.size (w.heap.size + 1) a xs.length nc (ksOf xs) hk.2.1 ((hA.below h1 hA.lt).cell 0 rfl) (hT w1 h1).ks hl
    | some x =>
      obtain ⟨E, D⟩ := x
      have e1 : z = (decide ((D 0 : Int) ≤ deep) && kindsB xs E) := by rw [hz]; unfold inO inOrd deepT deepOf endsT; rw [hl]; rfl
      rw [e1]
      exact askB_ok _ false _ 41 _ (fun w => callK 41 Tryz.f41 Tryz.func41 (by kernel_rfl) (by kernel_rfl) _ w) fun w1 h1 =>
        clo62_ok w1 w.heap.size (w.heap.size + 1) a nc xs deep E D ((hA.below h1 hA.lt).cell 0 rfl) ((hB.below h1 hB.lt).cell 0 rfl) (Nat.lt_of_lt_of_le hB.lt h1.size) (hT w1 h1) hc (layOf_some hl)
  have c0 := hA.cell 0 (v := .slice a xs.length nc) rfl
  obtain ⟨n, hn⟩ : ∃ n, n = xs.length := ⟨_, rfl⟩
  rw [← hn] at c0
  have H := Lib.hid (And.intro hask (And.intro hb0 hn))
  have hle : n ≤ 1000000 := by rw [hn]; exact hk.2.1
  clear hk hc hA hB hb0 hz hask hn
  by_cases hm : (n : Int) ≤ most
  · have e1 : Hid (zz = z) := Lib.hid (by rw [HZ.out, ← H.out.2.2, decide_eq_true hm, Bool.true_and])
    have hm2 : ¬ most < (n : Int) := by omega
    go_wp2_with fail
    refine H.out.1.mono ?_
    rintro e w2 ⟨rfl, hb2⟩
    have HB := Lib.hid (H.out.2.1.trans (hb2.mono H.out.2.1.size))
    clear hb2
    go_wp2_with fail
    go_ret
    exact ⟨by rw [e1.out]; rfl, HB.out⟩
  · have e1 : Hid (zz = false) := Lib.hid (by rw [HZ.out, ← H.out.2.2, decide_eq_false hm, Bool.false_and])
    have hm2 : most < (n : Int) := by omega
    go_wp2_with fail
    go_ret
    exact ⟨by rw [e1.out]; rfl, H.out.2.1⟩
def rightB (xs : List Nd) : Bool := fitsB xs 100 16
set_option maxRecDepth 100000 in
theorem rightT_any (w : World) (a : Option Addr) (nc : Nat) (xs : List Nd) (hk : TAt w a xs) (hc : xs.length ≤ nc) :
    Calls Tryz.prog 8 #[.agg #[.slice a xs.length nc]] w fun e w' => e = .returned (.bool (rightB xs)) ∧ Below w.heap.size w w' := by
  have hb : Below w.heap.size w (w.alloc (.cells #[.slice a xs.length nc] 27)) := (Below.refl _ _).alloc (Nat.le_refl _) _
  have h := fits_any (w.alloc (.cells #[.slice a xs.length nc] 27)) a nc xs 100 16 (hk.below hb (Nat.le_refl _)) hc
  obtain ⟨z, hz⟩ : ∃ z, z = rightB xs := ⟨_, rfl⟩
  have h' := h
  rw [show fitsB xs 100 16 = z from hz.symm] at h'
  rw [← hz]
  have H := Lib.hid (And.intro h' hb)
  obtain ⟨n, hn⟩ : ∃ n, n = xs.length := ⟨_, rfl⟩
  rw [← hn] at H ⊢
  clear h h' hb hk hc hz hn
  go_enter Tryz.func8, Tryz.ntmps8
  go_wp2_with fail
  refine H.out.1.mono ?_
  rintro e w2 ⟨rfl, hb2⟩
  have HB := Lib.hid (H.out.2.trans (hb2.mono H.out.2.size))
  clear hb2
  go_wp2_with fail
  go_ret
  exact ⟨rfl, HB.out⟩
end Go.Proofs.YtieoiklgoeclaaaGreat
