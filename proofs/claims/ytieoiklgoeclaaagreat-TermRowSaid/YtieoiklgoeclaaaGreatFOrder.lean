/-
  float.Order: one order of all reals. No condition but words of 64 bits.
-/
import Derived.Test.YtieoiklgoeclaaaGreatFTruth
import Derived.Deep.RegionHeld3
import Derived.Deep.Cut
import Derived.StillTailTactics
namespace Go.Proofs.YtieoiklgoeclaaaGreat
open Go.RowKit

def wrapI (a : Nat) : Int := IntKind.i64.wrap (a : Int)
def ordIn (a b : Nat) : Int := if orderIs .eq a b then cmpI (wrapI a) (wrapI b) else cmpF a b
def ordC (a b : Nat) : Int := if noneB a || noneB b then cmpF b a else ordIn a b
theorem clo_order (w : World) (p q r s a b : Nat) (hp : w.cell? ⟨p, 0, none⟩ = some (.float .f64 a)) (hq : w.cell? ⟨q, 0, none⟩ = some (.float .f64 b)) (hr : w.cell? ⟨r, 0, none⟩ = some (.int .u64 a)) (hs : w.cell? ⟨s, 0, none⟩ = some (.int .u64 b)) :
    Calls Tryz.prog 78 #[.pointer (some ⟨p, 0, none⟩), .pointer (some ⟨q, 0, none⟩), .pointer (some ⟨r, 0, none⟩), .pointer (some ⟨s, 0, none⟩)] w fun e w' => e = .returned (.int .i64 (ordIn a b)) ∧ Below w.heap.size w w' := by
  have c1 := compareI_any w (wrapI a) (wrapI b)
  have c2 := compareF_any w a b
  obtain ⟨m, hm⟩ : ∃ m, m = ordIn a b := ⟨_, rfl⟩
  rw [← hm]
  unfold ordIn at hm
  obtain ⟨t, ht⟩ : ∃ t, orderIs .eq a b = t := ⟨_, rfl⟩
  rw [ht] at hm
  unfold orderIs at ht
  have k1 : ∀ w : World, (convert 34 2 (.int .u64 (a : Int))).run Tryz.prog w = .ok (.int .i64 (wrapI a)) w := fun w => by
    unfold wrapI; kernel_rfl
  have k2 : ∀ w : World, (convert 34 2 (.int .u64 (b : Int))).run Tryz.prog w = .ok (.int .i64 (wrapI b)) w := fun w => by
    unfold wrapI; kernel_rfl
  have HM := Lib.hid hm
  clear hm
  cases t
  · clear c1
    go_enter Tryz.func78, Tryz.ntmps78
    go_wp2_with fail
    refine c2.mono ?_
    rintro e w' ⟨rfl, rfl⟩
    go_wp2_with fail
    go_ret
    exact ⟨ret_i (by rw [HM.out]; rfl), Below.refl _ _⟩
  · clear c2
    go_enter Tryz.func78, Tryz.ntmps78
    go_wp2_with fail
    refine c1.mono ?_
    rintro e w' ⟨rfl, rfl⟩
    go_wp2_with fail
    go_ret
    exact ⟨ret_i (by rw [HM.out]; rfl), Below.refl _ _⟩

/-- Order's captured cells. -/
def Held (W : World) (p q r s a b : Nat) : Prop :=
  W.cell? ⟨p, 0, none⟩ = some (.float .f64 a) ∧ W.cell? ⟨q, 0, none⟩ = some (.float .f64 b) ∧ W.cell? ⟨r, 0, none⟩ = some (.int .u64 a) ∧ W.cell? ⟨s, 0, none⟩ = some (.int .u64 b) ∧ p < W.heap.size ∧ q < W.heap.size ∧ r < W.heap.size ∧ s < W.heap.size
theorem Held.below {W W' : World} {p q r s a b : Nat} (h : Held W p q r s a b) (hb : Below W.heap.size W W') : Held W' p q r s a b := by
  obtain ⟨h1, h2, h3, h4, p1, p2, p3, p4⟩ := h
  exact ⟨(hb.cell (p := ⟨p, 0, none⟩) p1).trans h1, (hb.cell (p := ⟨q, 0, none⟩) p2).trans h2, (hb.cell (p := ⟨r, 0, none⟩) p3).trans h3, (hb.cell (p := ⟨s, 0, none⟩) p4).trans h4, Nat.lt_of_lt_of_le p1 hb.size, Nat.lt_of_lt_of_le p2 hb.size, Nat.lt_of_lt_of_le p3 hb.size, Nat.lt_of_lt_of_le p4 hb.size⟩
theorem Held.lt1 {W : World} {p q r s a b : Nat} (h : Held W p q r s a b) : p < W.heap.size := h.2.2.2.2.1
theorem Held.lt2 {W : World} {p q r s a b : Nat} (h : Held W p q r s a b) : q < W.heap.size := h.2.2.2.2.2.1
/-- Order's ask, wherever the slice was made. -/
theorem ask_order (W : World) (p q r s a b : Nat) (h : Held W p q r s a b) (g : Nat) (hn : Nums W g [a, b]) (hg : g < W.heap.size) :
    Calls Tryz.prog 76 #[.int .i64 (cmpF b a), .func (Fn.func 78) #[] #[.pointer (some ⟨p, 0, none⟩), .pointer (some ⟨q, 0, none⟩), .pointer (some ⟨r, 0, none⟩), .pointer (some ⟨s, 0, none⟩)], .slice (some ⟨g, 0, none⟩) 2 2] W
      fun e w' => e = .returned (.int .i64 (ordC a b)) ∧ Below W.heap.size W w' := by
  unfold ordC
  cases hn2 : (noneB a || noneB b) with
  | true =>
    obtain ⟨m, hm, hm2⟩ := two_bad hn2
    exact askI_bad W (cmpF b a) _ [a, b] g 2 hn hg (by simp) m hm hm2
  | false =>
    have ha : noneB a = false := (Bool.or_eq_false_iff.1 hn2).1
    have hb2 : noneB b = false := (Bool.or_eq_false_iff.1 hn2).2
    refine askI_ok W (cmpF b a) (ordIn a b) 78 _ [a, b] g 2 hn hg (by simp) (two_ok ha hb2) (fun w => callK 78 Tryz.f78 Tryz.func78 (by kernel_rfl) (by kernel_rfl) _ w) ?_
    intro w1 h1
    obtain ⟨h1, h2, h3, h4, _⟩ := h.below h1
    exact clo_order w1 p q r s a b h1 h2 h3 h4

set_option maxRecDepth 100000 in
theorem order_any (w : World) (a b : Nat) : Calls Tryz.prog 60 #[.int .u64 a, .int .u64 b] w fun e w' => e = .returned (.int .i64 (ordC a b)) ∧ Below w.heap.size w w' := by
  have hmf : ∀ (fn : Fn) (first cap : Array Value) (w : World), (Instr.makeFunc fn first cap).run Tryz.prog w = .ok (.func fn first cap) w := fun _ _ _ _ => rfl
  have hsf := store_float
  have hb0 : Below w.heap.size w ((w.alloc (.cells #[.int .u64 a] 34)).alloc (.cells #[.int .u64 b] 34)) := ((Below.refl _ _).alloc (Nat.le_refl _) _).alloc (by simp) _
  have hz0 : ((w.alloc (.cells #[.int .u64 a] 34)).alloc (.cells #[.int .u64 b] 34)).heap.size = w.heap.size + 2 := by simp
  have z1 : ((w.alloc (.cells #[.int .u64 a] 34)).alloc (.cells #[.int .u64 b] 34)).cell? ⟨w.heap.size, 0, none⟩ = some (.int .u64 a) := by simp [go_sem]
  have z2 : ((w.alloc (.cells #[.int .u64 a] 34)).alloc (.cells #[.int .u64 b] 34)).cell? ⟨w.heap.size + 1, 0, none⟩ = some (.int .u64 b) := by simp [go_sem]
  go_enter Tryz.func60, Tryz.ntmps60
  go_wp2_with fail
  generalize hW : (w.alloc (.cells #[.int .u64 a] 34)).alloc (.cells #[.int .u64 b] 34) = W at *
  have HW := Lib.hid hW
  have HB := Lib.hid hb0
  clear hW hb0
  go_upto_region 1 with fail
  go_cut [5, 6] from 19 (fun u v wr => ∃ p q, u = .pointer (some ⟨p, 0, none⟩) ∧ v = .pointer (some ⟨q, 0, none⟩) ∧ Held wr p q w.heap.size (w.heap.size + 1) a b ∧ Below w.heap.size w wr)
  case first =>
    go_region_held3 (fun w' => w'.cell? ⟨w.heap.size, 0, none⟩ = some (.int .u64 a) ∧ w'.cell? ⟨w.heap.size + 1, 0, none⟩ = some (.int .u64 b)) (go_keep) (first
      | (with_reducible refine (number_nat a _).mono ?_; rintro e w1 ⟨rfl, rfl⟩)
      | (with_reducible refine (number_nat b _).mono ?_; rintro e w1 ⟨rfl, rfl⟩))
    all_goals
      go_wp2_with fail
      go_meet
      case rel =>
        rename_i hh
        exact ⟨_, _, rfl, rfl, ⟨by simp [go_sem, hz0], by simp [go_sem, hz0], hh.1, hh.2, by simp [hz0], by simp [hz0], by simp [hz0]; omega, by simp [hz0]⟩, ((HB.out.alloc (by omega) _).alloc (by simp; omega) _).drew⟩
  case rest =>
    obtain ⟨p, q, rfl, rfl, hh, hb⟩ := hcut
    rename_i wc
    have hC : ∀ V, Below wc.heap.size wc V → Calls Tryz.prog 76 #[.int .i64 (cmpF b a), .func (Fn.func 78) #[] #[.pointer (some ⟨p, 0, none⟩), .pointer (some ⟨q, 0, none⟩), .pointer (some ⟨w.heap.size, 0, none⟩), .pointer (some ⟨w.heap.size + 1, 0, none⟩)], .slice (some ⟨V.heap.size, 0, none⟩) 2 2] (V.alloc (.cells #[.float .f64 a, .float .f64 b] 84)).drew
        fun e w' => e = .returned (.int .i64 (ordC a b)) ∧ Below V.heap.size V w' := fun V hV => by
      have h1 : Below V.heap.size V (V.alloc (.cells #[.float .f64 a, .float .f64 b] 84)).drew := ((Below.refl _ _).alloc (Nat.le_refl _) _).drew
      refine (ask_order _ p q w.heap.size (w.heap.size + 1) a b ((hh.below hV).below h1) V.heap.size (nums_two V a b) (by simp)).mono fun e w' h => ⟨h.1, h1.trans (h.2.mono (by simp))⟩
    have h1 := hh.1
    have h2 := hh.2.1
    have HH := Lib.hid hh
    have HC := Lib.hid hC
    have HBB := Lib.hid hb
    clear hh hb hC z1 z2
    go_wp2_with fail
    go_region_held3 (fun w' => w'.cell? ⟨p, 0, none⟩ = some (.float .f64 a) ∧ w'.cell? ⟨q, 0, none⟩ = some (.float .f64 b)) (go_keep) (first
      | (with_reducible refine (compareF_any _ b a).mono ?_; rintro e w1 ⟨rfl, rfl⟩)
      | ((with_reducible refine (HC.out _ (Below.refl _ _)).mono ?_); rintro e w1 ⟨rfl, hb1⟩; have g1 := (hb1.cell (p := ⟨p, 0, none⟩) HH.out.lt1).trans h1; have g2 := (hb1.cell (p := ⟨q, 0, none⟩) HH.out.lt2).trans h2))
    all_goals
      go_wp2_with fail
      go_ret
      exact ⟨rfl, HBB.out.trans (hb1.mono HBB.out.size)⟩
end Go.Proofs.YtieoiklgoeclaaaGreat
