/-
  All chains of a seed (29, 38): an iterator.
-/
import Derived.Test.YtgempifedhiknaaGreatDoorWround
import Derived.Test.YtgempifedhiknaaGreatDoorWbuilt
namespace Go.Proofs.YtgempifedhiknaaGreatDoor
set_option maxRecDepth 100000
open Go.RowKit Go.Shelf Sha

attribute [local go_sem] Oper.semAt_some
attribute [-go_sem] Instr.build

/-- What a round keeps: each block below n₀ but one. -/
def KB (n₀ b0 : Nat) (W W' : World) : Prop := W.heap.size ≤ W'.heap.size ∧ ∀ k, k < n₀ → k ≠ b0 → W'.heap[k]? = W.heap[k]?
theorem KB.refl (n₀ b0 : Nat) (W : World) : KB n₀ b0 W W := ⟨Nat.le_refl _, fun _ _ _ => rfl⟩
theorem KB.trans {n₀ b0 : Nat} {A B C : World} (h : KB n₀ b0 A B) (k : KB n₀ b0 B C) : KB n₀ b0 A C := ⟨Nat.le_trans h.1 k.1, fun i h1 h2 => (k.2 i h1 h2).trans (h.2 i h1 h2)⟩
theorem KB.lies {n₀ b0 : Nat} {A B : World} (h : KB n₀ b0 A B) {g : Nat} {cs : Array Value} {t : TypeId} (hl : Lies A g cs t) (h1 : g < n₀) (h2 : g ≠ b0) : Lies B g cs t := (h.2 g h1 h2).trans hl
theorem KB.cell {n₀ b0 : Nat} {A B : World} (h : KB n₀ b0 A B) (a : Addr) (h1 : a.block < n₀) (h2 : a.block ≠ b0) : B.cell? a = A.cell? a := by
  unfold World.cell?
  rw [h.2 a.block h1 h2]
theorem KB.below {n₀ b0 : Nat} {A B : World} (h : Below A.heap.size A B) (hn : n₀ ≤ A.heap.size) : KB n₀ b0 A B := ⟨h.size, fun k hk _ => h.block k (by omega)⟩
theorem KB.put {n₀ b0 m : Nat} (hm : n₀ ≤ m) : ∀ (W : World) (l : Nat) (o o' : Obj), m ≤ l → W.heap[l]? = some o → o.isCells = false → o.isWalk = false → KB n₀ b0 W (W.putObj l o') := fun W l o o' hl _ _ _ =>
  ⟨by simp, fun k hk _ => World.putObj_heap_other (by omega)⟩
theorem snoc_map (pre : List (Fin 35)) (k : Nat) (hk : k = pre.length) (hlt : k < 35) (hm : pre.map Fin.val = List.range k) : (pre ++ [(⟨k, hlt⟩ : Fin 35)]).map Fin.val = List.range (pre ++ [(⟨k, hlt⟩ : Fin 35)]).length := by
  rw [List.map_append, hm, List.length_append, ← hk]
  simp [List.range_succ]
/-- A chain's value. -/
def encC (H : Nat → List UInt8) (Pl : Nat → Nat) (x : Fin 35) : Array Value := #[.agg (CH (H x.val) (Pl x.val) x.val)]
/-- Two parts, the second a byte. -/
theorem of_first (w : World) (pa : Option Addr) (xs : List UInt8) (pc k : Nat) (hx : xs.length ≤ 900000) (hk : k < 256) (hg : Good w ⟨pa, xs, pc⟩) (hs : Starts w) (hc : Cubes w) :
    Calls Tryz.prog 12 #[.slice (some ⟨w.heap.size + 1, 0, none⟩) 2 2] ((w.alloc (.cells #[.int .u8 k] 5)).alloc (.cells #[.slice pa xs.length pc, .slice (some ⟨w.heap.size, 0, none⟩) 1 1] 22))
      fun e w' => e = .returned (.agg (B8 (sha (xs ++ [UInt8.ofNat k])))) ∧ Below w.heap.size w w' := by
  have hb : Below w.heap.size w ((w.alloc (.cells #[.int .u8 k] 5)).alloc (.cells #[.slice pa xs.length pc, .slice (some ⟨w.heap.size, 0, none⟩) 1 1] 22)) := ((Below.refl _ _).alloc (Nat.le_refl _) _).alloc (by simp) _
  have t1 : Lies ((w.alloc (.cells #[.int .u8 k] 5)).alloc (.cells #[.slice pa xs.length pc, .slice (some ⟨w.heap.size, 0, none⟩) 1 1] 22)) w.heap.size #[.int .u8 k] 5 := (Lies.new w _ 5).alloc _
  have t2 : Lies ((w.alloc (.cells #[.int .u8 k] 5)).alloc (.cells #[.slice pa xs.length pc, .slice (some ⟨w.heap.size, 0, none⟩) 1 1] 22)) (w.heap.size + 1) #[.slice pa xs.length pc, .slice (some ⟨w.heap.size, 0, none⟩) 1 1] 22 := by
    have := Lies.new (w.alloc (.cells #[.int .u8 k] 5)) #[.slice pa xs.length pc, .slice (some ⟨w.heap.size, 0, none⟩) 1 1] 22
    simpa using this
  have h1n : 1 < w.heap.size := Lies.lt hc
  have hg' := hg.below hb
  generalize (w.alloc (.cells #[.int .u8 k] 5)).alloc (.cells #[.slice pa xs.length pc, .slice (some ⟨w.heap.size, 0, none⟩) 1 1] 22) = W at hb t1 t2 hg' ⊢
  have hj : joined [⟨pa, xs, pc⟩, ⟨some ⟨w.heap.size, 0, none⟩, [UInt8.ofNat k], 1⟩] = xs ++ [UInt8.ofNat k] := by simp [joined]
  have main := of_any [⟨pa, xs, pc⟩, ⟨some ⟨w.heap.size, 0, none⟩, [UInt8.ofNat k], 1⟩] W (some ⟨w.heap.size + 1, 0, none⟩) 2 (by simp [maxLen]) ?_ ?_ (by rw [hj]; simp; omega) (hs.below hb (by omega)) (hc.below hb h1n)
  · rw [hj] at main
    refine main.mono ?_
    rintro e w3 ⟨rfl, hb3⟩
    exact ⟨rfl, hb.trans (hb3.mono hb.size)⟩
  · intro q hq
    rcases List.mem_cons.1 hq with rfl | hq
    · exact hg'
    · obtain rfl : q = _ := by simpa using hq
      refine ⟨Nat.le_refl _, by simp [maxLen], fun _ => ⟨_, _, rfl, t1.lt, fun j hj => ?_⟩⟩
      obtain rfl : j = 0 := by simp at hj; omega
      have := t1.cell 0 (v := .int .u8 k) rfl
      rw [this]; simp [Nat.mod_eq_of_lt hk]
  · intro _
    refine ⟨_, _, rfl, t2.lt, fun j hj => ?_⟩
    have : j = 0 ∨ j = 1 := by simp at hj; omega
    rcases this with rfl | rfl
    · exact t2.cell 0 rfl
    · have := t2.cell 1 (v := .slice (some ⟨w.heap.size, 0, none⟩) 1 1) rfl
      rw [show 0 + 1 = 1 from rfl, this]; simp [Part.val]
/-- A slice of bytes that a round keeps. -/
def GoodB (n₀ b0 : Nat) (W : World) (p : Part) : Prop := p.xs.length ≤ p.cap ∧ p.cap ≤ maxLen ∧ (0 < p.xs.length → ∃ g off, p.at_ = some ⟨g, off, none⟩ ∧ g < n₀ ∧ g ≠ b0 ∧ g < W.heap.size ∧ Src W g off p.xs)
theorem GoodB.good {n₀ b0 : Nat} {W : World} {p : Part} (h : GoodB n₀ b0 W p) : Good W p := ⟨h.1, h.2.1, fun hp => by obtain ⟨g, off, h1, _, _, h2, h3⟩ := h.2.2 hp; exact ⟨g, off, h1, h2, h3⟩⟩
theorem GoodB.kb {n₀ b0 : Nat} {W W' : World} {p : Part} (h : GoodB n₀ b0 W p) (hk : KB n₀ b0 W W') : GoodB n₀ b0 W' p :=
  ⟨h.1, h.2.1, fun hp => by
    obtain ⟨g, off, h1, h2, h3, h4, h5⟩ := h.2.2 hp
    exact ⟨g, off, h1, h2, h3, Nat.lt_of_lt_of_le h4 hk.1, fun j hj => (hk.cell ⟨g, off + j, none⟩ h2 h3).trans (h5 j hj)⟩⟩
set_option maxRecDepth 100000 in
set_option maxHeartbeats 1000000 in
theorem seeded1_in (n : Nat) (l Bn n₀ b0 : Nat) (pa : Option Addr) (xs : List UInt8) (pc : Nat) (hx : xs.length ≤ 900000) (J Jx : List (Fin 35) → World → Prop) (W0 : World) (hJ : AbidesFrom W0.heap.size J)
    (hY : ∀ pre x W, J pre W → pre.length < 35 → YieldAt Fence.wide (n - 1) Tryz.prog l (encC (firstH xs) (fun _ => 0) x) W fun e W' => (e = .returned (.bool true) ∧ J (pre ++ [x]) W' ∧ KB n₀ b0 W W') ∨ (e = .returned (.bool false) ∧ Jx (pre ++ [x]) W'))
    (hBn : W0.cell? ⟨Bn, 0, none⟩ = some (.slice pa xs.length pc)) (hBl : Bn < n₀) (hBb : Bn ≠ b0) (hn0 : n₀ ≤ W0.heap.size) (hgood : GoodB n₀ b0 W0 ⟨pa, xs, pc⟩) (h1n : 1 < n₀) (hb0 : 1 < b0) (hs : Starts W0) (hc : Cubes W0) (h0 : J [] W0) :
    CallsIn Fence.wide n Tryz.prog 30 #[.func (.yield l) #[] #[], .pointer (some ⟨Bn, 0, none⟩)] W0 fun e W' => (∃ v, e = .returned v) ∧
      ((∃ ys : List (Fin 35), ys.map Fin.val = List.range 35 ∧ J ys W') ∨ (∃ pre, True ∧ Jx pre W')) := by
  have HX := Lib.hid hx
  have HJ := Lib.hid hJ
  have HY := Lib.hid hY
  have HB := Lib.hid hBn
  have HN := Lib.hid (And.intro hBl (And.intro hBb (And.intro hn0 (And.intro h1n hb0))))
  have HG := Lib.hid hgood
  have HSC := Lib.hid (And.intro hs hc)
  have H0 := Lib.hid h0
  clear hx hJ hY hBn hBl hBb hn0 hgood h1n hb0 hs hc h0
  refine callsIn_of_wp Tryz.func30 rfl trivial ?_ rfl
  simp only [Tryz.ntmps30, List.size_toArray, List.length_cons, List.length_nil, Nat.reduceAdd, Nat.reduceSub, Array.replicate_succ, Array.replicate_zero, List.push_toArray, List.append_toArray, List.nil_append, List.cons_append]
  gi_wp2
  gi_loopw [4] (fun v wr => ∃ pre : List (Fin 35), pre.length ≤ 35 ∧ v = .int .u8 pre.length ∧ pre.map Fin.val = List.range pre.length ∧ J pre wr ∧ KB n₀ b0 W0 wr) (fun v _ => 35 - (intOf v).toNat)
  case atStart => exact ⟨[], by simp, rfl, rfl, H0.out, KB.refl _ _ _⟩
  case round =>
    obtain ⟨pre, hle, rfl, hmap, hJs, hkb⟩ := hrel
    obtain ⟨k, hk⟩ : ∃ k, k = pre.length := ⟨_, rfl⟩
    rw [← hk] at hle hmap ⊢
    by_cases hlt : k < 35
    · have m1 : (k : Int) < 35 := by omega
      have c1 : wr.cell? ⟨Bn, 0, none⟩ = some (.slice pa xs.length pc) := (hkb.cell ⟨Bn, 0, none⟩ HN.out.1 HN.out.2.1).trans HB.out
      have hof := of_first wr pa xs pc k HX.out (by omega) (HG.out.kb hkb).good (hkb.lies HSC.out.1 (by have := HN.out.2.2.2.1; omega) (by have := HN.out.2.2.2.2; omega)) (hkb.lies HSC.out.2 HN.out.2.2.2.1 (by have := HN.out.2.2.2.2; omega))
      obtain ⟨h, hh⟩ : ∃ h, h = firstH xs k := ⟨_, rfl⟩
      have hhl : h.length = 32 := by rw [hh]; exact firstH_length _ _
      rw [show sha (xs ++ [UInt8.ofNat k]) = h from hh.symm] at hof
      have HOF := Lib.hid hof
      have HH := Lib.hid (And.intro hh hhl)
      have HK := Lib.hid (And.intro hk (And.intro hlt (And.intro hmap hle)))
      have HJS := Lib.hid (And.intro hJs hkb)
      clear hof hh hhl hk hlt hmap hle hJs hkb
      gi_wp2
      refine ⟨trivial, (fun hd => (by cases hd)), ?_⟩
      refine (callsIn_wide.2 HOF.out).mono ?_
      rintro e w2 ⟨rfl, hb2⟩
      have hk2 := HJS.out.2.trans (KB.below hb2 (Nat.le_trans HN.out.2.2.1 HJS.out.2.1))
      have hJ2 := HJ.out pre wr w2 none HJS.out.1 (grown_below hb2 none) (fun r e => by cases e)
      obtain ⟨fn, tmps, assign, body, hy, hR⟩ := HY.out pre ⟨k, HK.out.2.1⟩ w2 hJ2 (by rw [← HK.out.1]; exact HK.out.2.1)
      have HR := Lib.hid (And.intro hR hk2)
      have hy2 : (Instr.yield l #[.agg (CH h 0 k)]).run Tryz.prog w2 = .ok (.round l fn tmps assign body) w2 := by rw [HH.out.1]; exact hy
      clear hy hR hk2 hJ2 hb2 c1
      obtain ⟨lk, hlk⟩ : ∃ lk, lk = B8 h ++ #[Value.int .u8 0] := ⟨_, rfl⟩
      obtain ⟨ck, hck⟩ : ∃ ck, ck = CH h 0 k := ⟨_, rfl⟩
      have hb1 : (Instr.build 46 #[(0, .agg (B8 h))]).run Tryz.prog w2 = .ok (.agg lk) w2 := by rw [hlk]; exact run_build w2 46 _ _ (built_link0 h HH.out.2)
      have hb2 : (Instr.build 48 #[(0, .agg lk), (1, .int .u8 k)]).run Tryz.prog w2 = .ok (.agg ck) w2 := by rw [hlk, hck]; exact run_build w2 48 _ _ (built_chain h HH.out.2 0 k)
      rw [← hck] at hy2
      clear hlk hck
      gi_wp2
      refine ⟨(fun hd => (by cases hd)), ?_⟩
      refine HR.out.1.mono ?_
      rintro e W3 (⟨rfl, hJ3, hk3⟩ | ⟨rfl, hJx3⟩)
      · have hk4 := HR.out.2.trans hk3
        gi_wp2
        go_roundw
        case rel => exact ⟨pre ++ [⟨k, HK.out.2.1⟩], by simp; have := HK.out; omega, by simp; have := HK.out; omega, snoc_map pre k HK.out.1 HK.out.2.1 HK.out.2.2.1, hJ3, hk4⟩
        case measure => simp [intOf]; have := HK.out.2.1; omega
      · gi_wp2
        refine bodyPost_ret (results_none rfl _ _ _) rfl ?_
        exact ⟨⟨_, rfl⟩, .inr ⟨_, trivial, hJx3⟩⟩
    · have hk35 : k = 35 := by omega
      subst hk35
      gi_wp2
      go_end0
      exact ⟨⟨_, rfl⟩, .inl ⟨pre, hmap, hJs⟩⟩
/-- What 'for c := range it' may ask of an iterator over chains: each chain once, in order. -/
def Stops (n g : Nat) (lb : Array Value) (H : Nat → List UInt8) (Pl : Nat → Nat) (n₀ b0 : Nat) (w : World) : Prop :=
  SeqStopsK Fence.wide n Tryz.prog g lb (encC H Pl) (KB n₀ b0) (fun ys => ys.map Fin.val = List.range 35) (fun _ => True) 35 w
theorem seeded_stops (n Bn n₀ b0 : Nat) (pa : Option Addr) (xs : List UInt8) (pc : Nat) (hx : xs.length ≤ 900000) (w : World)
    (hBn : w.cell? ⟨Bn, 0, none⟩ = some (.slice pa xs.length pc)) (hBl : Bn < n₀) (hBb : Bn ≠ b0) (hn0 : n₀ ≤ w.heap.size) (hgood : GoodB n₀ b0 w ⟨pa, xs, pc⟩) (h1n : 1 < n₀) (hb0 : 1 < b0) (hs : Starts w) (hc : Cubes w) :
    Stops n 30 #[.pointer (some ⟨Bn, 0, none⟩)] (firstH xs) (fun _ => 0) n₀ b0 w := fun l J Jx W hW hJ _ hY h0 => by
  have hk : KB n₀ b0 w W := KB.below hW hn0
  exact seeded1_in n l Bn n₀ b0 pa xs pc hx J Jx W hJ hY ((hk.cell ⟨Bn, 0, none⟩ hBl hBb).trans hBn) hBl hBb (Nat.le_trans hn0 hW.size) (hgood.kb hk) h1n hb0 (hk.lies hs (by omega) (by omega)) (hk.lies hc h1n (by omega)) h0
set_option maxHeartbeats 1000000 in
theorem seeded_any (w : World) (pa : Option Addr) (m pc : Nat) : Calls Tryz.prog 16 #[.slice pa m pc] w fun e w' => e = .returned (.func (.func 30) #[] #[.pointer (some ⟨w.heap.size, 0, none⟩)]) ∧ w' = w.alloc (.cells #[.slice pa m pc] 22) := by
  go_enter Tryz.func16, Tryz.ntmps16
  go_wp2_with fail
  go_ret
  exact ⟨rfl, rfl⟩
end Go.Proofs.YtgempifedhiknaaGreatDoor
