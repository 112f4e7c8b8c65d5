/-
  The key of a seed (16).
-/
import Derived.Test.YtgempifedhiknaaGreatDoorWends
import Derived.Test.YtgempifedhiknaaGreatDoorWtog
namespace Go.Proofs.YtgempifedhiknaaGreatDoor
set_option maxRecDepth 100000
open Go.RowKit Go.Shelf Sha

/-- All ends, one behind the other. -/
def allEnds (H : Nat → List UInt8) (Pl : Nat → Nat) : List UInt8 := (List.range 35).flatMap (endH H Pl)
theorem endsOf_all (H : Nat → List UInt8) (Pl : Nat → Nat) (ys : List (Fin 35)) (h : ys.map Fin.val = List.range 35) : endsOf H Pl ys = allEnds H Pl := by
  unfold allEnds endsOf
  rw [← h, List.flatMap_map]
theorem good_kb {w : World} {p : Part} (h : Good w p) {w' : World} (hb : Below w.heap.size w w') (n₀ b0 : Nat) (hn : w.heap.size ≤ n₀) (hb0 : w.heap.size ≤ b0) : GoodB n₀ b0 w' p :=
  ⟨h.1, h.2.1, fun hp => by
    obtain ⟨g, off, h1, h2, h3⟩ := h.2.2 hp
    exact ⟨g, off, h1, by omega, by omega, Nat.lt_of_lt_of_le h2 hb.size, fun j hj => (hb.cell (p := ⟨g, off + j, none⟩) h2).trans (h3 j hj)⟩⟩
theorem enters38 : ∀ args w, (callFunc 30 args).run Tryz.prog w = .ok (.enter 30 args) w := enters_of Tryz.func30 (by kernel_rfl) rfl
theorem enters36 : ∀ args w, (callFunc 65 args).run Tryz.prog w = .ok (.enter 65 args) w := enters_of Tryz.func65 (by kernel_rfl) rfl
/-- The key of a seed. -/
def keyH (xs : List UInt8) : List UInt8 := sha (allEnds (firstH xs) (fun _ => 0))
theorem keyH_length (xs : List UInt8) : (keyH xs).length = 32 := sha_len _
/-- A seed's chains go to their ends. -/
theorem ends_seed (w : World) (pa : Option Addr) (xs : List UInt8) (pc : Nat) (hx : xs.length ≤ 900000) (hg : Good w ⟨pa, xs, pc⟩) (hs : Starts w) (hc : Cubes w) :
    Calls Tryz.prog 22 #[.func (.func 30) #[] #[.pointer (some ⟨w.heap.size, 0, none⟩)]] (w.alloc (.cells #[.slice pa xs.length pc] 22)) fun e w' => ∃ v, e = .returned v ∧ Below w.heap.size w w' ∧
      RowH (w.heap.size + 1) 35 (allEnds (firstH xs) (fun _ => 0)) v w' := by
  have hb : Below w.heap.size w (w.alloc (.cells #[.slice pa xs.length pc] 22)) := (Below.refl _ _).alloc (Nat.le_refl _) _
  have hl : Lies (w.alloc (.cells #[.slice pa xs.length pc] 22)) w.heap.size #[.slice pa xs.length pc] 22 := Lies.new _ _ _
  have hsz : (w.alloc (.cells #[.slice pa xs.length pc] 22)).heap.size = w.heap.size + 1 := by simp
  generalize w.alloc (.cells #[.slice pa xs.length pc] 22) = W at hb hl hsz ⊢
  have h1n : 1 < w.heap.size := Lies.lt hc
  have main := ends_any 30 #[.pointer (some ⟨w.heap.size, 0, none⟩)] enters38 (firstH xs) (fun _ => 0) (fun i => firstH_length xs i) (fun _ => Nat.zero_le _) W (hs.below hb (by omega)) (hc.below hb h1n)
    (fun w' hw' => by
      have hbw : Below w.heap.size w w' := hb.trans (hw'.mono hb.size)
      exact seeded_stops 5 w.heap.size W.heap.size W.heap.size pa xs pc hx w' ((hl.below hw' hl.lt).cell 0 rfl) (by omega) (by omega) hw'.size (good_kb hg hbw _ _ (by omega) (by omega)) (by omega) (by omega) (hs.below hbw (by omega)) (hc.below hbw h1n))
  refine main.mono ?_
  rintro e w' ⟨v, rfl, hb', ys, hys, hrow⟩
  refine ⟨v, rfl, hb.trans (hb'.mono hb.size), ?_⟩
  rw [endsOf_all _ _ ys hys] at hrow
  exact ⟨hrow.1, by
    rcases hrow.2 with h | ⟨g, cap, cur, h1, h2, h3⟩
    · exact .inl h
    · exact .inr ⟨g, cap, cur, h1, by omega, h3⟩⟩
theorem allEnds_length (H : Nat → List UInt8) (Pl : Nat → Nat) (hH : ∀ i, (H i).length = 32) : (allEnds H Pl).length = 1120 := by
  have : ∀ n, ((List.range n).flatMap (endH H Pl)).length = 32 * n := by
    intro n
    induction n with
    | zero => rfl
    | succ n ih => rw [List.range_succ, List.flatMap_append, List.length_append, ih]; simp [endH_length H Pl hH]; omega
  exact this 35
set_option maxRecDepth 100000 in
set_option maxHeartbeats 1000000 in
theorem key_any (w : World) (pa : Option Addr) (xs : List UInt8) (pc : Nat) (hx : xs.length ≤ 900000) (hg : Good w ⟨pa, xs, pc⟩) (hs : Starts w) (hc : Cubes w) :
    Calls Tryz.prog 8 #[.slice pa xs.length pc] w fun e w' => e = .returned (.agg (B8 (keyH xs))) ∧ Below w.heap.size w w' := by
  obtain ⟨z, hz⟩ : ∃ z : Array Value, z = z32 := ⟨_, rfl⟩
  obtain ⟨h', hh'⟩ : ∃ h', h' = keyH xs := ⟨_, rfl⟩
  have hl' : h'.length = 32 := by rw [hh']; exact keyH_length _
  rw [← hh']
  have HG := Lib.hid (And.intro hx hg)
  have HSC := Lib.hid (And.intro hs hc)
  have HH := Lib.hid (And.intro hh' hl')
  clear hx hg hs hc hh' hl'
  go_enter Tryz.func8, Tryz.ntmps8
  go_upto_region 1 with fail
  rw [show (#[Value.int .u8 0, .int .u8 0, .int .u8 0, .int .u8 0, .int .u8 0, .int .u8 0, .int .u8 0, .int .u8 0, .int .u8 0, .int .u8 0, .int .u8 0, .int .u8 0, .int .u8 0, .int .u8 0, .int .u8 0, .int .u8 0, .int .u8 0, .int .u8 0, .int .u8 0, .int .u8 0, .int .u8 0, .int .u8 0, .int .u8 0, .int .u8 0, .int .u8 0, .int .u8 0, .int .u8 0, .int .u8 0, .int .u8 0, .int .u8 0, .int .u8 0, .int .u8 0] : Array Value) = z from by rw [hz]; kernel_rfl]
  have hz0 : Lies (w.alloc (.cells z 24)) w.heap.size z 24 := Lies.new _ _ _
  have hb0 : Below w.heap.size w (w.alloc (.cells z 24)) := (Below.refl _ _).alloc (Nat.le_refl _) _
  generalize w.alloc (.cells z 24) = W0 at hz0 hb0 ⊢
  have h1n := Lies.lt HSC.out.2
  have hs0 : Starts W0 := HSC.out.1.below hb0 (by omega)
  have hc0 : Cubes W0 := HSC.out.2.below hb0 h1n
  have hg0 := HG.out.2.below hb0
  have hends := ends_seed W0 pa xs pc HG.out.1 hg0 hs0 hc0
  have HE := Lib.hid hends
  have H0 := Lib.hid (And.intro hz0 (And.intro hb0 (And.intro hs0 hc0)))
  clear hends hz0 hb0 hs0 hc0 hg0 h1n
  go_wp2_with fail
  refine (seeded_any W0 pa xs.length pc).mono ?_
  rintro e w1 ⟨rfl, rfl⟩
  go_wp2_with fail
  refine HE.out.mono ?_
  rintro e w2 ⟨v, rfl, hb2, hrow⟩
  obtain ⟨g, c, rfl, _⟩ := hrow.shape (by omega)
  have hlt := (hrow.block g rfl).2.1
  have htog := together_any w2 g c (allEnds (firstH xs) (fun _ => 0)) (allEnds_length _ _ (firstH_length xs)) hrow.src hlt (H0.out.2.2.1.below hb2 (by have := Lies.lt H0.out.2.2.2; omega)) (H0.out.2.2.2.below hb2 (Lies.lt H0.out.2.2.2))
  rw [show sha (allEnds (firstH xs) (fun _ => 0)) = h' from HH.out.1.symm] at htog
  have HT := Lib.hid htog
  have hz2 := H0.out.1.below hb2 H0.out.1.lt
  have H2 := Lib.hid (And.intro hz2 (H0.out.2.1.trans (hb2.mono H0.out.2.1.size)))
  clear hrow hlt htog hz2 hb2
  go_wp2_with fail
  refine HT.out.mono ?_
  rintro e w3 ⟨rfl, hb3⟩
  have hz3 := H2.out.1.below hb3 H2.out.1.lt
  have hb4 := H2.out.2.trans (hb3.mono H2.out.2.size)
  have hsz : (B8 h').size = 32 := by rw [B8_size]; exact HH.out.2
  have HZ := Lib.hid (And.intro hz3 hb4)
  clear hz3 hb4 hb3
  go_wp2_with (refine wpList_store_row rfl 24 _ _ rfl w.heap.size (B8 h') rfl rfl 24 z HZ.out.1 (by rw [hsz]; kernel_rfl) (by rw [hsz, hz]; rfl) (B8_one _) ?_)
  refine bodyPost_ret (v := .agg (B8 h')) (results_cell_row (p := 2) (ty := 24) (by kernel_rfl) _ _ w.heap.size 24 (B8 h') (0, 0) _ rfl (HZ.out.1.setRow _) Tryz.underlying24 rfl (by rw [hsz]; kernel_rfl)) rfl ⟨rfl, ?_⟩
  exact below_setRow HZ.out.2 _ _ (Nat.le_refl _)
end Go.Proofs.YtgempifedhiknaaGreatDoor
