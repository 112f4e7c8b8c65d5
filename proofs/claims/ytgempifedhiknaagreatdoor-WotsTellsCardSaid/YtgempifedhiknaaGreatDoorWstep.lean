/-
  A chain goes on: to its next link (39), and up to a place (30).
-/
import Derived.Test.YtgempifedhiknaaGreatDoorWm
import Derived.Deep.RegionHeld3
namespace Go.Proofs.YtgempifedhiknaaGreatDoor
set_option maxRecDepth 100000
open Go.RowKit Sha

set_option maxRecDepth 100000 in
set_option maxHeartbeats 1000000 in
theorem step_any (b : Nat) (h : List UInt8) (hh : h.length = 32) (p n : Nat) (hp : p < 15) (hn : n < 256) (w : World) (hl : Lies w b (CH h p n) 48) (hb1 : 1 < b) (hs : Starts w) (hc : Cubes w) :
    Calls Tryz.prog 31 #[.pointer (some ⟨b, 0, none⟩), .int .u8 n] w fun e w' => e = .returned (.tuple #[]) ∧ Lies w' b (CH (nextH n (p + 1) h) (p + 1) n) 48 ∧ w.grownBy w' (some b) := by
  obtain ⟨q, hq⟩ : ∃ q, q = p + 1 := ⟨_, rfl⟩
  have hcell : w.cell? ⟨b, 32, none⟩ = some (.int .u8 p) := hl.cell 32 (CH_place h p n hh)
  have hfr : w.frozen? ⟨b, 32, none⟩ = false := hl.free 32
  have hw : IntKind.u8.wrap ((p : Int) + 1) = (q : Int) := by
    show ((p : Int) + 1) % 256 = _
    omega
  have hl1 : Lies (w.setCell ⟨b, 32, none⟩ (.int .u8 q)) b (CH h q n) 48 := by
    have := hl.set 32 (.int .u8 q)
    rwa [CH_set_place _ _ _ _ hh] at this
  have hg1 : w.grownBy (w.setCell ⟨b, 32, none⟩ (.int .u8 q)) (some b) := grown_set (grown_refl w _) _ _
  have hs1 : Starts (w.setCell ⟨b, 32, none⟩ (.int .u8 q)) := Lies.grown hs hg1 (by omega)
  have hc1 : Cubes (w.setCell ⟨b, 32, none⟩ (.int .u8 q)) := Lies.grown hc hg1 (by omega)
  rw [← hq]
  obtain ⟨h', hh'⟩ : ∃ h', h' = nextH n q h := ⟨_, rfl⟩
  have hl' : h'.length = 32 := by rw [hh']; exact nextH_length _ _ _
  rw [← hh']
  have HH := Lib.hid (And.intro hh' hl')
  clear hh' hl'
  have HQ := Lib.hid hq
  have H1 := Lib.hid (And.intro hl1 (And.intro hg1 (And.intro hs1 hc1)))
  have HP := Lib.hid (And.intro hp (And.intro hn hh))
  clear hl1 hg1 hs1 hc1 hl hs hc hp hn hq
  go_enter Tryz.func31, Tryz.ntmps31
  go_upto_region 1 with fail
  clear hcell hfr hw
  generalize w.setCell ⟨b, 32, none⟩ (.int .u8 q) = w1 at H1 ⊢
  have c1 : w1.drew.cell? ⟨b, 32, none⟩ = some (.int .u8 q) := H1.out.1.drew.cell 32 (CH_place h q n hh)
  have HC := Lib.hid (show ∀ V : World, Below w1.heap.size w1 V → V.cell? ⟨b, 32, none⟩ = some (.int .u8 q) from fun V hV => (H1.out.1.below hV H1.out.1.lt).cell 32 (CH_place h q n hh))
  have HB1 := Lib.hid (show ∀ o, Below w1.heap.size w1 (w1.alloc o).drew from fun o => ((Below.refl _ _).alloc (Nat.le_refl _) o).drew)
  have HB2 := Lib.hid (show ∀ o o', Below w1.heap.size w1 ((w1.alloc o).alloc o').drew from fun o o' => (((Below.refl _ _).alloc (Nat.le_refl _) o).alloc (by simp) o').drew)
  have hof := of_step w1 b q n h HP.out.2.2 (by have := HP.out.1; have := HQ.out; omega) HP.out.2.1 H1.out.1 H1.out.2.2.1 H1.out.2.2.2
  rw [← HH.out.1] at hof
  have HOF := Lib.hid hof
  clear hof
  go_region_held3 (fun W => W.cell? ⟨b, 32, none⟩ = some (.int .u8 q))
    (first | exact c1 | exact HC.out _ (by assumption) | exact HC.out _ (HB1.out _) | exact HC.out _ (HB2.out _ _) | exact hl3.cell 32 (CH_place _ q n HH.out.2))
    (first | (with_reducible refine HOF.out.mono ?_; rintro e w2 ⟨rfl, hb2⟩; have hl2 := H1.out.1.below hb2 H1.out.1.lt; have hi2 := vals_size h' HH.out.2; have h12 := vals_one h'; obtain ⟨ht2, hl3, hg3⟩ := CH_cells hl2 HP.out.2.2 h' HH.out.2))
  have hg4 := grown_trans (grown_trans H1.out.2.1 (grown_below hb2 _)) hg3
  clear hi2 h12 ht2
  go_end0
  exact ⟨rfl, hl3, hg4⟩
end Go.Proofs.YtgempifedhiknaaGreatDoor
