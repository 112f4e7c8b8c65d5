/-
  What a writer's Bytes tells: its bytes in new memory, or ErrArg where it is spoilt; the same of the document's own writer.
-/
import Derived.Test.YtjbjagdpemnhiaaGreatWByt
import Derived.Test.YtjbjagdpemnhiaaGreatWantSt
namespace Go.Proofs.YtjbjagdpemnhiaaGreat
open Go.RowKit

theorem clone_own (w : World) (B : Nat) (v : Value) (l : List UInt8) (h : w.ownsRow B 5 1 v l.length (B8 l).toList) (hx : l.length ≤ 2000000) :
    Calls Tryz.prog 44 #[v] w fun e w' => ∃ u, e = .returned u ∧ w'.ownsRow w.heap.size 5 1 u l.length (B8 l).toList ∧ Below w.heap.size w w' := by
  rcases h.2 with ⟨rfl, hn⟩ | ⟨k, cap, cur, rfl, _, hk, _⟩
  · refine (clone_nil w).mono ?_
    rintro e w' ⟨rfl, rfl⟩
    obtain rfl : l = [] := List.eq_nil_of_length_eq_zero hn
    exact ⟨_, rfl, World.ownsRow_nil _ _ _ _, Below.refl _ _⟩
  · exact clone_any w l k 0 cap (own_src h) (Array.getElem?_eq_some_iff.1 hk).1 hx
set_option maxRecDepth 100000 in
theorem wbytes_good (w : World) (B g : Nat) (v : Value) (l : List UInt8) (h : WrV w B g v l) (hx : l.length ≤ 2000000) :
    Calls Tryz.prog 11 #[.pointer (some ⟨g, 0, none⟩)] w fun e w' => ∃ u, e = .returned (.tuple #[u, .int .i64 0]) ∧ w'.ownsRow w.heap.size 5 1 u l.length (B8 l).toList ∧ Below w.heap.size w w' := by
  have hcl := clone_own w B v l h.2.1 hx
  have ha := answered_self w g (h.1.cell 0 rfl)
  have c1 : w.cell? ⟨g, 1, none⟩ = some (.bool false) := h.1.cell 1 rfl
  have c2 : w.cell? ⟨g, 2, none⟩ = some v := h.1.cell 2 rfl
  have HC := Lib.hid hcl
  clear hcl h
  go_enter Tryz.func11, Tryz.ntmps11
  go_wp2_with fail
  refine ha.mono ?_
  rintro e w1 ⟨rfl, rfl⟩
  clear ha
  go_wp2_with fail
  refine HC.out.mono ?_
  rintro e w1 ⟨u, rfl, hown, hb⟩
  have HH := Lib.hid (And.intro hown hb)
  clear hown hb
  go_wp2_with fail
  go_ret2
  exact ⟨u, rfl, HH.out.1, HH.out.2⟩
set_option maxRecDepth 100000 in
theorem wbytes_spoilt (w : World) (B g : Nat) (v : Value) (h : WSt w B g v none) :
    Calls Tryz.prog 11 #[.pointer (some ⟨g, 0, none⟩)] w fun e w' => e = .returned (.tuple #[.slice none 0 0, .int .i64 2]) ∧ w = w' := by
  have ha := answered_self w g (h.1.cell 0 rfl)
  have c1 : w.cell? ⟨g, 1, none⟩ = some (.bool true) := h.1.cell 1 rfl
  clear h
  go_enter Tryz.func11, Tryz.ntmps11
  go_wp2_with fail
  refine ha.mono ?_
  rintro e w1 ⟨rfl, rfl⟩
  clear ha
  go_wp2_with fail
  go_ret2
  exact ⟨rfl, rfl⟩
set_option maxRecDepth 100000 in
theorem rbytes_spoilt (w : World) (B g : Nat) (v : Value) (h : RfS w B g v none) :
    Calls Tryz.prog 12 #[.pointer (some ⟨g, 0, none⟩)] w fun e w' => e = .returned (.tuple #[.slice none 0 0, .int .i64 2]) ∧ w = w' := by
  have c1 : w.cell? ⟨g, 1, none⟩ = some (.bool true) := h.1.cell 1 rfl
  clear h
  go_enter Tryz.func12, Tryz.ntmps12
  go_wp2
  go_ret2
  exact ⟨rfl, rfl⟩
set_option maxRecDepth 100000 in
theorem rbytes_good (w : World) (B g : Nat) (v : Value) (l : List UInt8) (h : RfV w B g v l) (hx : l.length ≤ 2000000) :
    Calls Tryz.prog 12 #[.pointer (some ⟨g, 0, none⟩)] w fun e w' => ∃ u, e = .returned (.tuple #[u, .int .i64 0]) ∧ w'.ownsRow w.heap.size 5 1 u l.length (B8 l).toList ∧ Below w.heap.size w w' := by
  have c1 : w.cell? ⟨g, 1, none⟩ = some (.bool false) := h.1.cell 1 rfl
  have c2 : w.cell? ⟨g, 0, none⟩ = some v := h.1.cell 0 rfl
  have hb : Below w.heap.size w (w.alloc (.cells #[] 5)) := (Below.refl _ _).alloc (Nat.le_refl _) _
  have he : (w.alloc (.cells #[] 5)).ownsRow w.heap.size 5 1 (.slice (some ⟨w.heap.size, 0, none⟩) 0 0) 0 [] := World.ownsRow_made w #[] 0 (Nat.le_refl _) (Nat.zero_le _) rfl
  have c3 : (w.alloc (.cells #[] 5)).cell? ⟨g, 0, none⟩ = some v := (hb.cell (p := ⟨g, 0, none⟩) h.1.lt).trans c2
  have HB := Lib.hid hb
  have HE := Lib.hid he
  rcases h.2.1.2 with ⟨rfl, hn⟩ | ⟨k, cap, cur, rfl, _, hk, _⟩
  · obtain rfl : l = [] := List.eq_nil_of_length_eq_zero hn
    clear h hb he
    go_enter Tryz.func12, Tryz.ntmps12
    go_wp2_with fail
    go_ret2
    exact ⟨_, rfl, HE.out, HB.out⟩
  · have hs := own_src h.2.1
    have hg := (Array.getElem?_eq_some_iff.1 hk).1
    have hs2 : Src (w.alloc (.cells #[] 5)) k 0 l := fun j hj => (hb.cell (p := ⟨k, 0 + j, none⟩) hg).trans (hs j hj)
    obtain ⟨i0, hi0, hz0, hz1, hz2⟩ := info_parts info5
    have HS := Lib.hid hs2
    clear h hb he hs hs2 hk
    go_enter Tryz.func12, Tryz.ntmps12
    go_wp2_with (at_builtin; go_must (refine wpList_append_own_at _ rfl _ _ 26 rfl w.heap.size 5 i0 (.int .u8 0) 1 1 Tryz.underlying26 hi0 hz0 hz1 hz2 rfl (by decide) _ 0 [] rfl HE.out ⟨k, 0, none⟩ l.length cap (B8 l).toList rfl (by rw [Array.length_toList, B8_size, Nat.mul_one]) (src_news HS.out) (byts_one _) (by unfold maxLen; omega) (by omega) (by simp) ?_; intro v' w1 hown hgrow _ hat))
    go_ret2
    refine ⟨_, rfl, by simpa using hown, HB.out.grown hgrow (by simp) (fun k e => ?_)⟩
    have : w.heap.size = k := Option.some.inj e
    omega
end Go.Proofs.YtjbjagdpemnhiaaGreat
