/-
  Raw: bytes go behind a writer's own.
-/
import Derived.Test.YtjbjagdpemnhiaaGreatNew
import Derived.Deep.DeepMust
import Derived.Deep.AppendLies
import Derived.Deep.MidRow
namespace Go.Proofs.YtjbjagdpemnhiaaGreat
open Go.RowKit

theorem info5 : (Tryz.prog.info? 5).map (fun i => (i.zero, i.size, i.bytes)) = some (some (.int .u8 0), 1, 1) := by kernel_rfl
def Src (w : World) (g off : Nat) (xs : List UInt8) : Prop := ∀ j, j < xs.length → w.cell? ⟨g, off + j, none⟩ = some (.int .u8 (xs.getD j 0).toNat)
theorem src_news {w : World} {g off : Nat} {l : List UInt8} (h : Src w g off l) : ∀ j u, (B8 l).toList[j]? = some u → w.cell? ((⟨g, off, none⟩ : Addr).add j) = some u := by
  intro j u hu
  rw [Addr.add_mid]
  have hj : j < l.length := by
    have := (List.getElem?_eq_some_iff.1 hu).1
    rwa [Array.length_toList, B8_size] at this
  rw [Array.getElem?_toList, B8_get l j hj] at hu
  rw [h j hj, ← hu]
theorem byts_one (l : List UInt8) : ∀ u, u ∈ (B8 l).toList → u.oneCell' = true := by
  intro u hu
  exact (Array.all_eq_true_iff_forall_mem.1 (B8_one l)) u (by simpa using hu)
/-- A writer in block g whose bytes are l, in the row v of its own above B. -/
def WrV (w : World) (B g : Nat) (v : Value) (l : List UInt8) : Prop :=
  Lies w g #[.pointer (some ⟨g, 0, none⟩), .bool false, v] 62 ∧ w.ownsRow B 5 1 v l.length (B8 l).toList ∧ v.ownBlock ≠ some g ∧ B ≤ g
/-- Behind a call that put more: the row is the old one or a new one. -/
def More (w : World) (B g : Nat) (v : Value) (l : List UInt8) (w' : World) : Prop :=
  ∃ v', WrV w' B g v' l ∧ Only g w w' v.ownBlock ∧ (v'.ownBlock = v.ownBlock ∨ ∃ k, v'.ownBlock = some k ∧ w.heap.size ≤ k ∧ k < w'.heap.size)
theorem own_set {w : World} {base : Nat} {e : TypeId} {size n : Nat} {u : Value} {xs : List Value} {g j : Nat} {x : Value} (h : w.ownsRow base e size u n xs) (hne : u.ownBlock ≠ some g) : (w.setCell ⟨g, j, none⟩ x).ownsRow base e size u n xs := by
  refine ⟨h.1, ?_⟩
  rcases h.2 with hn | ⟨k, cap, cur, h1, h2, h3, h4⟩
  · exact .inl hn
  · exact .inr ⟨k, cap, cur, h1, h2, (heap_setCell_other w _ k x (fun e => hne (by rw [h1]; show some k = some g; rw [e]))).trans h3, h4⟩
theorem own_slice {w : World} {base : Nat} {e : TypeId} {size n : Nat} {u : Value} {xs : List Value} (h : w.ownsRow base e size u n xs) : ∃ A c, u = .slice A n c := by
  rcases h.2 with ⟨hv, h0⟩ | ⟨g, cap, cur, rfl, _⟩
  · exact ⟨none, 0, by rw [hv, h0]⟩
  · exact ⟨_, cap, rfl⟩
/-- Bytes went behind the row: the writer holds the new row. -/
theorem more_of {w w1 : World} {B g : Nat} {v v' : Value} {l l2 : List UInt8} (h : WrV w B g v l) (hown : w1.ownsRow B 5 1 v' l2.length (B8 l2).toList) (hg : w.grownBy w1 v.ownBlock) (hat : v'.ownBlock = v.ownBlock ∨ v'.ownBlock = some w.heap.size) :
    More w B g v l2 (w1.setCell ⟨g, 2, none⟩ v') := by
  obtain ⟨h1, h2, h3, h4⟩ := h
  have hgl : g < w.heap.size := h1.lt
  have hne : v'.ownBlock ≠ some g := by
    rcases hat with e | e
    · rw [e]; exact h3
    · rw [e]; intro e2; have := Option.some.inj e2; omega
  have hl1 : Lies w1 g #[.pointer (some ⟨g, 0, none⟩), .bool false, v] 62 := (hg.block g hgl (fun e => h3 e.symm)).trans h1
  refine ⟨v', ⟨hl1.set 2 v', own_set hown hne, hne, h4⟩, ⟨hg.os, hg.tape, hg.output, by rw [size_set]; exact hg.size, fun k hk h5 h6 => (heap_setCell_other w1 _ k v' h5).trans (hg.block k hk h6)⟩, ?_⟩
  rcases hat with e | e
  · exact .inl e
  · exact .inr ⟨_, e, Nat.le_refl _, by rw [size_set]; exact own_lt hown e⟩

/-- Bytes that stand from a place on, wherever that is. -/
def SrcA (w : World) (ad : Addr) (xs : List UInt8) : Prop := ∀ j u, (B8 xs).toList[j]? = some u → w.cell? (ad.add j) = some u
theorem block_lt {w : World} {a : Addr} {v : Value} (h : w.cell? a = some v) : a.block < w.heap.size := by
  apply Decidable.byContradiction
  intro hn
  have e : w.heap[a.block]? = none := by simp; omega
  unfold World.cell? at h
  simp [e] at h
theorem adds_block (a : Addr) (j : Nat) : (a.add j).block = a.block := by unfold Addr.add; split <;> rfl
theorem SrcA.below {B : Nat} {w w' : World} {ad : Addr} {xs : List UInt8} (h : SrcA w ad xs) (hb : Below B w w') (hB : 0 < xs.length → ad.block < B) : SrcA w' ad xs := by
  intro j u hu
  have hj := (List.getElem?_eq_some_iff.1 hu).1
  rw [Array.length_toList, B8_size] at hj
  exact (hb.cell (p := ad.add j) (by rw [adds_block]; exact hB (by omega))).trans (h j u hu)
theorem SrcA.lt {w : World} {ad : Addr} {xs : List UInt8} (h : SrcA w ad xs) (hp : 0 < xs.length) : ad.block < w.heap.size :=
  by
    have := block_lt (h 0 _ (List.getElem?_eq_getElem (by rw [Array.length_toList, B8_size]; exact hp)))
    rwa [adds_block] at this
set_option maxRecDepth 100000 in
set_option maxHeartbeats 1000000 in
theorem raw_anyA (w : World) (B g : Nat) (v : Value) (l xs : List UInt8) (ad : Addr) (c : Nat) (h : WrV w B g v l) (hs : SrcA w ad xs) (hB : B ≤ w.heap.size) (hx : l.length + xs.length ≤ 2000000) :
    Calls Tryz.prog 31 #[.pointer (some ⟨g, 0, none⟩), .slice (some ad) xs.length c] w fun e w' => e = .returned (.tuple #[]) ∧ More w B g v (l ++ xs) w' := by
  obtain ⟨i0, hi0, hz0, hz1, hz2⟩ := info_parts info5
  have ht := takes_self w g false (h.1.cell 0 rfl) (h.1.cell 1 rfl)
  have c2 : w.cell? ⟨g, 2, none⟩ = some v := h.1.cell 2 rfl
  have HW := Lib.hid h
  have HS := Lib.hid hs
  clear h hs
  go_enter Tryz.func31, Tryz.ntmps31
  go_wp2_with fail
  refine ht.mono ?_
  rintro e w1 ⟨rfl, rfl⟩
  clear ht
  go_wp2_with (at_builtin; go_must (refine wpList_append_own_at _ rfl _ _ 26 rfl B 5 i0 (.int .u8 0) 1 1 Tryz.underlying26 hi0 hz0 hz1 hz2 rfl (by decide) v l.length (B8 l).toList rfl HW.out.2.1 ad xs.length c (B8 xs).toList rfl (by rw [Array.length_toList, B8_size, Nat.mul_one]) HS.out (byts_one _) (by unfold maxLen; omega) (by omega) hB ?_; intro v' w1 hown hgrow _ hat; obtain ⟨A', cc, rfl⟩ := own_slice hown; have c3 : w1.cell? ⟨g, 2, none⟩ = some v := (Lies.cell ((hgrow.block g HW.out.1.lt (fun e => HW.out.2.2.1 e.symm)).trans HW.out.1) 2 rfl); have f3 : w1.frozen? ⟨g, 2, none⟩ = false := (Lies.free (show Lies w1 g _ 62 from (hgrow.block g HW.out.1.lt (fun e => HW.out.2.2.1 e.symm)).trans HW.out.1) 2)))
  go_end0
  refine ⟨rfl, more_of HW.out ?_ hgrow hat⟩
  have e : (B8 (l ++ xs)).toList = (B8 l).toList ++ (B8 xs).toList := by simp [B8]
  rw [e, List.length_append]
  exact hown
theorem raw_any (w : World) (B g : Nat) (v : Value) (l xs : List UInt8) (gx off c : Nat) (h : WrV w B g v l) (hs : Src w gx off xs) (hB : B ≤ w.heap.size) (hx : l.length + xs.length ≤ 2000000) :
    Calls Tryz.prog 31 #[.pointer (some ⟨g, 0, none⟩), .slice (some ⟨gx, off, none⟩) xs.length c] w fun e w' => e = .returned (.tuple #[]) ∧ More w B g v (l ++ xs) w' :=
  raw_anyA w B g v l xs _ c h (src_news hs) hB hx
end Go.Proofs.YtjbjagdpemnhiaaGreat
