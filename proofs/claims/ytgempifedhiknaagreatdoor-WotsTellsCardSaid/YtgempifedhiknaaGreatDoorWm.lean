/-
  Chains of hashes, as plain mathematics; a chain's cells.
-/
import Derived.Test.YtgempifedhiknaaGreatDoorOf
import Derived.Laws.CopyRow
namespace Go.Proofs.YtgempifedhiknaaGreatDoor
set_option maxRecDepth 100000
open Go.RowKit Sha

/-- The hash behind h at place k of chain i. -/
def nextH (i k : Nat) (h : List UInt8) : List UInt8 := sha ([UInt8.ofNat i, UInt8.ofNat k] ++ h)
/-- n places further, from place a. -/
def onN (i a : Nat) : Nat → List UInt8 → List UInt8
  | 0, h => h
  | n + 1, h => nextH i (a + n + 1) (onN i a n h)
theorem onN_zero (i a : Nat) (h : List UInt8) : onN i a 0 h = h := rfl
theorem onN_succ (i a n : Nat) (h : List UInt8) : onN i a (n + 1) h = nextH i (a + n + 1) (onN i a n h) := rfl
theorem onN_add (i a m : Nat) (h : List UInt8) : ∀ n, onN i (a + m) n (onN i a m h) = onN i a (m + n) h
  | 0 => rfl
  | n + 1 => by
    show nextH i (a + m + n + 1) (onN i (a + m) n (onN i a m h)) = nextH i (a + (m + n) + 1) (onN i a (m + n) h)
    rw [onN_add i a m h n, Nat.add_assoc a m n]
theorem sha_len (l : List UInt8) : (sha l).length = 32 := rfl
theorem nextH_length (i k : Nat) (h : List UInt8) : (nextH i k h).length = 32 := sha_len _
theorem onN_length (i a : Nat) (h : List UInt8) (hh : h.length = 32) : ∀ n, (onN i a n h).length = 32
  | 0 => hh
  | _ + 1 => nextH_length _ _ _
/-- The first hash of a seed's chain. -/
def firstH (seed : List UInt8) (i : Nat) : List UInt8 := sha (seed ++ [UInt8.ofNat i])
theorem firstH_length (seed : List UInt8) (i : Nat) : (firstH seed i).length = 32 := sha_len _
/-- The hash of a seed's chain at a place. -/
def atH (seed : List UInt8) (i p : Nat) : List UInt8 := onN i 0 p (firstH seed i)
theorem atH_length (seed : List UInt8) (i p : Nat) : (atH seed i p).length = 32 := onN_length _ _ _ (firstH_length _ _) _

/-- A chain's cells: its hash, its place, its number. -/
def CH (h : List UInt8) (p n : Nat) : Array Value := B8 h ++ #[.int .u8 p, .int .u8 n]
theorem CH_size (h : List UInt8) (p n : Nat) (hh : h.length = 32) : (CH h p n).size = 34 := by simp [CH, B8_size, hh]
theorem CH_place (h : List UInt8) (p n : Nat) (hh : h.length = 32) : (CH h p n)[32]? = some (.int .u8 p) := by
  unfold CH
  rw [Array.getElem?_append_right (by rw [B8_size, hh]; exact Nat.le_refl _), B8_size, hh]; rfl
theorem CH_number (h : List UInt8) (p n : Nat) (hh : h.length = 32) : (CH h p n)[33]? = some (.int .u8 n) := by
  unfold CH
  rw [Array.getElem?_append_right (by rw [B8_size, hh]; omega), B8_size, hh]; rfl
theorem CH_byte (h : List UInt8) (p n j : Nat) (hj : j < h.length) : (CH h p n)[j]? = some (.int .u8 (h.getD j 0).toNat) := by
  unfold CH
  rw [Array.getElem?_append_left (by rw [B8_size]; exact hj), B8_get h j hj]
theorem CH_set_place (h : List UInt8) (p n q : Nat) (hh : h.length = 32) : (CH h p n).setIfInBounds 32 (.int .u8 q) = CH h q n := by
  unfold CH
  rw [Array.setIfInBounds_append_right (by rw [B8_size, hh]; exact Nat.le_refl _), B8_size, hh]; rfl
theorem CH_src {w : World} {b : Nat} {h : List UInt8} {p n : Nat} {T : TypeId} (hl : Lies w b (CH h p n) T) : Src w b 0 h := fun j hj => by
  rw [Nat.zero_add]
  exact hl.cell j (CH_byte h p n j hj)
theorem CH_one (h : List UInt8) (p n : Nat) : (CH h p n).all (·.oneCell') = true := by
  have h1 := Array.all_eq_true_iff_forall_mem.1 (B8_one h)
  rw [Array.all_eq_true_iff_forall_mem]
  intro v hv
  simp only [CH, Array.mem_append] at hv
  rcases hv with hv | hv
  · exact h1 v hv
  · simp at hv; rcases hv with rfl | rfl <;> rfl
/-- Another hash is stored where one is. -/
theorem CH_store {w : World} {b : Nat} {h : List UInt8} {p n : Nat} (hl : Lies w b (CH h p n) 48) (hh : h.length = 32) (h' : List UInt8) (hh' : h'.length = 32) :
    (storeCells ⟨b, 0, none⟩ (B8 h').toList 0).run Tryz.prog w = .ok () (w.setRow b (CH h' p n)) := by
  have := run_storeCells_at (P := Tryz.prog) b 0 48 (B8 h').toList 0 (CH h p n) w hl (by rw [Array.length_toList, B8_size, CH_size _ _ _ hh, hh']; omega) (fun v hv => Array.all_eq_true_iff_forall_mem.1 (B8_one h') v (by simpa using hv))
  rw [this]
  refine congrArg (Result.ok ()) (congrArg (w.setRow b) ?_)
  have l1 : (B8 h).toList.length = 32 := by rw [Array.length_toList, B8_size, hh]
  have l2 : (B8 h').toList.length = 32 := by rw [Array.length_toList, B8_size, hh']
  apply Array.ext'
  simp only [CH, Array.toList_append]
  rw [l2]
  simp only [Nat.zero_add, Nat.add_zero, List.take_zero, List.nil_append]
  rw [List.drop_append, l1, List.drop_of_length_le (by omega)]
  simp
/-- The bytes as values. -/
abbrev vals (l : List UInt8) : List Value := List.map (fun b => Value.int .u8 b.toNat) l
theorem vals_size (l : List UInt8) (h : l.length = 32) : (Tryz.prog.info? 24).map (·.size) = some (vals l).length := by
  rw [List.length_map, h]; kernel_rfl
theorem vals_one (l : List UInt8) : ∀ v ∈ vals l, v.oneCell' = true := fun v hv => by
  obtain ⟨b, _, rfl⟩ := List.mem_map.1 hv; rfl
theorem CH_cells {w : World} {b : Nat} {h : List UInt8} {p n : Nat} (hl : Lies w b (CH h p n) 48) (hh : h.length = 32) (h' : List UInt8) (hh' : h'.length = 32) :
    w.there b 0 (vals h').length ∧ Lies (w.setCells b 0 (vals h')) b (CH h' p n) 48 ∧ w.grownBy (w.setCells b 0 (vals h')) (some b) := by
  refine ⟨hl.there (by rw [CH_size _ _ _ hh, List.length_map, hh']; omega), ?_, grown_cells _ _ _ (grown_refl w _)⟩
  have h0 : Lies w b (CH h p n).toList.toArray 48 := hl
  have hz : 0 + (vals h').length ≤ (CH h p n).toList.length := by
    have h1 : (CH h p n).toList.length = 34 := (Array.length_toList).trans (CH_size h p n hh)
    have h2 : (vals h').length = 32 := (List.length_map _).trans hh'
    omega
  have := Lies.cells (vals h') 0 w _ h0 hz
  have e : (List.take 0 (CH h p n).toList ++ (vals h' ++ List.drop (0 + (vals h').length) (CH h p n).toList)).toArray = CH h' p n := by
    have l1 : (B8 h).toList.length = 32 := by rw [Array.length_toList, B8_size, hh]
    have l2 : (vals h').length = 32 := by rw [List.length_map, hh']
    apply Array.ext'
    simp only [CH, Array.toList_append]
    rw [l2]
    simp only [Nat.zero_add, List.take_zero, List.nil_append]
    rw [List.drop_append, l1, List.drop_of_length_le (by omega)]
    simp [B8]
  rwa [e] at this
/-- Two bytes, and a chain's hash: their hash. -/
theorem of_step (w : World) (b p n : Nat) (h : List UInt8) (hh : h.length = 32) (hp : p < 256) (hn : n < 256) (hl : Lies w b (CH h p n) 48) (hs : Starts w) (hc : Cubes w) :
    Calls Tryz.prog 12 #[.slice (some ⟨w.heap.size + 1, 0, none⟩) 2 2] ((w.alloc (.cells #[.int .u8 n, .int .u8 p] 5)).alloc (.cells #[.slice (some ⟨w.heap.size, 0, none⟩) 2 2, .slice (some ⟨b, 0, none⟩) 32 32] 22)).drew
      fun e w' => e = .returned (.agg (B8 (nextH n p h))) ∧ Below w.heap.size w w' := by
  have hb : Below w.heap.size w ((w.alloc (.cells #[.int .u8 n, .int .u8 p] 5)).alloc (.cells #[.slice (some ⟨w.heap.size, 0, none⟩) 2 2, .slice (some ⟨b, 0, none⟩) 32 32] 22)).drew := (((Below.refl _ _).alloc (Nat.le_refl _) _).alloc (by simp) _).drew
  have t1 : Lies ((w.alloc (.cells #[.int .u8 n, .int .u8 p] 5)).alloc (.cells #[.slice (some ⟨w.heap.size, 0, none⟩) 2 2, .slice (some ⟨b, 0, none⟩) 32 32] 22)).drew w.heap.size #[.int .u8 n, .int .u8 p] 5 := ((Lies.new w _ 5).alloc _).drew
  have t2 : Lies ((w.alloc (.cells #[.int .u8 n, .int .u8 p] 5)).alloc (.cells #[.slice (some ⟨w.heap.size, 0, none⟩) 2 2, .slice (some ⟨b, 0, none⟩) 32 32] 22)).drew (w.heap.size + 1) #[.slice (some ⟨w.heap.size, 0, none⟩) 2 2, .slice (some ⟨b, 0, none⟩) 32 32] 22 := by
    have := (Lies.new (w.alloc (.cells #[.int .u8 n, .int .u8 p] 5)) #[.slice (some ⟨w.heap.size, 0, none⟩) 2 2, .slice (some ⟨b, 0, none⟩) 32 32] 22).drew
    simpa using this
  have h1n : 1 < w.heap.size := Lies.lt hc
  have hl' := hl.below hb hl.lt
  generalize ((w.alloc (.cells #[.int .u8 n, .int .u8 p] 5)).alloc (.cells #[.slice (some ⟨w.heap.size, 0, none⟩) 2 2, .slice (some ⟨b, 0, none⟩) 32 32] 22)).drew = W at hb t1 t2 hl' ⊢
  have hj : joined [⟨some ⟨w.heap.size, 0, none⟩, [UInt8.ofNat n, UInt8.ofNat p], 2⟩, ⟨some ⟨b, 0, none⟩, h, 32⟩] = [UInt8.ofNat n, UInt8.ofNat p] ++ h := by simp [joined]
  have main := of_any [⟨some ⟨w.heap.size, 0, none⟩, [UInt8.ofNat n, UInt8.ofNat p], 2⟩, ⟨some ⟨b, 0, none⟩, h, 32⟩] W (some ⟨w.heap.size + 1, 0, none⟩) 2 (by simp [maxLen]) ?_ ?_ (by rw [hj]; simp; omega) (hs.below hb (by omega)) (hc.below hb h1n)
  · rw [hj] at main
    refine main.mono ?_
    rintro e w3 ⟨rfl, hb3⟩
    exact ⟨rfl, hb.trans (hb3.mono hb.size)⟩
  · intro q hq
    rcases List.mem_cons.1 hq with rfl | hq
    · refine ⟨Nat.le_refl _, by simp [maxLen], fun _ => ⟨_, _, rfl, t1.lt, fun j hj => ?_⟩⟩
      have : j = 0 ∨ j = 1 := by simp at hj; omega
      rcases this with rfl | rfl
      · have := t1.cell 0 (v := .int .u8 n) rfl
        rw [this]; simp [Nat.mod_eq_of_lt hn]
      · have := t1.cell 1 (v := .int .u8 p) rfl
        rw [show 0 + 1 = 1 from rfl, this]; simp [Nat.mod_eq_of_lt hp]
    · obtain rfl : q = _ := by simpa using hq
      exact ⟨by simp [hh], by simp [maxLen], fun _ => ⟨_, _, rfl, hl'.lt, CH_src hl'⟩⟩
  · intro _
    refine ⟨_, _, rfl, t2.lt, fun j hj => ?_⟩
    have : j = 0 ∨ j = 1 := by simp at hj; omega
    rcases this with rfl | rfl
    · exact t2.cell 0 rfl
    · have := t2.cell 1 (v := .slice (some ⟨b, 0, none⟩) 32 32) rfl
      rw [show 0 + 1 = 1 from rfl, this]; simp [Part.val, hh]
end Go.Proofs.YtgempifedhiknaaGreatDoor
