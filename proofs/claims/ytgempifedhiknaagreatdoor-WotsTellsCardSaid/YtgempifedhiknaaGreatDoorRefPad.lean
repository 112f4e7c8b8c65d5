/-
  The document's own padding: a row of bytes as it is hashed. At most a million bytes.
-/
import Derived.Test.YtgempifedhiknaaGreatDoorRefNums
import Derived.Test.YtgempifedhiknaaGreatDoorHex
import Derived.Deep.Cut
namespace Go.Proofs.YtgempifedhiknaaGreatDoor
set_option maxRecDepth 100000
open Go.RowKit Sha

theorem empty_own8 (w : World) : (w.alloc (.cells #[] 5)).ownsRow w.heap.size 5 1 (.slice (some ⟨w.heap.size, 0, none⟩) 0 0) 0 [] := World.ownsRow_made w #[] 0 (Nat.le_refl _) (Nat.zero_le _) rfl
theorem byts_news {w : World} {g off : Nat} {l : List UInt8} (h : Byts w g off l) : ∀ j u, (B8 l).toList[j]? = some u → w.cell? ((⟨g, off, none⟩ : Addr).add j) = some u := by
  intro j u hu
  rw [Addr.add_mid]
  have hj : j < l.length := by
    have := (List.getElem?_eq_some_iff.1 hu).1
    rwa [Array.length_toList, B8_size] at this
  rw [Array.getElem?_toList, B8_get l j hj] at hu
  rw [h j hj, ← hu]
theorem byts_one (l : List UInt8) : ∀ u, u ∈ (B8 l).toList → u.oneCell' = true := by
  intro u hu
  exact (Array.all_eq_true_iff_forall_mem.1 (B8_one l)) u (by simpa using hu)

/-- Bytes in a slice of the call's own. -/
def AtQ (w0 : World) (l : List UInt8) (v : Value) (w : World) : Prop := w.ownsRow w0.heap.size 5 1 v l.length (B8 l).toList ∧ Below w0.heap.size w0 w
theorem AtQ.alloc {w0 : World} {l : List UInt8} {v : Value} {w : World} (h : AtQ w0 l v w) (o : Obj) : AtQ w0 l v (w.alloc o) := ⟨h.1.alloc o, h.2.alloc h.2.size o⟩
/-- One byte more. -/
theorem wpList_push {w0 w : World} {ops : Array Oper} {rest : List Oper} {o : Oper} {a : Act} {Q : Exit → Act → World → Prop} (hgd : o.guard = none) (sx x : Operand)
    (ho : o.op = .call { callee := .builtin .append, args := #[sx, x], argTypes := #[22, 22] }) (l : List UInt8) (v : Value) (b : UInt8)
    (hs : a.eval sx = v) (hx : a.eval x = .slice (some ⟨w.heap.size, 0, none⟩) 1 1) (hl : l.length ≤ 2000000) (h : AtQ w0 l v w)
    (k : ∀ v' w', Hid (AtQ w0 (l ++ [b]) v' w') → wpList Tryz.prog ops Q rest (a.put o.dst v') w') : wpList Tryz.prog ops Q (o :: rest) a (w.alloc (.cells #[.int .u8 b.toNat] 5)) := by
  obtain ⟨i0, hi0, hz0, hz1, hz2⟩ := info_parts info5
  refine wpList_append_own _ hgd sx x 22 ho w0.heap.size 5 i0 (.int .u8 0) 1 1 Tryz.underlying22 hi0 hz0 hz1 hz2 rfl (by decide) v l.length (B8 l).toList hs (h.alloc _).1 ⟨w.heap.size, 0, none⟩ 1 1 [.int .u8 b.toNat] hx rfl ?_ (by simp [Value.oneCell']) (by unfold maxLen; omega) (by omega) (by have := h.2.size; simp; omega) ?_
  · exact World.news_of_block (cs := #[.int .u8 b.toNat]) (t := 5) (fr := (0, 0)) (heap_alloc_new w _)
  · intro v' w' hown hgrow _
    refine k v' w' ⟨?_, ?_⟩
    · have e : (B8 (l ++ [b])).toList = (B8 l).toList ++ [.int .u8 b.toNat] := by simp [B8]
      rw [e, List.length_append]; exact hown
    · exact (h.alloc _).2.grown hgrow (by have := h.2.size; simp; omega) (fun j e => (h.1.lt j e).1)

theorem AtQ.shape {w0 : World} {l : List UInt8} {v : Value} {w : World} (h : AtQ w0 l v w) (hl : 0 < l.length) : ∃ g c, v = .slice (some ⟨g, 0, none⟩) l.length c := by
  rcases h.1.2 with ⟨_, h0⟩ | ⟨g, cap, cur, rfl, _⟩
  · omega
  · exact ⟨g, cap, rfl⟩
def zpad (l : List UInt8) (z : Nat) : List UInt8 := l ++ [128] ++ List.replicate z 0
theorem zpad_length (l : List UInt8) (z : Nat) : (zpad l z).length = l.length + 1 + z := by simp [zpad]; omega
theorem zpad_succ (l : List UInt8) (z : Nat) : zpad l z ++ [0] = zpad l (z + 1) := by
  unfold zpad; rw [List.append_assoc, ← List.replicate_succ']
theorem gap_more (n z : Nat) (h : z < gap n) : (n + 1 + z) % 64 ≠ 56 := by unfold gap at h; omega
theorem gap_end (n : Nat) : (n + 1 + gap n) % 64 = 56 := by unfold gap; omega
theorem be_take (n j : Nat) (hj : j < 8) : (be64 n).take j ++ [UInt8.ofNat (n / 2 ^ (8 * (7 - j)))] = (be64 n).take (j + 1) := by
  match j, hj with
  | 0, _ => rfl
  | 1, _ => rfl
  | 2, _ => rfl
  | 3, _ => rfl
  | 4, _ => rfl
  | 5, _ => rfl
  | 6, _ => rfl
  | 7, _ => simp [be64]
theorem pad_is (l : List UInt8) : zpad l (gap l.length) ++ (be64 (l.length * 8)).take 8 = pad l := by
  have : (be64 (l.length * 8)).take 8 = be64 (l.length * 8) := rfl
  rw [this]; unfold zpad pad; simp
theorem AtQ.byts {w0 : World} {l : List UInt8} {g n c : Nat} {w : World} (h : AtQ w0 l (.slice (some ⟨g, 0, none⟩) n c) w) : Byts w g 0 l ∧ w0.heap.size ≤ g := by
  refine ⟨fun j hj => ?_, (h.1.lt g rfl).1⟩
  have := h.1.cells (g := g) rfl j _ (by rw [Array.getElem?_toList, B8_get l j hj])
  rwa [Addr.add_mid] at this
theorem be_len (n j : Nat) (hj : j ≤ 8) : ((be64 n).take j).length = j := by
  have : (be64 n).length = 8 := rfl
  rw [List.length_take]; omega
def lenQ : Value → Nat | .slice _ n _ => n | _ => 0

/-- What is answered: new bytes. -/
def Padded (w : World) (l : List UInt8) (e : Ending) (w' : World) : Prop :=
  ∃ n c, e = .returned (.slice (some ⟨n, 0, none⟩) (pad l).length c) ∧ (pad l).length ≤ c ∧ c ≤ maxLen ∧ Byts w' n 0 (pad l) ∧ w.heap.size ≤ n ∧ n < w'.heap.size ∧ Below w.heap.size w w'
theorem AtQ.room {w0 : World} {l : List UInt8} {g n c : Nat} {w : World} (h : AtQ w0 l (.slice (some ⟨g, 0, none⟩) n c) w) : n ≤ c ∧ c ≤ maxLen ∧ g < w.heap.size := by
  refine ⟨?_, ?_, (h.1.lt g rfl).2⟩
  · rcases h.1.2 with ⟨e, _⟩ | ⟨g', cap, cur, e, _, _, h1, h2, _⟩
    · cases e
    · cases e; exact h1
  · rcases h.1.2 with ⟨e, _⟩ | ⟨g', cap, cur, e, _, _, h1, h2, _⟩
    · cases e
    · cases e; exact h2

set_option maxRecDepth 100000 in
set_option maxHeartbeats 1000000 in
theorem padded_any (l : List UInt8) (hl : l.length ≤ 1000000) (hpos : 0 < l.length) (w : World) (g off cap : Nat) (hg : g < w.heap.size) (hb : Byts w g off l) :
    Calls Tryz.prog 67 #[.slice (some ⟨g, off, none⟩) l.length cap] w (Padded w l) := by
  obtain ⟨i0, hi0, hz0, hz1, hz2⟩ := info_parts info5
  have hm8 : 0 + l.length ≤ maxLen := by unfold maxLen; omega
  have hb2 : (0 + l.length) * 1 ≤ 140737488355328 := by omega
  have HM8 := Lib.hid hm8
  have HB2 := Lib.hid hb2
  have hn8 : Byts (w.alloc (.cells #[] 5)) g off l := hb.below ((Below.refl _ _).alloc (Nat.le_refl _) _) hg
  have HN := Lib.hid hn8
  clear hm8 hn8 hb2
  go_enter Tryz.func67, Tryz.ntmps67
  go_upto_region 2 with (at_builtin; refine wpList_append_own _ rfl _ _ 22 rfl w.heap.size 5 i0 (.int .u8 0) 1 1 Tryz.underlying22 hi0 hz0 hz1 hz2 rfl (by decide) _ 0 [] rfl (empty_own8 w) ⟨g, off, none⟩ l.length cap (B8 l).toList rfl (by rw [Array.length_toList, B8_size, Nat.mul_one]) (byts_news HN.out) (byts_one _) HM8.out HB2.out (by simp) ?_; intro v' w2 hown hgrow _)
  have hq : AtQ w l v' w2 := by
    have hgrow2 : (w.alloc (.cells #[] 5)).grownBy w2 (some w.heap.size) := hgrow
    refine ⟨by simpa using hown, ((Below.refl _ _).alloc (Nat.le_refl _) _).grown hgrow2 (by simp) (fun j e => by have := Option.some.inj e; omega)⟩
  have HQ := Lib.hid hq
  clear hq hown hgrow HN HM8 HB2 hi0 hz0 hz1 hz2
  go_upto_region 3 with (at_builtin; refine wpList_push rfl _ _ rfl l v' 128 rfl rfl (by omega) HQ.out ?_; intro v3 w3 HQ3)
  have hq3 : AtQ w (zpad l 0) v3 w3 := by have := HQ3.out; simpa [zpad] using this
  obtain ⟨g3, c3, hv3⟩ := hq3.shape (by rw [zpad_length]; omega)
  rw [zpad_length] at hv3
  rw [hv3] at hq3 ⊢
  have HS := Lib.hid hq3
  clear hq3 hv3 HQ3 HQ hb
  go_loopw [3] (fun v wr => ∃ (z g3 c3 : Nat), z ≤ gap l.length ∧ v = .slice (some ⟨g3, 0, none⟩) (l.length + 1 + z) c3 ∧ AtQ w (zpad l z) v wr) (fun v _ => l.length + 1 + gap l.length - lenQ v)
  case atStart => exact ⟨0, g3, c3, Nat.zero_le _, rfl, HS.out⟩
  case round =>
    obtain ⟨z, g4, c4, hz, rfl, hat⟩ := hrel
    have HA := Lib.hid hat
    clear hat HS
    by_cases hlt : z < gap l.length
    · have hne := gap_more l.length z hlt
      have hgl : gap l.length ≤ 63 := by unfold gap; omega
      have b1 : (((l.length : Int) + 1 + (z : Int)) % 64 != 56) = true := by rw [bne_iff_ne]; omega
      go_wp2_with (at_builtin; refine wpList_push rfl _ _ rfl (zpad l z) _ 0 rfl rfl (by rw [zpad_length]; omega) HA.out ?_; intro v5 w5 HQ5; rw [zpad_succ] at HQ5; obtain ⟨g6, c6, hv6⟩ := HQ5.out.shape (by rw [zpad_length]; omega); rw [zpad_length] at hv6; rw [hv6] at HQ5 ⊢; clear hv6)
      refine ⟨⟨_, _, _, _, _, _, _, _, ⟨z + 1, g6, c6, hlt, rfl, HQ5.out⟩, rfl⟩, ?_⟩
      show l.length + 1 + gap l.length - (l.length + 1 + (z + 1)) < l.length + 1 + gap l.length - (l.length + 1 + z)
      omega
    · have hzg : z = gap l.length := by omega
      have he := gap_end l.length
      rw [← hzg] at he
      have b0 : (((l.length : Int) + 1 + (z : Int)) % 64 != 56) = false := by rw [bne_eq_false_iff_eq]; omega
      have hgl : gap l.length ≤ 63 := by unfold gap; omega
      have hn8 := all8 l.length hl
      obtain ⟨n, hn⟩ : ∃ n, n = l.length * 8 := ⟨_, rfl⟩
      rw [← hn] at hn8
      have HZG := Lib.hid hzg
      have HNN := Lib.hid hn
      have hu := wrap_u64_nat l.length hl
      clear hzg hn he
      go_wp2_with fail
      clear hn8 hu b0
      have hq0 : AtQ w (zpad l z ++ (be64 n).take 0) (.slice (some ⟨g4, 0, none⟩) (l.length + 1 + z) c4) wr := by simpa using HA.out
      have HQ0 := Lib.hid hq0
      clear hq0 HA hlt hz
      go_loopw [3, 5] (fun v i wr => ∃ (j g3 c3 : Nat), j ≤ 8 ∧ i = .int .i64 (7 - (j : Int)) ∧ v = .slice (some ⟨g3, 0, none⟩) (l.length + 1 + z + j) c3 ∧ AtQ w (zpad l z ++ (be64 n).take j) v wr) (fun _ i _ => (intOf i + 1).toNat)
      case atStart => exact ⟨0, g4, c4, by omega, rfl, rfl, HQ0.out⟩
      case round =>
        obtain ⟨j, g5, c5, hj, rfl, rfl, hat⟩ := hrel
        have HA := Lib.hid hat
        clear hat HQ0
        by_cases hlt : j < 8
        · have x1 : (0 : Int) ≤ 7 - (j : Int) := by omega
          have x2 : (j : Int) ≤ 7 := by omega
          have x3 : IntKind.u64.wrap (8 * (7 - (j : Int))) = 8 * (7 - (j : Int)) := by rw [IntKind.wrap_u64]; omega
          have x4 : (0 : Int) ≤ 8 * (7 - (j : Int)) := by omega
          have x5 : 8 * (7 - (j : Int)) ≤ 64 := by omega
          have x6 : (8 * (7 - (j : Int))).toNat = 8 * (7 - j) := by omega
          have hbb := u8_div n (8 * (7 - j))
          have hbt := be_take n j hlt
          generalize UInt8.ofNat (n / 2 ^ (8 * (7 - j))) = bb at hbb hbt
          have HBT := Lib.hid hbt
          clear hbt
          have hl8 : (zpad l z ++ (be64 n).take j).length ≤ 2000000 := by rw [List.length_append, zpad_length, be_len n j (by omega)]; have := HZG.out; omega
          have hl9 : (zpad l z ++ (be64 n).take (j + 1)).length = l.length + 1 + z + (j + 1) := by rw [List.length_append, zpad_length, be_len n (j + 1) (by omega)]
          have HL8 := Lib.hid hl8
          have HL9 := Lib.hid hl9
          clear hl8 hl9
          go_wp2_with (at_builtin; refine wpList_push rfl _ _ rfl (zpad l z ++ (be64 n).take j) _ bb rfl rfl HL8.out HA.out ?_; intro v5 w5 HQ5; rw [List.append_assoc, HBT.out] at HQ5; obtain ⟨g6, c6, hv6⟩ := HQ5.out.shape (by rw [HL9.out]; omega); rw [HL9.out] at hv6; rw [hv6] at HQ5 ⊢; clear hv6)
          have hi : Value.int .i64 (7 - (j : Int) - 1) = Value.int .i64 (7 - ((j + 1 : Nat) : Int)) := by congr 1; omega
          refine ⟨⟨_, _, _, _, _, _, _, _, _, _, _, _, _, _, _, ⟨j + 1, g6, c6, hlt, hi, rfl, HQ5.out⟩, rfl⟩, ?_⟩
          show (7 - (j : Int) - 1 + 1).toNat < (7 - (j : Int) + 1).toNat
          clear hbb
          omega
        · have hj8 : j = 8 := by omega
          have x1 : ¬ (0 : Int) ≤ 7 - (j : Int) := by omega
          have x2 : (7 : Int) < (j : Int) := by omega
          have hat := HA.out
          rw [hj8] at hat
          rw [HZG.out, HNN.out, pad_is] at hat
          have hlen : (pad l).length = l.length + 1 + z + j := by rw [← pad_is, List.length_append, zpad_length, be_len _ 8 (by omega), hj8, HZG.out]
          have HX := Lib.hid (And.intro hat.byts (And.intro hat.2 hat.room))
          have HLEN := Lib.hid hlen
          clear hat hlen hj8 HA hlt hj
          go_wp2_with fail
          go_ret
          exact ⟨g5, c5, by rw [HLEN.out]; rfl, by rw [← pad_is, List.length_append, zpad_length, be_len _ 8 (by omega)]; exact HX.out.2.2.1, HX.out.2.2.2.1, HX.out.1.1, HX.out.1.2, HX.out.2.2.2.2, HX.out.2.1⟩
end Go.Proofs.YtgempifedhiknaaGreatDoor
