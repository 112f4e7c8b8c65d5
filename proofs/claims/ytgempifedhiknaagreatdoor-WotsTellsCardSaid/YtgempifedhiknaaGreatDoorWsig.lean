/-
  All chains of a signature (24, 36): an iterator.
-/
import Derived.Test.YtgempifedhiknaaGreatDoorWseed
import Derived.Deep.WholeRow
namespace Go.Proofs.YtgempifedhiknaaGreatDoor
set_option maxRecDepth 100000
open Go.RowKit Go.Shelf Sha

attribute [local go_sem] Oper.semAt_some
attribute [-go_sem] Instr.build storeCells loadCellsFrom

/-- The hash i of a row of them. -/
def hashAt (F : List UInt8) (i : Nat) : List UInt8 := if i < 35 then (F.drop (i * 32)).take 32 else List.replicate 32 0
theorem hashAt_length (F : List UInt8) (hF : F.length = 1120) (i : Nat) : (hashAt F i).length = 32 := by
  unfold hashAt
  split
  · rw [List.length_take, List.length_drop]; omega
  · simp
def placeAt (D : List UInt8) (i : Nat) : Nat := (D.getD i 0).toNat
theorem load_hash {W : World} {g : Nat} {F : List UInt8} (hs : Src W g 0 F) (hF : F.length = 1120) (k : Nat) (hk : k < 35) : (loadCellsFrom ⟨g, k * 32, none⟩ 0 32 #[]).run Tryz.prog W = .ok (B8 (hashAt F k)) W := by
  have hl := hashAt_length F hF k
  have := run_loadCells_list (P := Tryz.prog) W ⟨g, k * 32, none⟩ (B8 (hashAt F k)).toList (fun j v hv => by
    have hadd : (⟨g, k * 32, none⟩ : Addr).add j = ⟨g, k * 32 + j, none⟩ := by unfold Addr.add; split <;> simp_all
    rw [hadd]
    have hj : j < 32 := by
      have := (List.getElem?_eq_some_iff.1 hv).1
      rw [Array.length_toList, B8_size, hl] at this
      exact this
    have h1 := hs (k * 32 + j) (by omega)
    rw [Nat.zero_add] at h1
    rw [h1, ← hv, Array.getElem?_toList, B8_get _ j (by rw [hl]; exact hj)]
    unfold hashAt
    rw [if_pos hk]
    simp only [List.getD_eq_getElem?_getD]
    rw [List.getElem?_take_of_lt hj, List.getElem?_drop])
  have e : (B8 (hashAt F k)).toList.length = 32 := by rw [Array.length_toList, B8_size, hl]
  rw [e] at this
  simpa [loadCells] using this
theorem load_whole {W : World} {g : Nat} {cs : Array Value} {t : TypeId} (h : Lies W g cs t) (n : Nat) (hn : cs.size = n) : (loadCellsFrom ⟨g, 0, none⟩ 0 n #[]).run Tryz.prog W = .ok cs W := by
  have := run_loadCells_list (P := Tryz.prog) W ⟨g, 0, none⟩ cs.toList (fun j v hv => by
    have hadd : (⟨g, 0, none⟩ : Addr).add j = ⟨g, j, none⟩ := by unfold Addr.add; split <;> simp_all
    rw [hadd, cell_of_row _ _ j cs t (0, 0) h]
    simpa using hv)
  have e : cs.toList.length = n := by rw [Array.length_toList, hn]
  rw [← e]
  simpa [loadCells] using this
def zero32 : Array Value := #[Value.int .u8 0, .int .u8 0, .int .u8 0, .int .u8 0, .int .u8 0, .int .u8 0, .int .u8 0, .int .u8 0, .int .u8 0, .int .u8 0, .int .u8 0, .int .u8 0, .int .u8 0, .int .u8 0, .int .u8 0, .int .u8 0, .int .u8 0, .int .u8 0, .int .u8 0, .int .u8 0, .int .u8 0, .int .u8 0, .int .u8 0, .int .u8 0, .int .u8 0, .int .u8 0, .int .u8 0, .int .u8 0, .int .u8 0, .int .u8 0, .int .u8 0, .int .u8 0]
theorem store_hash (W : World) (h : List UInt8) (hh : h.length = 32) : (storeCells ⟨W.heap.size, 0, none⟩ (B8 h).toList 0).run Tryz.prog (W.alloc (.cells zero32 24)) = .ok () (W.alloc (.cells (B8 h) 24)) :=
  run_storeCells_new W 24 zero32 (B8 h) (by rw [B8_size, hh]; kernel_rfl) (by rw [B8_size, hh]; rfl) (B8_one h)
theorem round_bool {e : Ending} {A B : Prop} (h : (e = .returned (.bool true) ∧ A) ∨ (e = .returned (.bool false) ∧ B)) : ∃ bb : Bool, e = .returned (.bool bb) ∧ (if bb = true then A else B) := by
  rcases h with ⟨rfl, h⟩ | ⟨rfl, h⟩
  · exact ⟨true, rfl, by simpa using h⟩
  · exact ⟨false, rfl, by simpa using h⟩
set_option maxRecDepth 100000 in
set_option maxHeartbeats 1000000 in
theorem signed1_in (n : Nat) (l B1 B2 g cap n₀ b0 : Nat) (F D : List UInt8) (hF : F.length = 1120) (hD : D.length = 35) (J Jx : List (Fin 35) → World → Prop) (W0 : World) (hJ : AbidesFrom W0.heap.size J)
    (hY : ∀ pre x W, J pre W → pre.length < 35 → YieldAt Fence.wide (n - 1) Tryz.prog l (encC (hashAt F) (placeAt D) x) W fun e W' => (e = .returned (.bool true) ∧ J (pre ++ [x]) W' ∧ KB n₀ b0 W W') ∨ (e = .returned (.bool false) ∧ Jx (pre ++ [x]) W'))
    (h1 : W0.cell? ⟨B1, 0, none⟩ = some (.slice (some ⟨g, 0, none⟩) 35 cap)) (h2 : Lies W0 B2 (B8 D) 40) (hsrc : Src W0 g 0 F) (hb1 : B1 < n₀ ∧ B1 ≠ b0) (hb2 : B2 < n₀ ∧ B2 ≠ b0) (hg : g < n₀ ∧ g ≠ b0) (hn0 : n₀ ≤ W0.heap.size) (h0 : J [] W0) :
    CallsIn Fence.wide n Tryz.prog 65 #[.func (.yield l) #[] #[], .pointer (some ⟨B1, 0, none⟩), .pointer (some ⟨B2, 0, none⟩)] W0 fun e W' => (∃ v, e = .returned v) ∧
      ((∃ ys : List (Fin 35), ys.map Fin.val = List.range 35 ∧ J ys W') ∨ (∃ pre, True ∧ Jx pre W')) := by
  have hmix : Tryz.prog.follows .mixedOrders = true := by kernel_rfl
  have HFD := Lib.hid (And.intro hF hD)
  have HJ := Lib.hid hJ
  have HY := Lib.hid hY
  have HL := Lib.hid (And.intro h2 hsrc)
  have HN := Lib.hid (And.intro hb1 (And.intro hb2 (And.intro hg hn0)))
  have H0 := Lib.hid h0
  clear hF hD hJ hY h2 hsrc hb1 hb2 hg hn0 h0
  refine callsIn_of_wp Tryz.func65 rfl trivial ?_ rfl
  simp only [Tryz.ntmps65, List.size_toArray, List.length_cons, List.length_nil, Nat.reduceAdd, Nat.reduceSub, Array.replicate_succ, Array.replicate_zero, List.push_toArray, List.append_toArray, List.nil_append, List.cons_append]
  gi_wp2
  clear h1
  gi_loopw [8] (fun v wr => ∃ pre : List (Fin 35), pre.length ≤ 35 ∧ v = .int .i64 pre.length ∧ pre.map Fin.val = List.range pre.length ∧ J pre wr ∧ KB n₀ b0 W0 wr) (fun v _ => 35 - (intOf v).toNat)
  case atStart => exact ⟨[], by simp, rfl, rfl, H0.out, KB.refl _ _ _⟩
  case round =>
    obtain ⟨pre, hle, rfl, hmap, hJs, hkb⟩ := hrel
    obtain ⟨k, hk⟩ : ∃ k, k = pre.length := ⟨_, rfl⟩
    rw [← hk] at hle hmap ⊢
    by_cases hlt : k < 35
    · have m1 : (k : Int) < 35 := by omega
      have m0 : (0 : Int) ≤ (k : Int) := by omega
      obtain ⟨hv, hhv⟩ : ∃ hv, hv = B8 (hashAt F k) := ⟨_, rfl⟩
      have hs1 : Src wr g 0 F := fun j hj => (hkb.cell ⟨g, 0 + j, none⟩ HN.out.2.2.1.1 HN.out.2.2.1.2).trans (HL.out.2 j hj)
      have ld := load_hash hs1 HFD.out.1 k hlt
      rw [← hhv] at ld
      have h32 : hv.size = 32 := by rw [hhv, B8_size]; exact hashAt_length F HFD.out.1 k
      have st := store_hash wr (hashAt F k) (hashAt_length F HFD.out.1 k)
      rw [← hhv] at st
      simp only [zero32] at st
      have HK := Lib.hid (And.intro hk (And.intro hlt (And.intro hmap (And.intro hle hhv))))
      have HJS := Lib.hid (And.intro hJs hkb)
      clear hs1 hk hlt hmap hle hJs hkb hhv
      gi_wp2
      have hx : Lies (wr.alloc (.cells hv 24)).drew wr.heap.size hv 24 := (Lies.new wr hv 24).drew
      have hk6 : KB n₀ b0 wr (wr.alloc (.cells hv 24)).drew := KB.below ((Below.refl _ _).alloc (Nat.le_refl _) _).drew (Nat.le_trans HN.out.2.2.2 HJS.out.2.1)
      have hj6 : J pre (wr.alloc (.cells hv 24)).drew := HJ.out pre wr _ none HJS.out.1 (grown_drew (World.grownBy_alloc wr _ none)) (fun r e => by cases e)
      have hd6 := hk6.lies (HJS.out.2.lies HL.out.1 HN.out.2.1.1 HN.out.2.1.2) HN.out.2.1.1 HN.out.2.1.2
      obtain ⟨p, hp⟩ : ∃ p, p = placeAt D k := ⟨_, rfl⟩
      have c17 : (wr.alloc (.cells hv 24)).drew.cell? ⟨B2, k, none⟩ = some (.int .u8 p) := by
        rw [hp]; exact hd6.cell k (B8_get D k (by have := HFD.out.2; have := HK.out.2.1; omega))
      have ld5 := load_whole hx 32 h32
      obtain ⟨fn, tmps, assign, body, hy, hR⟩ := HY.out pre ⟨k, HK.out.2.1⟩ _ hj6 (by rw [← HK.out.1]; exact HK.out.2.1)
      have hlh := hashAt_length F HFD.out.1 k
      obtain ⟨lk, hlk⟩ : ∃ lk, lk = hv ++ #[Value.int .u8 (p : Int)] := ⟨_, rfl⟩
      obtain ⟨ck, hck⟩ : ∃ ck, ck = CH (hashAt F k) p k := ⟨_, rfl⟩
      have hb1 : ∀ W, (Instr.build 46 #[(0, .agg hv), (1, .int .u8 (p : Int))]).run Tryz.prog W = .ok (.agg lk) W := fun W => by rw [hlk, HK.out.2.2.2.2]; exact run_build W 46 _ _ (built_link (hashAt F k) hlh p)
      have hb2 : ∀ W, (Instr.build 48 #[(0, .agg lk), (1, .int .u8 (k : Int))]).run Tryz.prog W = .ok (.agg ck) W := fun W => by rw [hlk, hck, HK.out.2.2.2.2]; exact run_build W 48 _ _ (built_chain (hashAt F k) hlh p k)
      have hy2 : (Instr.yield l #[.agg ck]).run Tryz.prog (wr.alloc (.cells hv 24)).drew = .ok (.round l fn tmps assign body) (wr.alloc (.cells hv 24)).drew := by rw [hck, hp]; exact hy
      have HR := Lib.hid (And.intro hR (HJS.out.2.trans hk6))
      clear hy hR hk6 hj6 hd6 hx hlk hck hp hlh ld st
      have hwk : IntKind.u8.wrap (k : Int) = (k : Int) := by
        show (k : Int) % 256 = _
        omega
      gi_region_with_o (refine ⟨(fun hd => (by cases hd)), ?_⟩; refine HR.out.1.mono ?_; rintro e W3 h3; obtain ⟨bb, rfl, hbb⟩ := round_bool h3)
      all_goals
        have HBB := Lib.hid hbb
        clear hbb h3
        cases bb
        · have hjx := HBB.out
          simp only [Bool.false_eq_true, if_false] at hjx
          gi_wp2
          refine bodyPost_ret (results_none rfl _ _ _) rfl ?_
          exact ⟨⟨_, rfl⟩, .inr ⟨_, trivial, hjx⟩⟩
        · have hj3 := HBB.out
          simp only [if_true] at hj3
          have hk4 := HR.out.2.trans hj3.2
          gi_wp2
          go_roundw
          case rel => exact ⟨pre ++ [⟨k, HK.out.2.1⟩], by simp; have := HK.out; omega, by simp; have := HK.out; omega, snoc_map pre k HK.out.1 HK.out.2.1 HK.out.2.2.1, hj3.1, hk4⟩
          case measure => simp [intOf]; have := HK.out.2.1; omega
    · have hk35 : k = 35 := by omega
      subst hk35
      gi_wp2
      go_end0
      exact ⟨⟨_, rfl⟩, .inl ⟨pre, hmap, hJs⟩⟩
end Go.Proofs.YtgempifedhiknaaGreatDoor
