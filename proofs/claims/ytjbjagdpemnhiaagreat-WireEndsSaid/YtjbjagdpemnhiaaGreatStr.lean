/-
  append of a string's bytes onto a row, and where the new row lies; a writer's Text, Flag, Bytes.
-/
import Derived.Test.YtjbjagdpemnhiaaGreatPuts
import Derived.Test.YtjbjagdpemnhiaaGreatClone
import Derived.Lib.AppendStr
namespace Go.Proofs.YtjbjagdpemnhiaaGreat
open Go.RowKit

theorem append_str_at (w : World) (ty base : Nat) (v : Value) (n : Nat) (xs : List Value) (hown : w.ownsRow base 5 1 v n xs) (s : ByteArray) (hlen : n + s.size ≤ 4000000) (hbase : base ≤ w.heap.size) :
    ∃ v' w', (Builtin.append_ #[26, 9] ty #[v, .string s]).run Tryz.prog w = .ok v' w' ∧ w'.ownsRow base 5 1 v' (n + s.size) (xs ++ Lib.strCells s) ∧ w.grownBy w' v.ownBlock ∧
      (v'.ownBlock = v.ownBlock ∨ v'.ownBlock = some w.heap.size) := by
  obtain ⟨i0, hi0, hz0, hz1, hz2⟩ := info_parts info5
  obtain ⟨v', w', hr, h2, h3, h4⟩ := Lib.run_append_own_string (P := Tryz.prog) w base 26 9 ty 5 i0 Tryz.underlying26 Tryz.underlying9 hi0 hz0 hz1 hz2 v n xs hown s (by unfold maxLen; omega) (by omega) hbase
  refine ⟨v', w', hr, h2, h3, ?_⟩
  rcases hown.2 with ⟨rfl, rfl⟩ | ⟨g, cap, cur, rfl, hbg, hg, hnc, hcm, hcs, htake⟩
  · by_cases hs : s.size = 0
    · exact .inl (by rw [h4.2 ⟨rfl, hs⟩])
    · have := run_append_nil_string (P := Tryz.prog) w 26 9 ty 5 i0 (.int .u8 0) Tryz.underlying26 Tryz.underlying9 hi0 hz0 s (by omega) (by omega) (by rw [hz2]; omega)
      rw [hr] at this
      cases this
      exact .inr rfl
  · by_cases hroom : n + s.size ≤ cap
    · have := Lib.run_append_room_string (P := Tryz.prog) w 26 9 ty 5 i0 Tryz.underlying26 Tryz.underlying9 hi0 hz1 g n cap cur hg s hroom (by omega)
      rw [hr] at this
      cases this
      exact .inl rfl
    · have := Lib.run_append_grow_string (P := Tryz.prog) w 26 9 ty 5 i0 (.int .u8 0) Tryz.underlying26 Tryz.underlying9 hi0 hz0 ⟨g, 0, none⟩ n cap xs (by rw [hz1]; exact hown.1) (hown.cells (g := g) rfl) s (by omega) (by omega) (by rw [hz2]; exact growslice_fits (by omega) (by omega))
      rw [hr] at this
      cases this
      exact .inr rfl
theorem strCells_B8 (s : ByteArray) : Lib.strCells s = (B8 s.data.toList).toList := by simp [Lib.strCells, B8]
/-- The law at the operation, for the walk. -/
theorem wpList_append_str {ops : Array Oper} {rest : List Oper} {o : Oper} {a : Act} {Q : Exit → Act → World → Prop} (w : World) (hgd : o.guard = none) (sl x : Operand)
    (ho : o.op = .call { callee := .builtin .append, args := #[sl, x], argTypes := #[26, 9] })
    (base : Nat) (v : Value) (n : Nat) (xs : List Value) (hs : a.eval sl = v) (hown : w.ownsRow base 5 1 v n xs) (s : ByteArray) (hx : a.eval x = .string s)
    (hlen : n + s.size ≤ 4000000) (hbase : base ≤ w.heap.size)
    (h : ∀ v' w', w'.ownsRow base 5 1 v' (n + s.size) (xs ++ Lib.strCells s) → w.grownBy w' v.ownBlock → (v'.ownBlock = v.ownBlock ∨ v'.ownBlock = some w.heap.size) → wpList Tryz.prog ops Q rest (a.put o.dst v') w') :
    wpList Tryz.prog ops Q (o :: rest) a w := by
  refine wpList_plain hgd fun K hK => ?_
  obtain ⟨v', w', hr, h2, h3, h4⟩ := append_str_at w o.type base v n xs hown s hlen hbase
  unfold Oper.wp execOp
  simp only [ho, resolve, invoke, builtin, Sem.run_bind, Sem.run_pure, Result.andThen_ok, List.map_toArray, List.map_cons, List.map_nil, hs, hx, hr]
  exact hK _ _ (h v' w' h2 h3 h4)

set_option maxRecDepth 100000 in
set_option maxHeartbeats 1000000 in
theorem text_any (w : World) (B g : Nat) (v : Value) (l : List UInt8) (s : ByteArray) (h : WrV w B g v l) (hB : B ≤ w.heap.size) (hx : l.length ≤ 900000) (hs : s.size < 65536) :
    Calls Tryz.prog 17 #[.pointer (some ⟨g, 0, none⟩), .string s] w fun e w' => e = .returned (.tuple #[]) ∧ More w B g v (l ++ (beN s.size 2 ++ s.data.toList)) w' := by
  have hu := u16_any w B g v l s.size h hB (by omega) hs
  have HU := Lib.hid hu
  clear hu h
  go_enter Tryz.func17, Tryz.ntmps17
  go_wp2_with fail
  refine HU.out.mono ?_
  rintro e w1 ⟨rfl, v1, hw1, ho1, ha1⟩
  have ht := takes_self w1 g false (hw1.1.cell 0 rfl) (hw1.1.cell 1 rfl)
  have c2 : w1.cell? ⟨g, 2, none⟩ = some v1 := hw1.1.cell 2 rfl
  have hB1 : B ≤ w1.heap.size := Nat.le_trans hB ho1.size
  have hl1 : (l ++ beN s.size 2).length ≤ 900002 := by rw [List.length_append, beN_length]; omega
  have HW := Lib.hid hw1
  have HO := Lib.hid (And.intro ho1 ha1)
  clear hw1 ho1 ha1 HU
  go_wp2_with fail
  refine ht.mono ?_
  rintro e w2 ⟨rfl, rfl⟩
  clear ht
  go_wp2_with (at_builtin; go_must (refine wpList_append_str _ rfl _ _ rfl B v1 (l ++ beN s.size 2).length (B8 (l ++ beN s.size 2)).toList rfl HW.out.2.1 s rfl (by omega) hB1 ?_; intro v' w3 hown hgrow hat; obtain ⟨A', cc, rfl⟩ := own_slice hown; have c3 : w3.cell? ⟨g, 2, none⟩ = some v1 := (Lies.cell ((hgrow.block g HW.out.1.lt (fun e => HW.out.2.2.1 e.symm)).trans HW.out.1) 2 rfl); have f3 : w3.frozen? ⟨g, 2, none⟩ = false := (Lies.free (show Lies w3 g _ 62 from (hgrow.block g HW.out.1.lt (fun e => HW.out.2.2.1 e.symm)).trans HW.out.1) 2)))
  go_end0
  refine ⟨rfl, ?_⟩
  have hown2 : w3.ownsRow B 5 1 (.slice A' ((l ++ beN s.size 2).length + s.size) cc) (l ++ (beN s.size 2 ++ s.data.toList)).length (B8 (l ++ (beN s.size 2 ++ s.data.toList))).toList := by
    have e : (B8 (l ++ (beN s.size 2 ++ s.data.toList))).toList = (B8 (l ++ beN s.size 2)).toList ++ Lib.strCells s := by
      rw [strCells_B8, ← List.append_assoc]; simp [B8]
    have e2 : (l ++ (beN s.size 2 ++ s.data.toList)).length = (l ++ beN s.size 2).length + s.size := by
      rw [← List.append_assoc, List.length_append]; rfl
    rw [e, e2]
    exact hown
  rw [show (l ++ beN s.size 2).length = l.length + (beN s.size 2).length from List.length_append] at hown2 hat
  exact More.trans HO.out.1 HO.out.2 (more_of HW.out hown2 hgrow hat)
theorem flag_any (w : World) (B g : Nat) (v : Value) (l : List UInt8) (b : Bool) (h : WrV w B g v l) (hB : B ≤ w.heap.size) (hx : l.length ≤ 1000000) :
    Calls Tryz.prog 18 #[.pointer (some ⟨g, 0, none⟩), .bool b] w fun e w' => e = .returned (.tuple #[]) ∧ More w B g v (l ++ [if b then 1 else 0]) w' := by
  have e1 : beN 1 1 = [1] := by decide
  have e0 : beN 0 1 = [0] := by decide
  cases b
  · have hu := u8_any w B g v l 0 h hB hx (by omega)
    rw [e0] at hu
    have HU := Lib.hid hu
    clear hu h
    go_enter Tryz.func18, Tryz.ntmps18
    go_wp2_with fail
    refine HU.out.mono ?_
    rintro e w1 ⟨rfl, hm⟩
    have HM := Lib.hid hm
    clear hm
    go_wp2_with fail
    go_end0
    exact ⟨rfl, HM.out⟩
  · have hu := u8_any w B g v l 1 h hB hx (by omega)
    rw [e1] at hu
    have HU := Lib.hid hu
    clear hu h
    go_enter Tryz.func18, Tryz.ntmps18
    go_wp2_with fail
    refine HU.out.mono ?_
    rintro e w1 ⟨rfl, hm⟩
    have HM := Lib.hid hm
    clear hm
    go_wp2_with fail
    go_end0
    exact ⟨rfl, HM.out⟩
/-- What a row holds, read byte by byte. -/
theorem own_src {w : World} {B : Nat} {g c : Nat} {l : List UInt8} (h : w.ownsRow B 5 1 (.slice (some ⟨g, 0, none⟩) l.length c) l.length (B8 l).toList) : Src w g 0 l := by
  intro j hj
  have := h.cells (g := g) rfl j (.int .u8 (l.getD j 0).toNat) (by rw [Array.getElem?_toList]; exact B8_get l j hj)
  rwa [Addr.add_mid] at this
end Go.Proofs.YtjbjagdpemnhiaaGreat
