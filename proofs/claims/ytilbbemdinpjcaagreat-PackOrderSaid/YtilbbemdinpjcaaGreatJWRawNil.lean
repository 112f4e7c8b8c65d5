/-
  Raw of no bytes: of a nil slice.
-/
import Derived.Test.YtilbbemdinpjcaaGreatJWRd
import Derived.Lib.AppendStr
namespace Go.Proofs.YtilbbemdinpjcaaGreat.W
open Go.RowKit

/-- A writer in block g: its bytes, or spoilt. -/
def WSt (w : World) (B g : Nat) (v : Value) : Option (List UInt8) → Prop
  | some l => WrV w B g v l
  | none => Lies w g #[.pointer (some ⟨g, 0, none⟩), .bool true, v] 159 ∧ B ≤ g
def MoreO (w : World) (B g : Nat) (v : Value) (st : Option (List UInt8)) (w' : World) : Prop :=
  ∃ v', WSt w' B g v' st ∧ Only g w w' v.ownBlock ∧ (v'.ownBlock = v.ownBlock ∨ ∃ k, v'.ownBlock = some k ∧ w.heap.size ≤ k ∧ k < w'.heap.size)
theorem Only.weak {g : Nat} {w w' : World} (h : Only g w w' none) (o : Option Nat) : Only g w w' o := ⟨h.os, h.tape, h.output, h.size, fun k hk hg _ => h.block k hk hg (by simp)⟩
theorem MoreO.same {w : World} {B g : Nat} {v : Value} {st : Option (List UInt8)} (h : WSt w B g v st) : MoreO w B g v st w := ⟨v, h, Only.refl g w _, .inl rfl⟩
theorem MoreO.below {w w' : World} {B g : Nat} {v : Value} (h : WSt w B g v none) (hb : Below w.heap.size w w') : MoreO w B g v none w' := ⟨v, ⟨h.1.below hb h.1.lt, h.2⟩, (only_below hb).weak _, .inl rfl⟩
theorem WSt.idle {w : World} {B g : Nat} {v : Value} (h : WSt w B g v none) : Idle w (some ⟨g, 0, none⟩) := .inr ⟨g, rfl, h.1.lt, .inr ⟨h.1.cell 0 rfl, h.1.cell 1 rfl⟩⟩
theorem MoreO.spoilt {w : World} {B g : Nat} {v : Value} {l : List UInt8} (h : WrV w B g v l) : MoreO w B g v none (w.setCell ⟨g, 1, none⟩ (.bool true)) :=
  ⟨v, ⟨h.1.set 1 _, h.2.2.2⟩, (only_set g 1 w _).weak _, .inl rfl⟩
def stepN (st : Option (List UInt8)) (n s : Nat) : Option (List UInt8) := st.bind fun l => if n / 2 ^ (8 * s) = 0 then some (l ++ beN n s) else none
theorem num_st (w : World) (B g : Nat) (v : Value) (st : Option (List UInt8)) (n s : Nat) (h : WSt w B g v st) (hB : B ≤ w.heap.size) (hx : ∀ l, st = some l → l.length ≤ 1000000) (hn : n < 18446744073709551616) (hs : s ≤ 8) :
    Calls Tryz.prog 125 #[.pointer (some ⟨g, 0, none⟩), .int .u64 n, .int .i64 s] w fun e w' => e = .returned (.tuple #[]) ∧ MoreO w B g v (stepN st n s) w' := by
  cases st with
  | none =>
    refine (number_idle w _ n s h.idle).mono ?_
    rintro e w' ⟨rfl, rfl⟩
    exact ⟨rfl, MoreO.same h⟩
  | some l =>
    by_cases hf : n / 2 ^ (8 * s) = 0
    · refine (number_any w B g v l n s h hB (hx l rfl) hn hs hf).mono ?_
      rintro e w' ⟨rfl, v', h1, h2, h3⟩
      have e1 : stepN (some l) n s = some (l ++ beN n s) := by simp [stepN, hf]
      exact ⟨rfl, v', by rw [e1]; exact h1, h2, h3⟩
    · refine (number_big w B g v l n s h hs hf).mono ?_
      rintro e w' ⟨rfl, rfl⟩
      have e1 : stepN (some l) n s = none := by simp [stepN, hf]
      exact ⟨rfl, by rw [e1]; exact MoreO.spoilt h⟩
theorem wrap_nat (n : Int) : ∃ m : Nat, IntKind.u64.wrap n = (m : Int) ∧ m < 18446744073709551616 ∧ (m : Int) = n % 18446744073709551616 := by
  have e : IntKind.u64.wrap n = n % 18446744073709551616 := by rw [IntKind.wrap_u64]
  refine ⟨(n % 18446744073709551616).toNat, ?_, ?_, ?_⟩ <;> omega
set_option maxRecDepth 100000 in
theorem u8_st (w : World) (B g : Nat) (v : Value) (st : Option (List UInt8)) (n : Int) (m : Nat) (h : WSt w B g v st) (hB : B ≤ w.heap.size) (hx : ∀ l, st = some l → l.length ≤ 1000000) (hm : (m : Int) = n % 18446744073709551616) :
    Calls Tryz.prog 58 #[.pointer (some ⟨g, 0, none⟩), .int .i64 n] w fun e w' => e = .returned (.tuple #[]) ∧ MoreO w B g v (stepN st m 1) w' := by
  have he := num_st w B g v st m 1 h hB hx (by omega) (by omega)
  have HE := Lib.hid he
  have hw : IntKind.u64.wrap n = (m : Int) := by rw [IntKind.wrap_u64]; omega
  clear he h hx hm
  go_enter Tryz.func58, Tryz.ntmps58
  go_wp2_with fail
  refine HE.out.mono ?_
  rintro e w' ⟨rfl, hm⟩
  have HM := Lib.hid hm
  clear HE hm
  go_wp2_with fail
  go_end0
  exact ⟨rfl, HM.out⟩
set_option maxRecDepth 100000 in
theorem u16_st (w : World) (B g : Nat) (v : Value) (st : Option (List UInt8)) (n : Int) (m : Nat) (h : WSt w B g v st) (hB : B ≤ w.heap.size) (hx : ∀ l, st = some l → l.length ≤ 1000000) (hm : (m : Int) = n % 18446744073709551616) :
    Calls Tryz.prog 236 #[.pointer (some ⟨g, 0, none⟩), .int .i64 n] w fun e w' => e = .returned (.tuple #[]) ∧ MoreO w B g v (stepN st m 2) w' := by
  have he := num_st w B g v st m 2 h hB hx (by omega) (by omega)
  have HE := Lib.hid he
  have hw : IntKind.u64.wrap n = (m : Int) := by rw [IntKind.wrap_u64]; omega
  clear he h hx hm
  go_enter Tryz.func236, Tryz.ntmps236
  go_wp2_with fail
  refine HE.out.mono ?_
  rintro e w' ⟨rfl, hm⟩
  have HM := Lib.hid hm
  clear HE hm
  go_wp2_with fail
  go_end0
  exact ⟨rfl, HM.out⟩
set_option maxRecDepth 100000 in
theorem u32_st (w : World) (B g : Nat) (v : Value) (st : Option (List UInt8)) (n : Int) (m : Nat) (h : WSt w B g v st) (hB : B ≤ w.heap.size) (hx : ∀ l, st = some l → l.length ≤ 1000000) (hm : (m : Int) = n % 18446744073709551616) :
    Calls Tryz.prog 239 #[.pointer (some ⟨g, 0, none⟩), .int .i64 n] w fun e w' => e = .returned (.tuple #[]) ∧ MoreO w B g v (stepN st m 4) w' := by
  have he := num_st w B g v st m 4 h hB hx (by omega) (by omega)
  have HE := Lib.hid he
  have hw : IntKind.u64.wrap n = (m : Int) := by rw [IntKind.wrap_u64]; omega
  clear he h hx hm
  go_enter Tryz.func239, Tryz.ntmps239
  go_wp2_with fail
  refine HE.out.mono ?_
  rintro e w' ⟨rfl, hm⟩
  have HM := Lib.hid hm
  clear HE hm
  go_wp2_with fail
  go_end0
  exact ⟨rfl, HM.out⟩
set_option maxRecDepth 100000 in
theorem i64_st (w : World) (B g : Nat) (v : Value) (st : Option (List UInt8)) (n : Int) (m : Nat) (h : WSt w B g v st) (hB : B ≤ w.heap.size) (hx : ∀ l, st = some l → l.length ≤ 1000000) (hm : (m : Int) = n % 18446744073709551616) :
    Calls Tryz.prog 238 #[.pointer (some ⟨g, 0, none⟩), .int .i64 n] w fun e w' => e = .returned (.tuple #[]) ∧ MoreO w B g v (stepN st m 8) w' := by
  have he := num_st w B g v st m 8 h hB hx (by omega) (by omega)
  have HE := Lib.hid he
  have hw : IntKind.u64.wrap n = (m : Int) := by rw [IntKind.wrap_u64]; omega
  clear he h hx hm
  go_enter Tryz.func238, Tryz.ntmps238
  go_wp2_with fail
  refine HE.out.mono ?_
  rintro e w' ⟨rfl, hm⟩
  have HM := Lib.hid hm
  clear HE hm
  go_wp2_with fail
  go_end0
  exact ⟨rfl, HM.out⟩
set_option maxRecDepth 100000 in
theorem u64_st (w : World) (B g : Nat) (v : Value) (st : Option (List UInt8)) (n : Nat) (h : WSt w B g v st) (hB : B ≤ w.heap.size) (hx : ∀ l, st = some l → l.length ≤ 1000000) (hn : n < 18446744073709551616) :
    Calls Tryz.prog 240 #[.pointer (some ⟨g, 0, none⟩), .int .u64 n] w fun e w' => e = .returned (.tuple #[]) ∧ MoreO w B g v (stepN st n 8) w' := by
  have he := num_st w B g v st n 8 h hB hx hn (by omega)
  have HE := Lib.hid he
  clear he h hx
  go_enter Tryz.func240, Tryz.ntmps240
  go_wp2_with fail
  refine HE.out.mono ?_
  rintro e w' ⟨rfl, hm⟩
  have HM := Lib.hid hm
  clear HE hm
  go_wp2_with fail
  go_end0
  exact ⟨rfl, HM.out⟩
end Go.Proofs.YtilbbemdinpjcaaGreat.W
namespace Go.Proofs.YtilbbemdinpjcaaGreat.W
open Go.RowKit

theorem append_str_at (w : World) (ty base : Nat) (v : Value) (n : Nat) (xs : List Value) (hown : w.ownsRow base 5 1 v n xs) (s : ByteArray) (hlen : n + s.size ≤ 4000000) (hbase : base ≤ w.heap.size) :
    ∃ v' w', (Builtin.append_ #[54, 9] ty #[v, .string s]).run Tryz.prog w = .ok v' w' ∧ w'.ownsRow base 5 1 v' (n + s.size) (xs ++ Lib.strCells s) ∧ w.grownBy w' v.ownBlock ∧
      (v'.ownBlock = v.ownBlock ∨ v'.ownBlock = some w.heap.size) := by
  obtain ⟨i0, hi0, hz0, hz1, hz2⟩ := info_parts info5
  obtain ⟨v', w', hr, h2, h3, h4⟩ := Lib.run_append_own_string (P := Tryz.prog) w base 54 9 ty 5 i0 Tryz.underlying54 Tryz.underlying9 hi0 hz0 hz1 hz2 v n xs hown s (by unfold maxLen; omega) (by omega) hbase
  refine ⟨v', w', hr, h2, h3, ?_⟩
  rcases hown.2 with ⟨rfl, rfl⟩ | ⟨g, cap, cur, rfl, hbg, hg, hnc, hcm, hcs, htake⟩
  · by_cases hs : s.size = 0
    · exact .inl (by rw [h4.2 ⟨rfl, hs⟩])
    · have := run_append_nil_string (P := Tryz.prog) w 54 9 ty 5 i0 (.int .u8 0) Tryz.underlying54 Tryz.underlying9 hi0 hz0 s (by omega) (by omega) (by rw [hz2]; omega)
      rw [hr] at this
      cases this
      exact .inr rfl
  · by_cases hroom : n + s.size ≤ cap
    · have := Lib.run_append_room_string (P := Tryz.prog) w 54 9 ty 5 i0 Tryz.underlying54 Tryz.underlying9 hi0 hz1 g n cap cur hg s hroom (by omega)
      rw [hr] at this
      cases this
      exact .inl rfl
    · have := Lib.run_append_grow_string (P := Tryz.prog) w 54 9 ty 5 i0 (.int .u8 0) Tryz.underlying54 Tryz.underlying9 hi0 hz0 ⟨g, 0, none⟩ n cap xs (by rw [hz1]; exact hown.1) (hown.cells (g := g) rfl) s (by omega) (by omega) (by rw [hz2]; exact growslice_fits (by omega) (by omega))
      rw [hr] at this
      cases this
      exact .inr rfl
theorem strCells_B8 (s : ByteArray) : Lib.strCells s = (B8 s.data.toList).toList := by simp [Lib.strCells, B8]
/-- The law at the operation, for the walk. -/
theorem wpList_append_str {ops : Array Oper} {rest : List Oper} {o : Oper} {a : Act} {Q : Exit → Act → World → Prop} (w : World) (hgd : o.guard = none) (sl x : Operand)
    (ho : o.op = .call { callee := .builtin .append, args := #[sl, x], argTypes := #[54, 9] })
    (base : Nat) (v : Value) (n : Nat) (xs : List Value) (hs : a.eval sl = v) (hown : w.ownsRow base 5 1 v n xs) (s : ByteArray) (hx : a.eval x = .string s)
    (hlen : n + s.size ≤ 4000000) (hbase : base ≤ w.heap.size)
    (h : ∀ v' w', w'.ownsRow base 5 1 v' (n + s.size) (xs ++ Lib.strCells s) → w.grownBy w' v.ownBlock → (v'.ownBlock = v.ownBlock ∨ v'.ownBlock = some w.heap.size) → wpList Tryz.prog ops Q rest (a.put o.dst v') w') :
    wpList Tryz.prog ops Q (o :: rest) a w := by
  refine wpList_plain hgd fun K hK => ?_
  obtain ⟨v', w', hr, h2, h3, h4⟩ := append_str_at w o.type base v n xs hown s hlen hbase
  unfold Oper.wp execOp
  simp only [ho, resolve, invoke, builtin, Sem.run_bind, Sem.run_pure, Result.andThen_ok, List.map_toArray, List.map_cons, List.map_nil, hs, hx, hr]
  exact hK _ _ (h v' w' h2 h3 h4)

set_option maxRecDepth 100000 in
set_option maxHeartbeats 1000000 in
theorem text_any (w : World) (B g : Nat) (v : Value) (l : List UInt8) (s : ByteArray) (h : WrV w B g v l) (hB : B ≤ w.heap.size) (hx : l.length ≤ 900000) (hs : s.size < 65536) :
    Calls Tryz.prog 237 #[.pointer (some ⟨g, 0, none⟩), .string s] w fun e w' => e = .returned (.tuple #[]) ∧ More w B g v (l ++ (beN s.size 2 ++ s.data.toList)) w' := by
  have hu := u16_any w B g v l s.size h hB (by omega) hs
  have HU := Lib.hid hu
  clear hu h
  go_enter Tryz.func237, Tryz.ntmps237
  go_wp2_with fail
  refine HU.out.mono ?_
  rintro e w1 ⟨rfl, v1, hw1, ho1, ha1⟩
  have ht := takes_self w1 g false (hw1.1.cell 0 rfl) (hw1.1.cell 1 rfl)
  have c2 : w1.cell? ⟨g, 2, none⟩ = some v1 := hw1.1.cell 2 rfl
  have hB1 : B ≤ w1.heap.size := Nat.le_trans hB ho1.size
  have hl1 : (l ++ beN s.size 2).length ≤ 900002 := by rw [List.length_append, beN_length]; omega
  have HW := Lib.hid hw1
  have HO := Lib.hid (And.intro ho1 ha1)
  clear hw1 ho1 ha1 HU
  go_wp2_with fail
  refine ht.mono ?_
  rintro e w2 ⟨rfl, rfl⟩
  clear ht
  go_wp2_with (at_builtin; go_must (refine wpList_append_str _ rfl _ _ rfl B v1 (l ++ beN s.size 2).length (B8 (l ++ beN s.size 2)).toList rfl HW.out.2.1 s rfl (by omega) hB1 ?_; intro v' w3 hown hgrow hat; obtain ⟨A', cc, rfl⟩ := own_slice hown; have c3 : w3.cell? ⟨g, 2, none⟩ = some v1 := (Lies.cell ((hgrow.block g HW.out.1.lt (fun e => HW.out.2.2.1 e.symm)).trans HW.out.1) 2 rfl); have f3 : w3.frozen? ⟨g, 2, none⟩ = false := (Lies.free (show Lies w3 g _ 159 from (hgrow.block g HW.out.1.lt (fun e => HW.out.2.2.1 e.symm)).trans HW.out.1) 2)))
  go_end0
  refine ⟨rfl, ?_⟩
  have hown2 : w3.ownsRow B 5 1 (.slice A' ((l ++ beN s.size 2).length + s.size) cc) (l ++ (beN s.size 2 ++ s.data.toList)).length (B8 (l ++ (beN s.size 2 ++ s.data.toList))).toList := by
    have e : (B8 (l ++ (beN s.size 2 ++ s.data.toList))).toList = (B8 (l ++ beN s.size 2)).toList ++ Lib.strCells s := by
      rw [strCells_B8, ← List.append_assoc]; simp [B8]
    have e2 : (l ++ (beN s.size 2 ++ s.data.toList)).length = (l ++ beN s.size 2).length + s.size := by
      rw [← List.append_assoc, List.length_append]; rfl
    rw [e, e2]
    exact hown
  rw [show (l ++ beN s.size 2).length = l.length + (beN s.size 2).length from List.length_append] at hown2 hat
  exact More.trans HO.out.1 HO.out.2 (more_of HW.out hown2 hgrow hat)
theorem flag_any (w : World) (B g : Nat) (v : Value) (l : List UInt8) (b : Bool) (h : WrV w B g v l) (hB : B ≤ w.heap.size) (hx : l.length ≤ 1000000) :
    Calls Tryz.prog 266 #[.pointer (some ⟨g, 0, none⟩), .bool b] w fun e w' => e = .returned (.tuple #[]) ∧ More w B g v (l ++ [if b then 1 else 0]) w' := by
  have e1 : beN 1 1 = [1] := by decide
  have e0 : beN 0 1 = [0] := by decide
  cases b
  · have hu := u8_any w B g v l 0 h hB hx (by omega)
    rw [e0] at hu
    have HU := Lib.hid hu
    clear hu h
    go_enter Tryz.func266, Tryz.ntmps266
    go_wp2_with fail
    refine HU.out.mono ?_
    rintro e w1 ⟨rfl, hm⟩
    have HM := Lib.hid hm
    clear hm
    go_wp2_with fail
    go_end0
    exact ⟨rfl, HM.out⟩
  · have hu := u8_any w B g v l 1 h hB hx (by omega)
    rw [e1] at hu
    have HU := Lib.hid hu
    clear hu h
    go_enter Tryz.func266, Tryz.ntmps266
    go_wp2_with fail
    refine HU.out.mono ?_
    rintro e w1 ⟨rfl, hm⟩
    have HM := Lib.hid hm
    clear hm
    go_wp2_with fail
    go_end0
    exact ⟨rfl, HM.out⟩
/-- What a row holds, read byte by byte. -/
theorem own_src {w : World} {B : Nat} {g c : Nat} {l : List UInt8} (h : w.ownsRow B 5 1 (.slice (some ⟨g, 0, none⟩) l.length c) l.length (B8 l).toList) : Src w g 0 l := by
  intro j hj
  have := h.cells (g := g) rfl j (.int .u8 (l.getD j 0).toNat) (by rw [Array.getElem?_toList]; exact B8_get l j hj)
  rwa [Addr.add_mid] at this
end Go.Proofs.YtilbbemdinpjcaaGreat.W
namespace Go.Proofs.YtilbbemdinpjcaaGreat.W
open Go.RowKit

theorem WrV.below {w w' : World} {B g : Nat} {v : Value} {l : List UInt8} (h : WrV w B g v l) (hb : Below w.heap.size w w') : WrV w' B g v l :=
  ⟨h.1.below hb h.1.lt, own_kept h.2.1 (grown_below hb none) (fun _ _ => by simp), h.2.2.1, h.2.2.2⟩
theorem WSt.below {w w' : World} {B g : Nat} {v : Value} {st : Option (List UInt8)} (h : WSt w B g v st) (hb : Below w.heap.size w w') : WSt w' B g v st := by
  cases st with
  | none => exact ⟨h.1.below hb h.1.lt, h.2⟩
  | some l => exact WrV.below h hb
theorem MoreO.after {w w1 w2 : World} {B g : Nat} {v : Value} {st : Option (List UInt8)} (hb : Below w.heap.size w w1) (h : MoreO w1 B g v st w2) : MoreO w B g v st w2 := by
  obtain ⟨v', h1, h2, h3⟩ := h
  refine ⟨v', h1, Only.trans ((only_below hb).weak _) h2 (.inl rfl), ?_⟩
  rcases h3 with h3 | ⟨k, h3, h4⟩
  · exact .inl h3
  · exact .inr ⟨k, h3, Nat.le_trans hb.size h4.1, h4.2⟩
theorem MoreO.trans {w w1 w2 : World} {B g : Nat} {v v1 : Value} {st : Option (List UInt8)} (ho : Only g w w1 v.ownBlock) (hat : v1.ownBlock = v.ownBlock ∨ ∃ k, v1.ownBlock = some k ∧ w.heap.size ≤ k ∧ k < w1.heap.size) (h : MoreO w1 B g v1 st w2) : MoreO w B g v st w2 := by
  obtain ⟨v', h1, h2, h3⟩ := h
  refine ⟨v', h1, Only.trans ho h2 (hat.imp id fun ⟨k, e, h, _⟩ => ⟨k, e, h⟩), ?_⟩
  rcases h3 with h3 | ⟨k, h3, h4⟩
  · exact hat.imp (fun h => h3.trans h) (fun ⟨k, hk, h4, h5⟩ => ⟨k, h3.trans hk, h4, Nat.lt_of_lt_of_le h5 h2.size⟩)
  · exact .inr ⟨k, h3, Nat.le_trans ho.size h4.1, h4.2⟩
def stepB (st : Option (List UInt8)) (xs : List UInt8) : Option (List UInt8) := st.map (· ++ xs)
theorem raw_st (w : World) (B g : Nat) (v : Value) (st : Option (List UInt8)) (xs : List UInt8) (gx off c : Nat) (h : WSt w B g v st) (hs : Src w gx off xs) (hB : B ≤ w.heap.size) (hx : ∀ l, st = some l → l.length + xs.length ≤ 2000000) :
    Calls Tryz.prog 267 #[.pointer (some ⟨g, 0, none⟩), .slice (some ⟨gx, off, none⟩) xs.length c] w fun e w' => e = .returned (.tuple #[]) ∧ MoreO w B g v (stepB st xs) w' := by
  cases st with
  | none =>
    refine (raw_idle w _ _ h.idle).mono ?_
    rintro e w' ⟨rfl, rfl⟩
    exact ⟨rfl, MoreO.same h⟩
  | some l =>
    refine (raw_any w B g v l xs gx off c h hs hB (hx l rfl)).mono ?_
    rintro e w' ⟨rfl, v', h1, h2, h3⟩
    exact ⟨rfl, v', h1, h2, h3⟩
theorem flag_st (w : World) (B g : Nat) (v : Value) (st : Option (List UInt8)) (b : Bool) (h : WSt w B g v st) (hB : B ≤ w.heap.size) (hx : ∀ l, st = some l → l.length ≤ 1000000) :
    Calls Tryz.prog 266 #[.pointer (some ⟨g, 0, none⟩), .bool b] w fun e w' => e = .returned (.tuple #[]) ∧ MoreO w B g v (stepB st [if b then 1 else 0]) w' := by
  cases st with
  | none =>
    refine (flag_idle w _ b h.idle).mono ?_
    rintro e w' ⟨rfl, rfl⟩
    exact ⟨rfl, MoreO.same h⟩
  | some l =>
    refine (flag_any w B g v l b h hB (hx l rfl)).mono ?_
    rintro e w' ⟨rfl, v', h1, h2, h3⟩
    exact ⟨rfl, v', h1, h2, h3⟩
set_option maxRecDepth 100000 in
theorem hash_st (w : World) (B g : Nat) (v : Value) (st : Option (List UInt8)) (xs : List UInt8) (h : WSt w B g v st) (hl : xs.length = 32) (hB : B ≤ w.heap.size) (hx : ∀ l, st = some l → l.length ≤ 1000000) :
    Calls Tryz.prog 212 #[.pointer (some ⟨g, 0, none⟩), .agg (B8 xs)] w fun e w' => e = .returned (.tuple #[]) ∧ MoreO w B g v (stepB st xs) w' := by
  have hb : Below w.heap.size w (w.alloc (.cells (B8 xs) 30)) := (Below.refl _ _).alloc (Nat.le_refl _) _
  have hsrc : Src (w.alloc (.cells (B8 xs) 30)) w.heap.size 0 xs := fun j hj => by
    have := (Lies.new w (B8 xs) 30).cell j (B8_get xs j hj)
    rwa [Nat.zero_add]
  have he := raw_st (w.alloc (.cells (B8 xs) 30)) B g v st xs w.heap.size 0 32 (h.below hb) hsrc (by simp; omega) (fun l e => by have := hx l e; omega)
  rw [hl] at he
  have HE := Lib.hid he
  have HB := Lib.hid hb
  clear he hb hsrc h hx
  go_enter Tryz.func212, Tryz.ntmps212
  go_wp2_with fail
  refine HE.out.mono ?_
  rintro e w1 ⟨rfl, hm⟩
  have HM := Lib.hid hm
  clear hm HE
  go_wp2_with fail
  go_end0
  exact ⟨rfl, HM.out.after HB.out⟩
set_option maxRecDepth 100000 in
theorem text_big (w : World) (B g : Nat) (v : Value) (st : Option (List UInt8)) (s : ByteArray) (h : WSt w B g v st) (hB : B ≤ w.heap.size) (hx : ∀ l, st = some l → l.length ≤ 900000) (hs : 65536 ≤ s.size) (hs2 : s.size < 9223372036854775808) :
    Calls Tryz.prog 237 #[.pointer (some ⟨g, 0, none⟩), .string s] w fun e w' => e = .returned (.tuple #[]) ∧ MoreO w B g v none w' := by
  have hu := u16_st w B g v st s.size s.size h hB (fun l e => by have := hx l e; omega) (by omega)
  have e1 : stepN st s.size 2 = none := by
    have : ¬ s.size / 2 ^ (8 * 2) = 0 := by
      have : 1 ≤ s.size / 65536 := (Nat.le_div_iff_mul_le (by omega)).2 (by omega)
      omega
    cases st with
    | none => rfl
    | some l => simp only [stepN, Option.bind_some, if_neg this]
  rw [e1] at hu
  have HU := Lib.hid hu
  clear hu h hx e1
  go_enter Tryz.func237, Tryz.ntmps237
  go_wp2_with fail
  refine HU.out.mono ?_
  rintro e w1 ⟨rfl, v1, hw1, ho1, ha1⟩
  have ht := takes_idle w1 _ hw1.idle
  have HW := Lib.hid (show MoreO w B g v none w1 from ⟨v1, hw1, ho1, ha1⟩)
  clear hw1 ho1 ha1 HU
  go_wp2_with fail
  refine ht.mono ?_
  rintro e w2 ⟨rfl, rfl⟩
  clear ht
  go_wp2_with fail
  first
    | go_end0
    | refine bodyPost_ret (results_none rfl _ _ _) rfl ?_
  exact ⟨rfl, HW.out⟩
theorem text_st (w : World) (B g : Nat) (v : Value) (st : Option (List UInt8)) (s : ByteArray) (h : WSt w B g v st) (hB : B ≤ w.heap.size) (hx : ∀ l, st = some l → l.length ≤ 900000) (hs2 : s.size < 9223372036854775808) :
    Calls Tryz.prog 237 #[.pointer (some ⟨g, 0, none⟩), .string s] w fun e w' => e = .returned (.tuple #[]) ∧ MoreO w B g v (if s.size < 65536 then stepB st (beN s.size 2 ++ s.data.toList) else none) w' := by
  by_cases hs : s.size < 65536
  · rw [if_pos hs]
    cases st with
    | none =>
      refine (text_idle w _ s h.idle).mono ?_
      rintro e w' ⟨rfl, rfl⟩
      exact ⟨rfl, MoreO.same h⟩
    | some l =>
      refine (text_any w B g v l s h hB (hx l rfl) hs).mono ?_
      rintro e w' ⟨rfl, v', h1, h2, h3⟩
      exact ⟨rfl, v', h1, h2, h3⟩
  · rw [if_neg hs]
    exact text_big w B g v st s h hB hx (by omega) hs2
end Go.Proofs.YtilbbemdinpjcaaGreat.W
namespace Go.Proofs.YtilbbemdinpjcaaGreat.W
open Go.RowKit
theorem MoreO.again {w : World} {B g : Nat} {v : Value} {l : List UInt8} (h : WrV w B g v l) : MoreO w B g v (some l) (w.setCell ⟨g, 2, none⟩ v) := by
  refine ⟨v, ⟨?_, own_set h.2.1 h.2.2.1, h.2.2.1, h.2.2.2⟩, (only_set g 2 w v).weak _, .inl rfl⟩
  have := h.1.set 2 v
  exact this
set_option maxRecDepth 100000 in
theorem raw_nil (w : World) (B g : Nat) (v : Value) (l : List UInt8) (h : WrV w B g v l) : Calls Tryz.prog 267 #[.pointer (some ⟨g, 0, none⟩), .slice none 0 0] w fun e w' => e = .returned (.tuple #[]) ∧ MoreO w B g v (some l) w' := by
  have ht := takes_self w g false (h.1.cell 0 rfl) (h.1.cell 1 rfl)
  have c2 : w.cell? ⟨g, 2, none⟩ = some v := h.1.cell 2 rfl
  have f2 := h.1.free 2
  have hm := MoreO.again h
  have HM := Lib.hid hm
  clear hm
  obtain ⟨_, ⟨rfl, hn⟩ | ⟨k, cap, cur, rfl, _, _, hcap, _⟩⟩ := h.2.1
  · clear h
    go_enter Tryz.func267, Tryz.ntmps267
    go_wp2_with fail
    refine ht.mono ?_
    rintro e w1 ⟨rfl, rfl⟩
    clear ht
    go_wp2_with fail
    go_end0
    exact ⟨rfl, HM.out⟩
  · clear h
    go_enter Tryz.func267, Tryz.ntmps267
    go_wp2_with fail
    refine ht.mono ?_
    rintro e w1 ⟨rfl, rfl⟩
    clear ht
    go_wp2_with fail
    go_end0
    exact ⟨rfl, HM.out⟩
/-- What Raw is handed: a row of bytes, or nothing. -/
def RawIn (w : World) (v : Value) (xs : List UInt8) : Prop := (v = .slice none 0 0 ∧ xs = []) ∨ ∃ ad c, v = .slice (some ad) xs.length c ∧ SrcA w ad xs
theorem raw_in (w : World) (B g : Nat) (v bv : Value) (st : Option (List UInt8)) (xs : List UInt8) (h : WSt w B g v st) (hs : RawIn w bv xs) (hB : B ≤ w.heap.size) (hx : ∀ l, st = some l → l.length + xs.length ≤ 2000000) :
    Calls Tryz.prog 267 #[.pointer (some ⟨g, 0, none⟩), bv] w fun e w' => e = .returned (.tuple #[]) ∧ MoreO w B g v (stepB st xs) w' := by
  rcases hs with ⟨rfl, rfl⟩ | ⟨ad, c, rfl, hs⟩
  · cases st with
    | none =>
      refine (raw_idle w _ _ h.idle).mono ?_
      rintro e w' ⟨rfl, rfl⟩
      exact ⟨rfl, MoreO.same h⟩
    | some l =>
      have := raw_nil w B g v l h
      rwa [show stepB (some l) [] = some l by simp [stepB]]
  · cases st with
    | none =>
      refine (raw_idle w _ _ h.idle).mono ?_
      rintro e w' ⟨rfl, rfl⟩
      exact ⟨rfl, MoreO.same h⟩
    | some l =>
      refine (raw_anyA w B g v l xs ad c h hs hB (hx l rfl)).mono ?_
      rintro e w' ⟨rfl, v', h1, h2, h3⟩
      exact ⟨rfl, v', h1, h2, h3⟩
set_option maxRecDepth 100000 in
theorem spoil_st (w : World) (B g : Nat) (v : Value) (st : Option (List UInt8)) (h : WSt w B g v st) : Calls Tryz.prog 193 #[.pointer (some ⟨g, 0, none⟩)] w fun e w' => e = .returned (.tuple #[]) ∧ MoreO w B g v none w' := by
  cases st with
  | none =>
    refine (spoil_idle w _ h.idle).mono ?_
    rintro e w' ⟨rfl, rfl⟩
    exact ⟨rfl, MoreO.same h⟩
  | some l =>
    have ht := takes_self w g false (h.1.cell 0 rfl) (h.1.cell 1 rfl)
    have hsp := spoil_any w g (.bool false) (h.1.cell 1 rfl) (h.1.free 1) rfl
    have hm := MoreO.spoilt h
    have HM := Lib.hid hm
    have HS := Lib.hid hsp
    clear hm hsp h
    go_enter Tryz.func193, Tryz.ntmps193
    go_wp2_with fail
    refine ht.mono ?_
    rintro e w1 ⟨rfl, rfl⟩
    clear ht
    go_wp2_with fail
    refine HS.out.mono ?_
    rintro e w2 ⟨rfl, hw2⟩
    have HW2 := Lib.hid hw2
    clear hw2
    go_wp2_with fail
    first
      | go_end0
      | refine bodyPost_ret (results_none rfl _ _ _) rfl ?_
    exact ⟨rfl, by rw [HW2.out]; exact HM.out⟩
end Go.Proofs.YtilbbemdinpjcaaGreat.W
