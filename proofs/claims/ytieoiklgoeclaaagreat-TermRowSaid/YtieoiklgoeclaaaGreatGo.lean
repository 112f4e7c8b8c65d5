/-
  TermRow: CopyNodes (27), CopyTerm (9).
  TermRow: some (4): the terms that are held against one another.
  TermRow: the terms that are held against one another stand in a row, and are right.
  TermRow's walk (3): each two terms.
  TermRow: a node with a part turned.
-/
import Derived.Test.YtieoiklgoeclaaaGreatGk
import Derived.Test.YtieoiklgoeclaaaGreatGf
namespace Go.Proofs.YtieoiklgoeclaaaGreat
open Go.RowKit

set_option maxRecDepth 100000 in
set_option maxHeartbeats 1000000 in
theorem copyN_any (w : World) (a : Option Addr) (c n : Nat) (xs : List Nd) (hn : n = xs.length) (hx : TAt w a xs) (h0 : a = none → c = 0) :
    Calls Tryz.prog 27 #[.slice a n c] w fun e w' => ∃ v, e = .returned v ∧ OwnT w' w.heap.size v xs ∧ Below w.heap.size w w' := by
  subst hn
  have hsrc : SrcT w (.slice a xs.length c) xs := by
    have := hx.src (t := ⟨a, c, xs⟩) h0
    unfold TK.v at this
    exact this
  have hO : OwnT w w.heap.size (.slice none 0 0) [] := World.ownsRow_nil _ _ _ _
  obtain ⟨n, hn⟩ : ∃ n, n = xs.length := ⟨_, rfl⟩
  have hl := hx.2.1
  rw [← hn] at hsrc ⊢
  have H := Lib.hid (And.intro hsrc (And.intro hO hl))
  clear hsrc hO hl hx h0 hn
  go_enter Tryz.func27, Tryz.ntmps27
  go_wp2_with (at_builtin; go_must (refine wpList_append_T rfl _ _ rfl w.heap.size _ _ [] xs rfl H.out.2.1 rfl H.out.1 (by have := H.out.2.2; simp; omega) (Nat.le_refl _) ?_; intro v' w2 hown2 hgrow2 hat2))
  have hb2 : Below w.heap.size w w2 := (Below.refl _ _).grown hgrow2 (Nat.le_refl _) (fun k e => H.out.2.1.above e)
  rw [List.nil_append] at hown2
  have HX := Lib.hid (And.intro hown2 hb2)
  clear hown2 hb2 hgrow2 hat2
  go_ret
  exact ⟨v', rfl, HX.out.1, HX.out.2⟩
set_option maxRecDepth 100000 in
set_option maxHeartbeats 1000000 in
theorem copyT_any (w : World) (a : Option Addr) (c n : Nat) (xs : List Nd) (hn : n = xs.length) (hx : TAt w a xs) (h0 : a = none → c = 0) :
    Calls Tryz.prog 9 #[.agg #[.slice a n c]] w fun e w' => ∃ a' n' c', e = .returned (.agg #[.slice a' n' c']) ∧ OwnT w' w.heap.size (.slice a' n' c') xs ∧ Below w.heap.size w w' := by
  have hA : Lies ((w.alloc (.cells #[.slice a n c] 27)).alloc (.cells #[.slice none 0 0] 27)) w.heap.size #[.slice a n c] 27 := (Lies.new _ _ _).alloc _
  have hB : Lies ((w.alloc (.cells #[.slice a n c] 27)).alloc (.cells #[.slice none 0 0] 27)) (w.heap.size + 1) #[.slice none 0 0] 27 := by
    have := Lies.new (w.alloc (.cells #[.slice a n c] 27)) #[.slice none 0 0] 27
    simpa using this
  have hb0 : Below w.heap.size w ((w.alloc (.cells #[.slice a n c] 27)).alloc (.cells #[.slice none 0 0] 27)) := ((Below.refl _ _).alloc (Nat.le_refl _) _).alloc (by simp) _
  have hc := copyN_any _ a c n xs hn (hx.below hb0 (Nat.le_refl _)) h0
  have hsz : ((w.alloc (.cells #[.slice a n c] 27)).alloc (.cells #[.slice none 0 0] 27)).heap.size = w.heap.size + 2 := by simp
  have H := Lib.hid (And.intro hc (And.intro hA (And.intro hB (And.intro hb0 hsz))))
  clear hA hB hb0 hc hx h0 hn hsz
  go_enter Tryz.func9, Tryz.ntmps9
  go_upto_region 1 with fail
  generalize (w.alloc (.cells #[.slice a n c] 27)).alloc (.cells #[.slice none 0 0] 27) = W0 at H ⊢
  have c0 := H.out.2.1.cell 0 (v := .slice a n c) rfl
  go_wp2_with fail
  refine H.out.1.mono ?_
  rintro e w2 ⟨v, rfl, hown, hb2⟩
  obtain ⟨a', n', c', rfl⟩ := hown.isSlice
  have hq := H.out.2.1.below hb2 H.out.2.1.lt
  have hr := H.out.2.2.1.below hb2 H.out.2.2.1.lt
  have hown2 := hown.setCell ⟨w.heap.size, 0, none⟩ (.slice a' n' c') (fun e => by have := hown.above e; have := H.out.2.2.2.2; simp only at *; omega)
  have hr2 : Lies (w2.setCell ⟨w.heap.size, 0, none⟩ (.slice a' n' c')) (w.heap.size + 1) #[.slice none 0 0] 27 := (heap_setCell_other w2 ⟨w.heap.size, 0, none⟩ (w.heap.size + 1) (.slice a' n' c') (by simp)).trans hr
  have hq2 : Lies (w2.setCell ⟨w.heap.size, 0, none⟩ (.slice a' n' c')) w.heap.size #[.slice a' n' c'] 27 := hq.set 0 (.slice a' n' c')
  have hown3 := hown2.setRow24 hr2 #[.slice a' n' c']
  have hb3 := below_setRow ((H.out.2.2.2.1.trans (hb2.mono H.out.2.2.2.1.size)).setCell (p := ⟨w.heap.size, 0, none⟩) (Nat.le_refl _) (.slice a' n' c')) (w.heap.size + 1) #[.slice a' n' c'] (by omega)
  have hfr := hq.free 0
  have hce := hq.cell 0 (v := .slice a n c) rfl
  have hown4 := hown3.mono (B' := w.heap.size) (by have := H.out.2.2.2.2; omega)
  have HX := Lib.hid (And.intro hr2 (And.intro hown4 hb3))
  have hc2 := hq2.cell 0 (v := .slice a' n' c') rfl
  clear hq hr hown hown2 hr2 hq2 hown3 hown4 hb3 hb2 c0
  go_wp2_with (refine wpList_store_row rfl 27 _ _ rfl (w.heap.size + 1) #[.slice a' n' c'] rfl rfl 27 #[.slice none 0 0] HX.out.1 info24 rfl (by simp [Value.oneCell']) ?_)
  exact bodyPost_ret (v := .agg #[.slice a' n' c']) (results_cell_row (p := 2) (ty := 27) (by kernel_rfl) _ _ (w.heap.size + 1) 27 #[.slice a' n' c'] (0, 0) _ rfl (HX.out.1.setRow _) Tryz.underlying27 rfl info24) rfl ⟨a', n', c', rfl, HX.out.2.1, HX.out.2.2⟩
end Go.Proofs.YtieoiklgoeclaaaGreat
namespace Go.Proofs.YtieoiklgoeclaaaGreat
open Go.RowKit

def nT (n : Int) : Nd := ⟨5, n, 0, ⟨#[]⟩, 0⟩
def someL : List (List Nd) := [[nN (-9223372036854775808)],
  [nN (-1)],
  [nN 0],
  [nN 9223372036854775807],
  [nB ⟨#[]⟩],
  [nB ⟨#[0]⟩],
  [nB ⟨#[97]⟩],
  [nB ⟨#[97, 0]⟩],
  [nB ⟨#[98]⟩],
  [nB ⟨#[255]⟩],
  [nR 18442240474082181120],
  [nR 9223372036854775808],
  [nR 0],
  [nR 1],
  [nR 9221120237041090560],
  joinL (nK 4) [],
  joinL (nK 4) [[nN 0]],
  joinL (nK 4) [[nN 0], [nN 0]],
  joinL (nK 4) [[nN 1]],
  joinL (nK 4) [joinL (nK 4) []],
  joinL (nK 5) [],
  joinL (nT 1) [],
  joinL (nT 2147483647) [[nN 5]],
  joinL (nK 6) [],
  joinL (nK 6) [[nN 0], [nB ⟨#[120]⟩]],
  joinL (nK 6) [[nN 0], [nB ⟨#[120]⟩], [nN 1], [nN 0]],
  joinL (nK 6) [[nN 1], [nN 0]]]
def SomeR (w : World) (e : Ending) (w' : World) : Prop := ∃ (g : Nat) (l : List TK), e = .returned (.slice (some ⟨g, 0, none⟩) 27 27) ∧ l.map TK.xs = someL ∧ TsG w' (some ⟨g, 0, none⟩) l ∧ Below w.heap.size w w'
set_option maxRecDepth 100000 in
set_option maxHeartbeats 4000000 in
theorem some_any (w : World) : Calls Tryz.prog 4 #[] w (SomeR w) := by
  have K0 := Lib.hid (Kept.nil w)
  go_enter Tryz.func4, Tryz.ntmps4
  go_wp2_with fail
  refine (numG _ _).mono ?_
  rintro e w0 ⟨a0, c0, rfl, h0, b0⟩
  have K1 := Lib.hid (K0.out.more b0 h0)
  clear h0 b0 K0
  go_wp2_with fail
  refine (numG _ _).mono ?_
  rintro e w1 ⟨a1, c1, rfl, h1, b1⟩
  have K2 := Lib.hid (K1.out.more b1 h1)
  clear h1 b1 K1
  go_wp2_with fail
  refine (numG _ _).mono ?_
  rintro e w2 ⟨a2, c2, rfl, h2, b2⟩
  have K3 := Lib.hid (K2.out.more b2 h2)
  clear h2 b2 K2
  go_wp2_with fail
  refine (numG _ _).mono ?_
  rintro e w3 ⟨a3, c3, rfl, h3, b3⟩
  have K4 := Lib.hid (K3.out.more b3 h3)
  clear h3 b3 K3
  go_wp2_with fail
  refine (blobG _ _ (by decide)).mono ?_
  rintro e w4 ⟨a4, c4, rfl, h4, b4⟩
  have K5 := Lib.hid (K4.out.more b4 h4)
  clear h4 b4 K4
  go_wp2_with fail
  refine (blobG _ _ (by decide)).mono ?_
  rintro e w5 ⟨a5, c5, rfl, h5, b5⟩
  have K6 := Lib.hid (K5.out.more b5 h5)
  clear h5 b5 K5
  go_wp2_with fail
  refine (blobG _ _ (by decide)).mono ?_
  rintro e w6 ⟨a6, c6, rfl, h6, b6⟩
  have K7 := Lib.hid (K6.out.more b6 h6)
  clear h6 b6 K6
  go_wp2_with fail
  refine (blobG _ _ (by decide)).mono ?_
  rintro e w7 ⟨a7, c7, rfl, h7, b7⟩
  have K8 := Lib.hid (K7.out.more b7 h7)
  clear h7 b7 K7
  go_wp2_with fail
  refine (blobG _ _ (by decide)).mono ?_
  rintro e w8 ⟨a8, c8, rfl, h8, b8⟩
  have K9 := Lib.hid (K8.out.more b8 h8)
  clear h8 b8 K8
  go_wp2_with fail
  refine (blobG _ _ (by decide)).mono ?_
  rintro e w9 ⟨a9, c9, rfl, h9, b9⟩
  have K10 := Lib.hid (K9.out.more b9 h9)
  clear h9 b9 K9
  go_wp2_with fail
  refine (realG _ _ (by decide)).mono ?_
  rintro e w10 ⟨a10, c10, rfl, h10, b10⟩
  have K11 := Lib.hid (K10.out.more b10 h10)
  clear h10 b10 K10
  go_wp2_with fail
  refine (realG _ _ (by decide)).mono ?_
  rintro e w11 ⟨a11, c11, rfl, h11, b11⟩
  have K12 := Lib.hid (K11.out.more b11 h11)
  clear h11 b11 K11
  go_wp2_with fail
  refine (realG _ _ (by decide)).mono ?_
  rintro e w12 ⟨a12, c12, rfl, h12, b12⟩
  have K13 := Lib.hid (K12.out.more b12 h12)
  clear h12 b12 K12
  go_wp2_with fail
  refine (realG _ _ (by decide)).mono ?_
  rintro e w13 ⟨a13, c13, rfl, h13, b13⟩
  have K14 := Lib.hid (K13.out.more b13 h13)
  clear h13 b13 K13
  go_wp2_with fail
  refine (realG _ _ (by decide)).mono ?_
  rintro e w14 ⟨a14, c14, rfl, h14, b14⟩
  have K15 := Lib.hid (K14.out.more b14 h14)
  clear h14 b14 K14
  go_wp2_with fail
  refine (ofG _ 4 _ 0 _ [] _ 1 rfl rfl (tsG_none _) rfl (by decide) (by decide)).mono ?_
  rintro e w15 ⟨a15, c15, rfl, h15, b15⟩
  have K16 := Lib.hid (K15.out.more b15 h15)
  clear h15 b15 K15
  go_wp2_with fail
  refine (numG _ _).mono ?_
  rintro e w16 ⟨a16, c16, rfl, h16, b16⟩
  have K17 := Lib.hid (K16.out.more b16 h16)
  clear h16 b16 K16
  go_wp2_with fail
  refine (ofG _ 4 _ 1 _ [⟨a16, c16, [nN 0]⟩] _ 2 rfl rfl (tsG_new K17.out [⟨a16, c16, [nN 0]⟩] _ rfl (by simp)) rfl (by decide) (by decide)).mono ?_
  rintro e w17 ⟨a17, c17, rfl, h17, b17⟩
  have K18 := Lib.hid ((K17.out.on ((Below.refl _ _).alloc (Nat.le_refl _) _)).more b17 h17)
  clear h17 b17 K17
  go_wp2_with fail
  refine (numG _ _).mono ?_
  rintro e w18 ⟨a18, c18, rfl, h18, b18⟩
  have K19 := Lib.hid (K18.out.more b18 h18)
  clear h18 b18 K18
  go_wp2_with fail
  refine (numG _ _).mono ?_
  rintro e w19 ⟨a19, c19, rfl, h19, b19⟩
  have K20 := Lib.hid (K19.out.more b19 h19)
  clear h19 b19 K19
  go_wp2_with fail
  refine (ofG _ 4 _ 2 _ [⟨a18, c18, [nN 0]⟩, ⟨a19, c19, [nN 0]⟩] _ 3 rfl rfl (tsG_new K20.out [⟨a18, c18, [nN 0]⟩, ⟨a19, c19, [nN 0]⟩] _ rfl (by simp)) rfl (by decide) (by decide)).mono ?_
  rintro e w20 ⟨a20, c20, rfl, h20, b20⟩
  have K21 := Lib.hid ((K20.out.on ((Below.refl _ _).alloc (Nat.le_refl _) _)).more b20 h20)
  clear h20 b20 K20
  go_wp2_with fail
  refine (numG _ _).mono ?_
  rintro e w21 ⟨a21, c21, rfl, h21, b21⟩
  have K22 := Lib.hid (K21.out.more b21 h21)
  clear h21 b21 K21
  go_wp2_with fail
  refine (ofG _ 4 _ 1 _ [⟨a21, c21, [nN 1]⟩] _ 2 rfl rfl (tsG_new K22.out [⟨a21, c21, [nN 1]⟩] _ rfl (by simp)) rfl (by decide) (by decide)).mono ?_
  rintro e w22 ⟨a22, c22, rfl, h22, b22⟩
  have K23 := Lib.hid ((K22.out.on ((Below.refl _ _).alloc (Nat.le_refl _) _)).more b22 h22)
  clear h22 b22 K22
  go_wp2_with fail
  refine (ofG _ 4 _ 0 _ [] _ 1 rfl rfl (tsG_none _) rfl (by decide) (by decide)).mono ?_
  rintro e w23 ⟨a23, c23, rfl, h23, b23⟩
  have K24 := Lib.hid (K23.out.more b23 h23)
  clear h23 b23 K23
  go_wp2_with fail
  refine (ofG _ 4 _ 1 _ [⟨a23, c23, joinL (nK 4) []⟩] _ 2 rfl rfl (tsG_new K24.out [⟨a23, c23, joinL (nK 4) []⟩] _ rfl (by simp)) rfl (by decide) (by decide)).mono ?_
  rintro e w24 ⟨a24, c24, rfl, h24, b24⟩
  have K25 := Lib.hid ((K24.out.on ((Below.refl _ _).alloc (Nat.le_refl _) _)).more b24 h24)
  clear h24 b24 K24
  go_wp2_with fail
  refine (ofG _ 5 _ 0 _ [] _ 1 rfl rfl (tsG_none _) rfl (by decide) (by decide)).mono ?_
  rintro e w25 ⟨a25, c25, rfl, h25, b25⟩
  have K26 := Lib.hid (K25.out.more b25 h25)
  clear h25 b25 K25
  go_wp2_with fail
  refine (rjoinG _ (nT 1) (by simp [nT]) (Nat.zero_le _) _ 0 _ [] _ 1 rfl rfl (tsG_none _) rfl (by decide) (by decide)).mono ?_
  rintro e w26 ⟨a26, c26, rfl, h26, b26⟩
  have K27 := Lib.hid (K26.out.more b26 h26)
  clear h26 b26 K26
  go_wp2_with fail
  refine (numG _ _).mono ?_
  rintro e w27 ⟨a27, c27, rfl, h27, b27⟩
  have K28 := Lib.hid (K27.out.more b27 h27)
  clear h27 b27 K27
  go_wp2_with fail
  refine (rjoinG _ (nT 2147483647) (by simp [nT]) (Nat.zero_le _) _ 1 _ [⟨a27, c27, [nN 5]⟩] _ 2 rfl rfl (tsG_new K28.out [⟨a27, c27, [nN 5]⟩] _ rfl (by simp)) rfl (by decide) (by decide)).mono ?_
  rintro e w28 ⟨a28, c28, rfl, h28, b28⟩
  have K29 := Lib.hid ((K28.out.on ((Below.refl _ _).alloc (Nat.le_refl _) _)).more b28 h28)
  clear h28 b28 K28
  go_wp2_with fail
  refine (ofG _ 6 _ 0 _ [] _ 1 rfl rfl (tsG_none _) rfl (by decide) (by decide)).mono ?_
  rintro e w29 ⟨a29, c29, rfl, h29, b29⟩
  have K30 := Lib.hid (K29.out.more b29 h29)
  clear h29 b29 K29
  go_wp2_with fail
  refine (numG _ _).mono ?_
  rintro e w30 ⟨a30, c30, rfl, h30, b30⟩
  have K31 := Lib.hid (K30.out.more b30 h30)
  clear h30 b30 K30
  go_wp2_with fail
  refine (blobG _ _ (by decide)).mono ?_
  rintro e w31 ⟨a31, c31, rfl, h31, b31⟩
  have K32 := Lib.hid (K31.out.more b31 h31)
  clear h31 b31 K31
  go_wp2_with fail
  refine (ofG _ 6 _ 2 _ [⟨a30, c30, [nN 0]⟩, ⟨a31, c31, [nB ⟨#[120]⟩]⟩] _ 3 rfl rfl (tsG_new K32.out [⟨a30, c30, [nN 0]⟩, ⟨a31, c31, [nB ⟨#[120]⟩]⟩] _ rfl (by simp)) rfl (by decide) (by decide)).mono ?_
  rintro e w32 ⟨a32, c32, rfl, h32, b32⟩
  have K33 := Lib.hid ((K32.out.on ((Below.refl _ _).alloc (Nat.le_refl _) _)).more b32 h32)
  clear h32 b32 K32
  go_wp2_with fail
  refine (numG _ _).mono ?_
  rintro e w33 ⟨a33, c33, rfl, h33, b33⟩
  have K34 := Lib.hid (K33.out.more b33 h33)
  clear h33 b33 K33
  go_wp2_with fail
  refine (blobG _ _ (by decide)).mono ?_
  rintro e w34 ⟨a34, c34, rfl, h34, b34⟩
  have K35 := Lib.hid (K34.out.more b34 h34)
  clear h34 b34 K34
  go_wp2_with fail
  refine (numG _ _).mono ?_
  rintro e w35 ⟨a35, c35, rfl, h35, b35⟩
  have K36 := Lib.hid (K35.out.more b35 h35)
  clear h35 b35 K35
  go_wp2_with fail
  refine (numG _ _).mono ?_
  rintro e w36 ⟨a36, c36, rfl, h36, b36⟩
  have K37 := Lib.hid (K36.out.more b36 h36)
  clear h36 b36 K36
  go_wp2_with fail
  refine (ofG _ 6 _ 4 _ [⟨a33, c33, [nN 0]⟩, ⟨a34, c34, [nB ⟨#[120]⟩]⟩, ⟨a35, c35, [nN 1]⟩, ⟨a36, c36, [nN 0]⟩] _ 5 rfl rfl (tsG_new K37.out [⟨a33, c33, [nN 0]⟩, ⟨a34, c34, [nB ⟨#[120]⟩]⟩, ⟨a35, c35, [nN 1]⟩, ⟨a36, c36, [nN 0]⟩] _ rfl (by simp)) rfl (by decide) (by decide)).mono ?_
  rintro e w37 ⟨a37, c37, rfl, h37, b37⟩
  have K38 := Lib.hid ((K37.out.on ((Below.refl _ _).alloc (Nat.le_refl _) _)).more b37 h37)
  clear h37 b37 K37
  go_wp2_with fail
  refine (numG _ _).mono ?_
  rintro e w38 ⟨a38, c38, rfl, h38, b38⟩
  have K39 := Lib.hid (K38.out.more b38 h38)
  clear h38 b38 K38
  go_wp2_with fail
  refine (numG _ _).mono ?_
  rintro e w39 ⟨a39, c39, rfl, h39, b39⟩
  have K40 := Lib.hid (K39.out.more b39 h39)
  clear h39 b39 K39
  go_wp2_with fail
  refine (ofG _ 6 _ 2 _ [⟨a38, c38, [nN 1]⟩, ⟨a39, c39, [nN 0]⟩] _ 3 rfl rfl (tsG_new K40.out [⟨a38, c38, [nN 1]⟩, ⟨a39, c39, [nN 0]⟩] _ rfl (by simp)) rfl (by decide) (by decide)).mono ?_
  rintro e w40 ⟨a40, c40, rfl, h40, b40⟩
  have K41 := Lib.hid ((K40.out.on ((Below.refl _ _).alloc (Nat.le_refl _) _)).more b40 h40)
  clear h40 b40 K40
  go_wp2_with fail
  go_ret
  exact ⟨_, [⟨a0, c0, [nN (-9223372036854775808)]⟩, ⟨a1, c1, [nN (-1)]⟩, ⟨a2, c2, [nN 0]⟩, ⟨a3, c3, [nN 9223372036854775807]⟩, ⟨a4, c4, [nB ⟨#[]⟩]⟩, ⟨a5, c5, [nB ⟨#[0]⟩]⟩, ⟨a6, c6, [nB ⟨#[97]⟩]⟩, ⟨a7, c7, [nB ⟨#[97, 0]⟩]⟩, ⟨a8, c8, [nB ⟨#[98]⟩]⟩, ⟨a9, c9, [nB ⟨#[255]⟩]⟩, ⟨a10, c10, [nR 18442240474082181120]⟩, ⟨a11, c11, [nR 9223372036854775808]⟩, ⟨a12, c12, [nR 0]⟩, ⟨a13, c13, [nR 1]⟩, ⟨a14, c14, [nR 9221120237041090560]⟩, ⟨a15, c15, joinL (nK 4) []⟩, ⟨a17, c17, joinL (nK 4) [[nN 0]]⟩, ⟨a20, c20, joinL (nK 4) [[nN 0], [nN 0]]⟩, ⟨a22, c22, joinL (nK 4) [[nN 1]]⟩, ⟨a24, c24, joinL (nK 4) [joinL (nK 4) []]⟩, ⟨a25, c25, joinL (nK 5) []⟩, ⟨a26, c26, joinL (nT 1) []⟩, ⟨a28, c28, joinL (nT 2147483647) [[nN 5]]⟩, ⟨a29, c29, joinL (nK 6) []⟩, ⟨a32, c32, joinL (nK 6) [[nN 0], [nB ⟨#[120]⟩]]⟩, ⟨a37, c37, joinL (nK 6) [[nN 0], [nB ⟨#[120]⟩], [nN 1], [nN 0]]⟩, ⟨a40, c40, joinL (nK 6) [[nN 1], [nN 0]]⟩], rfl, rfl, tsG_new K41.out _ _ rfl (by simp), (K41.out.on ((Below.refl _ _).alloc (Nat.le_refl _) _)).below⟩
end Go.Proofs.YtieoiklgoeclaaaGreat
namespace Go.Proofs.YtieoiklgoeclaaaGreat

def wantI (i k : Nat) : Int := if i < k then -1 else if k < i then 1 else 0
set_option maxRecDepth 100000 in
theorem some_ord : ∀ i : Fin 27, ∀ k : Fin 27, ordT (someL.getD i []) (someL.getD k []) = wantI i k := by decide +kernel
set_option maxRecDepth 100000 in
theorem some_right : ∀ i : Fin 27, rightB (someL.getD i []) = true := by decide +kernel
set_option maxRecDepth 100000 in
theorem some_len : ∀ i : Fin 27, 0 < (someL.getD i []).length ∧ (someL.getD i []).length ≤ 5 := by decide +kernel
theorem some_size : someL.length = 27 := rfl
end Go.Proofs.YtieoiklgoeclaaaGreat
namespace Go.Proofs.YtieoiklgoeclaaaGreat
open Go.RowKit

/-- The terms in their row. -/
structure RowG (w : World) (g : Nat) (l : List TK) : Prop where
  ts : TsG w (some ⟨g, 0, none⟩) l
  xs : l.map TK.xs = someL
theorem RowG.below {w w' : World} {g : Nat} {l : List TK} (h : RowG w g l) (hb : Below w.heap.size w w') : RowG w' g l := ⟨h.ts.below hb, h.xs⟩
theorem RowG.len {w : World} {g : Nat} {l : List TK} (h : RowG w g l) : l.length = 27 := by have := congrArg List.length h.xs; rw [List.length_map] at this; rw [this]; rfl
theorem RowG.at_ {w : World} {g : Nat} {l : List TK} (h : RowG w g l) (i : Nat) (hi : i < 27) : ∃ a n c, w.cell? ⟨g, i, none⟩ = some (.slice a n c) ∧ TG w ⟨a, c, someL.getD i []⟩ ∧ n = (someL.getD i []).length := by
  have hl := h.len
  have hil : i < l.length := by omega
  obtain ⟨g', off, e, -, hc⟩ := h.ts.row (by omega)
  cases e
  have hx : l[i].xs = someL.getD i [] := by
    have h1 : (l.map TK.xs)[i]? = some l[i].xs := by simp [hil]
    rw [h.xs] at h1
    rw [List.getD_eq_getElem?_getD, h1]; rfl
  have h1 := hc i hil
  have h2 := h.ts.each _ (List.getElem_mem hil)
  rw [Nat.zero_add] at h1
  obtain ⟨t, et⟩ : ∃ t, t = l[i] := ⟨_, rfl⟩
  rw [← et] at h1 h2 hx
  obtain ⟨a, c, xs⟩ := t
  simp only at hx
  subst hx
  exact ⟨a, _, c, h1, h2, rfl⟩
def mapL (xs ys : List Nd) : List Nd := joinL (nK 6) [xs, ys, ys, xs]
theorem four_ts {w : World} {a b : Option Addr} {n m c d : Nat} {xs ys : List Nd} (hx : TG w ⟨a, c, xs⟩) (hy : TG w ⟨b, d, ys⟩) (hn : n = xs.length) (hm : m = ys.length) {g : Nat} (hg : Lies w g #[.slice a n c, .slice b m d, .slice b m d, .slice a n c] 27) : TsG w (some ⟨g, 0, none⟩) [⟨a, c, xs⟩, ⟨b, d, ys⟩, ⟨b, d, ys⟩, ⟨a, c, xs⟩] := by
  refine ⟨fun _ => ⟨g, 0, rfl, hg.lt, fun j hj => ?_⟩, fun t ht => ?_⟩
  · simp only [List.length_cons, List.length_nil] at hj
    rcases (by omega : j = 0 ∨ j = 1 ∨ j = 2 ∨ j = 3) with rfl | rfl | rfl | rfl <;> subst hn hm
    · exact hg.cell 0 rfl
    · exact hg.cell 1 rfl
    · exact hg.cell 2 rfl
    · exact hg.cell 3 rfl
  · simp only [List.mem_cons, List.not_mem_nil, or_false] at ht
    rcases ht with rfl | rfl | rfl | rfl <;> assumption
theorem mapG (w : World) {a b : Option Addr} {n m c d : Nat} {xs ys : List Nd} (hx : TG w ⟨a, c, xs⟩) (hy : TG w ⟨b, d, ys⟩) (hn : n = xs.length) (hm : m = ys.length) {g : Nat} (hg : Lies w g #[.slice a n c, .slice b m d, .slice b m d, .slice a n c] 27) (hl : xs.length ≤ 1000) (hl2 : ys.length ≤ 1000) :
    Calls Tryz.prog 7 #[.int .i64 6, .slice (some ⟨g, 0, none⟩) 4 4] w (GotT w (mapL xs ys) (mapL xs ys).length) :=
  ofG w 6 _ 4 4 [⟨a, c, xs⟩, ⟨b, d, ys⟩, ⟨b, d, ys⟩, ⟨a, c, xs⟩] [xs, ys, ys, xs] _ rfl rfl (four_ts hx hy hn hm hg) rfl (by simp [mapL, joinL]; omega) (by decide)
/-- What the two calls of a map hang on. -/
structure Pr (W0 V : World) (a b : Option Addr) (n m c d : Nat) (xs ys : List Nd) : Prop where
  below : Below W0.heap.size W0 V
  left : TG V ⟨a, c, xs⟩
  right : TG V ⟨b, d, ys⟩
set_option maxHeartbeats 2000000 in
theorem pair_facts (W0 : World) (ai ak : Option Addr) (ni nk ci ck : Nat) (xs ys : List Nd) (z : Int) (ti : TG W0 ⟨ai, ci, xs⟩) (tk : TG W0 ⟨ak, ck, ys⟩) (hni : ni = xs.length) (hnk : nk = ys.length) (hl1 : xs.length ≤ 1000) (hl2' : ys.length ≤ 1000) (hord : ordT xs ys = z) :
    ∃ n1 n2 : Nat, (∀ V, Below W0.heap.size W0 V → Calls Tryz.prog 5 #[.agg #[.slice ai ni ci], .agg #[.slice ak nk ck]] V fun e w' => e = .returned (.int .i64 z) ∧ Below W0.heap.size W0 w') ∧
      (∀ V, Below W0.heap.size W0 V → Calls Tryz.prog 6 #[.agg #[.slice ai ni ci], .agg #[.slice ak nk ck]] V fun e w' => e = .returned (.bool true) ∧ Below W0.heap.size W0 w') ∧
      (∀ U, Below W0.heap.size W0 U → Calls Tryz.prog 7 #[.int .i64 6, .slice (some ⟨U.heap.size, 0, none⟩) 4 4] (U.alloc (.cells #[.slice ai ni ci, .slice ak nk ck, .slice ak nk ck, .slice ai ni ci] 27)) fun e w' => ∃ a c, e = .returned (.agg #[.slice a n1 c]) ∧ TG w' ⟨a, c, mapL xs ys⟩ ∧ Below W0.heap.size W0 w') ∧
      (∀ U, Below W0.heap.size W0 U → Calls Tryz.prog 7 #[.int .i64 6, .slice (some ⟨U.heap.size + 1, 0, none⟩) 4 4] ((U.alloc (.cells #[.slice ak nk ck, .slice ai ni ci, .slice ai ni ci, .slice ak nk ck] 27)).alloc (.cells #[.slice ai ni ci, .slice ak nk ck, .slice ak nk ck, .slice ai ni ci] 27)) fun e w' => ∃ a c, e = .returned (.agg #[.slice a n1 c]) ∧ TG w' ⟨a, c, mapL xs ys⟩ ∧ Lies w' U.heap.size #[.slice ak nk ck, .slice ai ni ci, .slice ai ni ci, .slice ak nk ck] 27 ∧ Below W0.heap.size W0 w') ∧
      (∀ U, Below W0.heap.size W0 U → Calls Tryz.prog 7 #[.int .i64 6, .slice (some ⟨U.heap.size, 0, none⟩) 4 4] ((U.alloc (.cells #[.slice ai ni ci, .slice ak nk ck, .slice ak nk ck, .slice ai ni ci] 27)).alloc (.cells #[.slice ak nk ck, .slice ai ni ci, .slice ai ni ci, .slice ak nk ck] 27)) fun e w' => ∃ a c, e = .returned (.agg #[.slice a n1 c]) ∧ TG w' ⟨a, c, mapL xs ys⟩ ∧ Lies w' (U.heap.size + 1) #[.slice ak nk ck, .slice ai ni ci, .slice ai ni ci, .slice ak nk ck] 27 ∧ Below W0.heap.size W0 w') ∧
      (∀ U a c, Below W0.heap.size W0 U → TG U ⟨a, c, mapL xs ys⟩ → Calls Tryz.prog 7 #[.int .i64 6, .slice (some ⟨U.heap.size, 0, none⟩) 4 4] (U.alloc (.cells #[.slice ak nk ck, .slice ai ni ci, .slice ai ni ci, .slice ak nk ck] 27)) fun e w' => ∃ a' c', e = .returned (.agg #[.slice a' n2 c']) ∧ (TG w' ⟨a, c, mapL xs ys⟩ ∧ TG w' ⟨a', c', mapL ys xs⟩) ∧ Below W0.heap.size W0 w') ∧
      (∀ U blk a c, Below W0.heap.size W0 U → TG U ⟨a, c, mapL xs ys⟩ → Lies U blk #[.slice ak nk ck, .slice ai ni ci, .slice ai ni ci, .slice ak nk ck] 27 → Calls Tryz.prog 7 #[.int .i64 6, .slice (some ⟨blk, 0, none⟩) 4 4] U fun e w' => ∃ a' c', e = .returned (.agg #[.slice a' n2 c']) ∧ (TG w' ⟨a, c, mapL xs ys⟩ ∧ TG w' ⟨a', c', mapL ys xs⟩) ∧ Below W0.heap.size W0 w') ∧
      (∀ V a c a' c', Below W0.heap.size W0 V → (TG V ⟨a, c, mapL xs ys⟩ ∧ TG V ⟨a', c', mapL ys xs⟩) → Calls Tryz.prog 6 #[.agg #[.slice a n1 c], .agg #[.slice a' n2 c']] V fun e w' => e = .returned (.bool true) ∧ Below W0.heap.size W0 w') ∧
      (∀ (V : World) (o : Obj), Below W0.heap.size W0 V → Below W0.heap.size W0 (V.alloc o)) := by
  obtain ⟨n1, hn1⟩ : ∃ n, n = (mapL xs ys).length := ⟨_, rfl⟩
  obtain ⟨n2, hn2⟩ : ∃ n, n = (mapL ys xs).length := ⟨_, rfl⟩
  have lt1 : ∀ V, Below W0.heap.size W0 V → TG V ⟨ai, ci, xs⟩ ∧ TG V ⟨ak, ck, ys⟩ := fun V hV => ⟨ti.below hV, tk.below hV⟩
  have up : ∀ (V : World) (v : Value), Below W0.heap.size W0 V → ∀ e w', (e = Ending.returned v ∧ Below V.heap.size V w') → (e = Ending.returned v ∧ Below W0.heap.size W0 w') := fun V v hV e w' k => ⟨k.1, hV.trans (k.2.mono hV.size)⟩
  have k5 : ∀ V, Below W0.heap.size W0 V → Calls Tryz.prog 5 #[.agg #[.slice ai ni ci], .agg #[.slice ak nk ck]] V fun e w' => e = .returned (.int .i64 z) ∧ Below W0.heap.size W0 w' := fun V hV => by
    have := orderG V ⟨ai, ci, xs⟩ ⟨ak, ck, ys⟩ ni nk hni hnk (lt1 V hV).1 (lt1 V hV).2
    simp only [hord] at this
    exact this.mono (up V _ hV)
  have k6 : ∀ V, Below W0.heap.size W0 V → Calls Tryz.prog 6 #[.agg #[.slice ai ni ci], .agg #[.slice ak nk ck]] V fun e w' => e = .returned (.bool true) ∧ Below W0.heap.size W0 w' := fun V hV => (tellsG V ⟨ai, ci, xs⟩ ⟨ak, ck, ys⟩ ni nk hni hnk (lt1 V hV).1 (lt1 V hV).2).mono (up V _ hV)
  have b1 : ∀ (U : World) (o : Obj), Below U.heap.size U (U.alloc o) := fun U o => (Below.refl _ _).alloc (Nat.le_refl _) _
  have m1 : ∀ V blk, Below W0.heap.size W0 V → Lies V blk #[.slice ai ni ci, .slice ak nk ck, .slice ak nk ck, .slice ai ni ci] 27 → Calls Tryz.prog 7 #[.int .i64 6, .slice (some ⟨blk, 0, none⟩) 4 4] V fun e w' => ∃ a c, e = .returned (.agg #[.slice a n1 c]) ∧ TG w' ⟨a, c, mapL xs ys⟩ ∧ Below V.heap.size V w' := fun V blk hV hl => by
    rw [hn1]
    exact mapG V (lt1 V hV).1 (lt1 V hV).2 hni hnk hl (by omega) (by omega)
  have m2 : ∀ V blk, Below W0.heap.size W0 V → Lies V blk #[.slice ak nk ck, .slice ai ni ci, .slice ai ni ci, .slice ak nk ck] 27 → Calls Tryz.prog 7 #[.int .i64 6, .slice (some ⟨blk, 0, none⟩) 4 4] V fun e w' => ∃ a c, e = .returned (.agg #[.slice a n2 c]) ∧ TG w' ⟨a, c, mapL ys xs⟩ ∧ Below V.heap.size V w' := fun V blk hV hl => by
    rw [hn2]
    exact mapG V (lt1 V hV).2 (lt1 V hV).1 hnk hni hl (by omega) (by omega)
  have k7a : ∀ U, Below W0.heap.size W0 U → Calls Tryz.prog 7 #[.int .i64 6, .slice (some ⟨U.heap.size, 0, none⟩) 4 4] (U.alloc (.cells #[.slice ai ni ci, .slice ak nk ck, .slice ak nk ck, .slice ai ni ci] 27)) fun e w' => ∃ a c, e = .returned (.agg #[.slice a n1 c]) ∧ TG w' ⟨a, c, mapL xs ys⟩ ∧ Below W0.heap.size W0 w' := fun U hU => by
    have hV := hU.trans ((b1 U (.cells #[.slice ai ni ci, .slice ak nk ck, .slice ak nk ck, .slice ai ni ci] 27)).mono hU.size)
    exact (m1 _ _ hV (Lies.new U _ _)).mono fun e w' ⟨a, c, h1, h2, h3⟩ => ⟨a, c, h1, h2, hV.trans (h3.mono hV.size)⟩
  have k7b : ∀ U, Below W0.heap.size W0 U → Calls Tryz.prog 7 #[.int .i64 6, .slice (some ⟨U.heap.size + 1, 0, none⟩) 4 4] ((U.alloc (.cells #[.slice ak nk ck, .slice ai ni ci, .slice ai ni ci, .slice ak nk ck] 27)).alloc (.cells #[.slice ai ni ci, .slice ak nk ck, .slice ak nk ck, .slice ai ni ci] 27)) fun e w' => ∃ a c, e = .returned (.agg #[.slice a n1 c]) ∧ TG w' ⟨a, c, mapL xs ys⟩ ∧ Lies w' U.heap.size #[.slice ak nk ck, .slice ai ni ci, .slice ai ni ci, .slice ak nk ck] 27 ∧ Below W0.heap.size W0 w' := fun U hU => by
    have hV1 := hU.trans ((b1 U (.cells #[.slice ak nk ck, .slice ai ni ci, .slice ai ni ci, .slice ak nk ck] 27)).mono hU.size)
    have hV := hV1.trans ((b1 _ (.cells #[.slice ai ni ci, .slice ak nk ck, .slice ak nk ck, .slice ai ni ci] 27)).mono hV1.size)
    have hl := Lies.new (U.alloc (.cells #[.slice ak nk ck, .slice ai ni ci, .slice ai ni ci, .slice ak nk ck] 27)) #[.slice ai ni ci, .slice ak nk ck, .slice ak nk ck, .slice ai ni ci] 27
    rw [show (U.alloc (.cells #[.slice ak nk ck, .slice ai ni ci, .slice ai ni ci, .slice ak nk ck] 27)).heap.size = U.heap.size + 1 by simp] at hl
    have hl2 : Lies ((U.alloc (.cells #[.slice ak nk ck, .slice ai ni ci, .slice ai ni ci, .slice ak nk ck] 27)).alloc (.cells #[.slice ai ni ci, .slice ak nk ck, .slice ak nk ck, .slice ai ni ci] 27)) U.heap.size #[.slice ak nk ck, .slice ai ni ci, .slice ai ni ci, .slice ak nk ck] 27 := (Lies.new _ _ _).alloc _
    exact (m1 _ _ hV hl).mono fun e w' ⟨a, c, h1, h2, h3⟩ => ⟨a, c, h1, h2, hl2.below h3 hl2.lt, hV.trans (h3.mono hV.size)⟩
  have k7c : ∀ U, Below W0.heap.size W0 U → Calls Tryz.prog 7 #[.int .i64 6, .slice (some ⟨U.heap.size, 0, none⟩) 4 4] ((U.alloc (.cells #[.slice ai ni ci, .slice ak nk ck, .slice ak nk ck, .slice ai ni ci] 27)).alloc (.cells #[.slice ak nk ck, .slice ai ni ci, .slice ai ni ci, .slice ak nk ck] 27)) fun e w' => ∃ a c, e = .returned (.agg #[.slice a n1 c]) ∧ TG w' ⟨a, c, mapL xs ys⟩ ∧ Lies w' (U.heap.size + 1) #[.slice ak nk ck, .slice ai ni ci, .slice ai ni ci, .slice ak nk ck] 27 ∧ Below W0.heap.size W0 w' := fun U hU => by
    have hV1 := hU.trans ((b1 U (.cells #[.slice ai ni ci, .slice ak nk ck, .slice ak nk ck, .slice ai ni ci] 27)).mono hU.size)
    have hV := hV1.trans ((b1 _ (.cells #[.slice ak nk ck, .slice ai ni ci, .slice ai ni ci, .slice ak nk ck] 27)).mono hV1.size)
    have hl := Lies.new (U.alloc (.cells #[.slice ai ni ci, .slice ak nk ck, .slice ak nk ck, .slice ai ni ci] 27)) #[.slice ak nk ck, .slice ai ni ci, .slice ai ni ci, .slice ak nk ck] 27
    rw [show (U.alloc (.cells #[.slice ai ni ci, .slice ak nk ck, .slice ak nk ck, .slice ai ni ci] 27)).heap.size = U.heap.size + 1 by simp] at hl
    have hl2 : Lies ((U.alloc (.cells #[.slice ai ni ci, .slice ak nk ck, .slice ak nk ck, .slice ai ni ci] 27)).alloc (.cells #[.slice ak nk ck, .slice ai ni ci, .slice ai ni ci, .slice ak nk ck] 27)) U.heap.size #[.slice ai ni ci, .slice ak nk ck, .slice ak nk ck, .slice ai ni ci] 27 := (Lies.new _ _ _).alloc _
    exact (m1 _ _ hV hl2).mono fun e w' ⟨a, c, h1, h2, h3⟩ => ⟨a, c, h1, h2, hl.below h3 hl.lt, hV.trans (h3.mono hV.size)⟩
  have k7d : ∀ U a c, Below W0.heap.size W0 U → TG U ⟨a, c, mapL xs ys⟩ → Calls Tryz.prog 7 #[.int .i64 6, .slice (some ⟨U.heap.size, 0, none⟩) 4 4] (U.alloc (.cells #[.slice ak nk ck, .slice ai ni ci, .slice ai ni ci, .slice ak nk ck] 27)) fun e w' => ∃ a' c', e = .returned (.agg #[.slice a' n2 c']) ∧ (TG w' ⟨a, c, mapL xs ys⟩ ∧ TG w' ⟨a', c', mapL ys xs⟩) ∧ Below W0.heap.size W0 w' := fun U a c hU ht => by
    have hV := hU.trans ((b1 U (.cells #[.slice ak nk ck, .slice ai ni ci, .slice ai ni ci, .slice ak nk ck] 27)).mono hU.size)
    exact (m2 _ _ hV (Lies.new U _ _)).mono fun e w' ⟨a', c', h1, h2, h3⟩ => ⟨a', c', h1, ⟨(ht.below (b1 U (.cells #[.slice ak nk ck, .slice ai ni ci, .slice ai ni ci, .slice ak nk ck] 27))).below h3, h2⟩, hV.trans (h3.mono hV.size)⟩
  have k7e : ∀ U blk a c, Below W0.heap.size W0 U → TG U ⟨a, c, mapL xs ys⟩ → Lies U blk #[.slice ak nk ck, .slice ai ni ci, .slice ai ni ci, .slice ak nk ck] 27 → Calls Tryz.prog 7 #[.int .i64 6, .slice (some ⟨blk, 0, none⟩) 4 4] U fun e w' => ∃ a' c', e = .returned (.agg #[.slice a' n2 c']) ∧ (TG w' ⟨a, c, mapL xs ys⟩ ∧ TG w' ⟨a', c', mapL ys xs⟩) ∧ Below W0.heap.size W0 w' := fun U blk a c hU ht hl =>
    (m2 U blk hU hl).mono fun e w' ⟨a', c', h1, h2, h3⟩ => ⟨a', c', h1, ⟨ht.below h3, h2⟩, hU.trans (h3.mono hU.size)⟩
  have k6b : ∀ V a c a' c', Below W0.heap.size W0 V → (TG V ⟨a, c, mapL xs ys⟩ ∧ TG V ⟨a', c', mapL ys xs⟩) → Calls Tryz.prog 6 #[.agg #[.slice a n1 c], .agg #[.slice a' n2 c']] V fun e w' => e = .returned (.bool true) ∧ Below W0.heap.size W0 w' := fun V a c a' c' hV h => (tellsG V ⟨a, c, mapL xs ys⟩ ⟨a', c', mapL ys xs⟩ n1 n2 hn1 hn2 h.1 h.2).mono (up V _ hV)
  exact ⟨n1, n2, k5, k6, k7a, k7b, k7c, k7d, k7e, k6b, fun V o h => h.alloc h.size o⟩
end Go.Proofs.YtieoiklgoeclaaaGreat
namespace Go.Proofs.YtieoiklgoeclaaaGreat
open Go.RowKit

theorem nat_set {w : World} {g : Nat} {xs : List Nd} (h : NAt w g 0 xs) (m q : Nat) (v : Value) (x' : Nd) (hm : m < xs.length) (hq : q < 5) (hx : ∀ i, i < 5 → x'.cells[i]? = if i = q then some v else xs[m].cells[i]?) : NAt (w.setCell ⟨g, m * 5 + q, none⟩ v) g 0 (xs.set m x') := by
  refine ⟨by have := h.1; simpa [World.setCell] using this, fun j hj i u hu => ?_⟩
  rw [List.length_set] at hj
  have hi := cells_lt _ hu
  have hold : ∃ u0, w.cell? ⟨g, m * 5 + q, none⟩ = some u0 := by
    have h5 : xs[m].cells.size = 5 := rfl
    have := h.2 m hm q (xs[m].cells[q]'(by omega)) (Array.getElem?_eq_getElem (by omega))
    rw [show 0 + m * 5 + q = m * 5 + q by omega] at this
    exact ⟨_, this⟩
  obtain ⟨u0, h0⟩ := hold
  rw [show 0 + j * 5 + i = j * 5 + i by omega]
  by_cases hjm : j = m
  · subst hjm
    rw [List.getElem_set_self] at hu
    rw [hx i hi] at hu
    by_cases hiq : i = q
    · subst hiq
      rw [if_pos rfl] at hu
      cases hu
      exact World.cell?_setCell_same _ _ _ h0
    · rw [if_neg hiq] at hu
      rw [World.cell?_setCell_other _ _ _ _ (by intro e; injection e with _ e2; omega)]
      have := h.2 j hm i u hu
      rw [show 0 + j * 5 + i = j * 5 + i by omega] at this
      exact this
  · rw [List.getElem_set_ne (Ne.symm hjm)] at hu
    rw [World.cell?_setCell_other _ _ _ _ (by intro e; injection e with _ e2; omega)]
    have := h.2 j hj i u hu
    rw [show 0 + j * 5 + i = j * 5 + i by omega] at this
    exact this
theorem tg_set {w : World} {g c : Nat} {xs : List Nd} (h : TG w ⟨some ⟨g, 0, none⟩, c, xs⟩) (hN : NAt w g 0 xs) (m q : Nat) (v : Value) (x' : Nd) (hm : m < xs.length) (hq : q < 5) (hx : ∀ i, i < 5 → x'.cells[i]? = if i = q then some v else xs[m].cells[i]?) (hk : x'.kids ≤ 9223372036854775807) (hw : x'.bits < 2 ^ 64) (ht : x'.txt.size ≤ 1000000000000) :
    TG (w.setCell ⟨g, m * 5 + q, none⟩ v) ⟨some ⟨g, 0, none⟩, c, xs.set m x'⟩ := by
  have hmem : ∀ y ∈ xs.set m x', y ∈ xs ∨ y = x' := fun y hy => List.mem_or_eq_of_mem_set hy
  refine ⟨⟨fun _ => ⟨g, 0, rfl, nat_set hN m q v x' hm hq hx⟩, by rw [List.length_set]; exact h.tat.2.1, fun y hy => ?_⟩, by rw [List.length_set]; exact h.room, (fun e => by cases e), fun y hy => ?_, fun y hy => ?_⟩
  · rcases hmem y hy with h1 | rfl
    · exact h.tat.2.2 y h1
    · exact hk
  · rcases hmem y hy with h1 | rfl
    · exact h.words y h1
    · exact hw
  · rcases hmem y hy with h1 | rfl
    · exact h.txt y h1
    · exact ht
theorem nat_other {w : World} {g off b j : Nat} {xs : List Nd} (h : NAt w g off xs) (hb : b ≠ g) (v : Value) : NAt (w.setCell ⟨b, j, none⟩ v) g off xs :=
  ⟨by have := h.1; simpa [World.setCell] using this, fun k hk i u hu => by rw [World.cell?_setCell_other _ _ _ _ (by intro e; injection e with e1 _; exact hb e1)]; exact h.2 k hk i u hu⟩
theorem tg_other {w : World} {g c b j : Nat} {xs : List Nd} (h : TG w ⟨some ⟨g, 0, none⟩, c, xs⟩) (hN : NAt w g 0 xs) (hb : b ≠ g) (v : Value) : TG (w.setCell ⟨b, j, none⟩ v) ⟨some ⟨g, 0, none⟩, c, xs⟩ :=
  ⟨⟨fun _ => ⟨g, 0, rfl, nat_other hN hb v⟩, h.tat.2⟩, h.room, h.nil0, h.words, h.txt⟩
def tailA (g c : Nat) : Option Addr := if c = 1 then some ⟨g, 0, none⟩ else some ⟨g, 5, none⟩
theorem slice_one (w : World) (g n c : Nat) (h1 : 1 ≤ n) (h2 : n ≤ c) : (Instr.slice 25 (.slice (some ⟨g, 0, none⟩) n c) (some (.int .i64 1)) none none).run Tryz.prog w = .ok (.slice (tailA g c) (n - 1) (c - 1)) w := by
  have q1 : (1 : Int) ≤ (n : Int) := by omega
  have q2 : (n : Int) ≤ (c : Int) := by omega
  unfold tailA
  by_cases hc : c = 1
  · have hn : n = 1 := by omega
    subst hc hn
    simp [go_sem]
  · simp [go_sem, q1, q2, h1, h2, hc]
theorem five {i : Nat} (h : i < 5) : i = 0 ∨ i = 1 ∨ i = 2 ∨ i = 3 ∨ i = 4 := by omega
section
variable {w : World} {g c m : Nat} {xs : List Nd} {kk nn dd : Int} {bb : Nat} {tt : ByteArray}
theorem tg_kind (h : TG w ⟨some ⟨g, 0, none⟩, c, xs⟩) (hN : NAt w g 0 xs) (hm : m < xs.length) (ex : (⟨kk, nn, bb, tt, dd⟩ : Nd) = xs[m]) (hk : dd ≤ 9223372036854775807) (hw : bb < 2 ^ 64) (ht : tt.size ≤ 1000000000000) (v : Int) : TG (w.setCell ⟨g, m * 5, none⟩ (.int .i64 v)) ⟨some ⟨g, 0, none⟩, c, xs.set m ⟨v, nn, bb, tt, dd⟩⟩ :=
  tg_set h hN m 0 _ ⟨v, nn, bb, tt, dd⟩ hm (by omega) (fun i hi => by rw [← ex]; rcases five hi with rfl | rfl | rfl | rfl | rfl <;> rfl) hk hw ht
theorem tg_num (h : TG w ⟨some ⟨g, 0, none⟩, c, xs⟩) (hN : NAt w g 0 xs) (hm : m < xs.length) (ex : (⟨kk, nn, bb, tt, dd⟩ : Nd) = xs[m]) (hk : dd ≤ 9223372036854775807) (hw : bb < 2 ^ 64) (ht : tt.size ≤ 1000000000000) (v : Int) : TG (w.setCell ⟨g, m * 5 + 1, none⟩ (.int .i64 v)) ⟨some ⟨g, 0, none⟩, c, xs.set m ⟨kk, v, bb, tt, dd⟩⟩ :=
  tg_set h hN m 1 _ ⟨kk, v, bb, tt, dd⟩ hm (by omega) (fun i hi => by rw [← ex]; rcases five hi with rfl | rfl | rfl | rfl | rfl <;> rfl) hk hw ht
theorem tg_bits (h : TG w ⟨some ⟨g, 0, none⟩, c, xs⟩) (hN : NAt w g 0 xs) (hm : m < xs.length) (ex : (⟨kk, nn, bb, tt, dd⟩ : Nd) = xs[m]) (hk : dd ≤ 9223372036854775807) (ht : tt.size ≤ 1000000000000) (v : Nat) (hv : v < 2 ^ 64) : TG (w.setCell ⟨g, m * 5 + 2, none⟩ (.int .u64 (v : Int))) ⟨some ⟨g, 0, none⟩, c, xs.set m ⟨kk, nn, v, tt, dd⟩⟩ :=
  tg_set h hN m 2 _ ⟨kk, nn, v, tt, dd⟩ hm (by omega) (fun i hi => by rw [← ex]; rcases five hi with rfl | rfl | rfl | rfl | rfl <;> rfl) hk hv ht
theorem tg_text (h : TG w ⟨some ⟨g, 0, none⟩, c, xs⟩) (hN : NAt w g 0 xs) (hm : m < xs.length) (ex : (⟨kk, nn, bb, tt, dd⟩ : Nd) = xs[m]) (hk : dd ≤ 9223372036854775807) (hw : bb < 2 ^ 64) (v : ByteArray) (hv : v.size ≤ 1000000000000) : TG (w.setCell ⟨g, m * 5 + 3, none⟩ (.string v)) ⟨some ⟨g, 0, none⟩, c, xs.set m ⟨kk, nn, bb, v, dd⟩⟩ :=
  tg_set h hN m 3 _ ⟨kk, nn, bb, v, dd⟩ hm (by omega) (fun i hi => by rw [← ex]; rcases five hi with rfl | rfl | rfl | rfl | rfl <;> rfl) hk hw hv
theorem tg_kids (h : TG w ⟨some ⟨g, 0, none⟩, c, xs⟩) (hN : NAt w g 0 xs) (hm : m < xs.length) (ex : (⟨kk, nn, bb, tt, dd⟩ : Nd) = xs[m]) (hw : bb < 2 ^ 64) (ht : tt.size ≤ 1000000000000) (v : Int) (hv : v ≤ 9223372036854775807) : TG (w.setCell ⟨g, m * 5 + 4, none⟩ (.int .i64 v)) ⟨some ⟨g, 0, none⟩, c, xs.set m ⟨kk, nn, bb, tt, v⟩⟩ :=
  tg_set h hN m 4 _ ⟨kk, nn, bb, tt, v⟩ hm (by omega) (fun i hi => by rw [← ex]; rcases five hi with rfl | rfl | rfl | rfl | rfl <;> rfl) hv hw ht
theorem tg_tail {n : Nat} (h : TG w ⟨some ⟨g, 0, none⟩, c, xs⟩) (hN : NAt w g 0 xs) (hn : n = xs.length) (h0 : 0 < xs.length) : TG w ⟨some ⟨g, 5, none⟩, c - 1, xs.tail⟩ ∧ n - 1 = xs.tail.length := by
  have hN2 : NAt w g 5 xs.tail := ⟨hN.1, fun j hj i v hv => by
    rw [List.length_tail] at hj
    rw [List.getElem_tail] at hv
    have := hN.2 (j + 1) (by omega) i v hv
    rwa [show 0 + (j + 1) * 5 + i = 5 + j * 5 + i by omega] at this⟩
  have hr := h.room
  have hl := h.tat.2.1
  simp only at hr hl
  refine ⟨⟨⟨fun _ => ⟨g, 5, rfl, hN2⟩, by simp only [List.length_tail]; omega, fun x hx => h.tat.2.2 x (List.mem_of_mem_tail hx)⟩, by simp only [List.length_tail]; omega, (fun e => by cases e), fun x hx => h.words x (List.mem_of_mem_tail hx), fun x hx => h.txt x (List.mem_of_mem_tail hx)⟩, by rw [List.length_tail, hn]⟩
theorem tg_same {n : Nat} (h : TG w ⟨some ⟨g, 0, none⟩, c, xs⟩) (hn : n = xs.length) (hc : c = 1) (h0 : 0 < xs.length) : TG w ⟨some ⟨g, 0, none⟩, c - 1, xs.tail⟩ ∧ n - 1 = xs.tail.length := by
  have hr := h.room
  simp only at hr
  have he : xs.tail = [] := by
    cases xs with
    | nil => rfl
    | cons x ys =>
      cases ys with
      | nil => rfl
      | cons y zs => simp only [List.length_cons] at hr; omega
  rw [he]
  refine ⟨⟨⟨(fun h => by simp at h), by simp, (fun x hx => by cases hx)⟩, by simp, (fun e => by cases e), (fun x hx => by cases hx), (fun x hx => by cases hx)⟩, ?_⟩
  simp only [List.length_nil]
  omega
end
theorem tg_cut {w : World} {g c n : Nat} {xs : List Nd} (h : TG w ⟨some ⟨g, 0, none⟩, c, xs⟩) (hN : NAt w g 0 xs) (hn : n = xs.length) (h0 : 0 < xs.length) : TG w ⟨tailA g c, c - 1, xs.tail⟩ ∧ n - 1 = xs.tail.length := by
  unfold tailA
  split
  · rename_i hc
    exact tg_same h hn hc h0
  · exact tg_tail h hN hn h0
theorem wrap_u64n (t : Int) : ∃ n : Nat, n < 2 ^ 64 ∧ IntKind.u64.wrap t = (n : Int) := by
  rw [IntKind.wrap_u64]
  exact ⟨(t % 18446744073709551616).toNat, by omega, by omega⟩
theorem bits_u64 (op : BinOp) (x y : Int) : ∃ n : Nat, n < 2 ^ 64 ∧ bits op .u64 x y = (n : Int) := wrap_u64n _
theorem some_small : ∀ i : Fin 27, (someL.getD i []).all (fun x => decide (0 ≤ x.kids ∧ x.kids ≤ 4 ∧ x.txt.size ≤ 2)) = true := by decide +kernel
end Go.Proofs.YtieoiklgoeclaaaGreat
