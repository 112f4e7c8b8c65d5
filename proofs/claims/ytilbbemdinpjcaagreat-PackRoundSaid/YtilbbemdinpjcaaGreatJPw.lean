/-
  pack: a new writer, its bytes; Long.
-/
import Derived.Test.YtilbbemdinpjcaaGreatJPs
import Derived.Test.YtilbbemdinpjcaaGreatJPf
import Derived.Deep.QuietTactic
import Derived.BigQuiet
import Derived.Test.YtilbbemdinpjcaaGreatJWWantSt
import Derived.Test.YtilbbemdinpjcaaGreatJWTwo
set_option maxHeartbeats 16000000
namespace Go.Proofs.YtilbbemdinpjcaaGreat.P
set_option maxRecDepth 100000
open Go.RowKit
theorem box_two (w:World) (A C:Array Value) (t s:TypeId):Lies ((w.alloc (.cells A t)).alloc (.cells C s)) w.heap.size A t∧Lies ((w.alloc (.cells A t)).alloc (.cells C s)) (w.heap.size+1) C s∧Below w.heap.size w ((w.alloc (.cells A t)).alloc (.cells C s))∧((w.alloc (.cells A t)).alloc (.cells C s)).heap.size=w.heap.size+2:=by
 have h2:=Lies.new (w.alloc (.cells A t)) C s
 rw [show (w.alloc (.cells A t)).heap.size=w.heap.size+1 by simp] at h2
 exact ⟨(Lies.new _ _ _).alloc _,h2,((Below.refl _ _).alloc (Nat.le_refl _) _).alloc (by simp) _,by simp⟩
structure Bx (w W:World) (g:Nat) (v:Value) (p q:Nat) (cs:Array Value) (t:TypeId):Prop where
 lp:Lies W p #[.pointer (some ⟨g,0,none⟩)] 170
 lq:Lies W q cs t
 b:Below w.heap.size w W
 op:Off W g v p
 oq:Off W g v q
theorem bx_of {w:World} {B g:Nat} {v:Value} {st:Option (List UInt8)} {S:World→Nat→Nat→Value→Option (List UInt8)→Prop} (h:WrO S w B g v st) (cs:Array Value) (t:TypeId):Bx w ((w.alloc (.cells #[.pointer (some ⟨g,0,none⟩)] 170)).alloc (.cells cs t)) g v w.heap.size (w.heap.size+1) cs t:=by
 obtain ⟨h1,h2,h3,h4⟩:=box_two w #[.pointer (some ⟨g,0,none⟩)] cs 170 t
 exact ⟨h1,h2,h3,h.off (Nat.le_refl _) (by rw [h4];omega),h.off (by omega) (by rw [h4];omega)⟩
theorem Bx.on {w W W':World} {g:Nat} {v v':Value} {p q:Nat} {cs:Array Value} {t:TypeId} (h:Bx w W g v p q cs t) (k:Lk g W v W' v'):Lies W' p #[.pointer (some ⟨g,0,none⟩)] 170∧Lies W' q cs t:=⟨k.lies h.lp h.op.ne h.op.own,k.lies h.lq h.oq.ne h.oq.own⟩
theorem putterValue_any (w:World) {B g:Nat} {v:Value} {st:Option (List UInt8)} (x:Va) (hT:Stays g w v fun W=>Row W x.pa x.l) (h:WrO W.WSt w B g v st) (hx:sz st+57 * cntV x≤700000) :
  Calls Tryz.prog 184 #[.agg #[.pointer (some ⟨g,0,none⟩)],.agg (vaC x)] w (PutR W.WSt w B g v (valS st x)):=by
 have hB:=bx_of h #[.int .i64 x.coin,.slice x.pa x.l.length x.c] 27
 have H:=Hj (Aj hT (Aj h (show sz st+57+57 * cntA x.l≤700000 by unfold cntV at hx;omega)))
 clear hT h hx
 unfold vaC vC
 go_enter Tryz.func184,Tryz.ntmps184
 go_upto_region 1 with fail
 generalize ((w.alloc (.cells #[.pointer (some ⟨g,0,none⟩)] 170)).alloc (.cells #[.int .i64 x.coin,.slice x.pa x.l.length x.c] 27))=W0 at hB ⊢
 obtain ⟨p,hp⟩:∃ p,p=w.heap.size:=⟨_,rfl⟩
 obtain ⟨q,hq⟩:∃ q,q=w.heap.size+1:=⟨_,rfl⟩
 rw [← hq,← hp] at hB ⊢
 clear hp hq
 have c0:=hB.lp.cell 0 (v:=.pointer (some ⟨g,0,none⟩)) rfl
 have c1:=hB.lq.cell 0 (v:=.int .i64 x.coin) rfl
 have HC:=Hj (wI64 W0 x.coin (H.out.2.1.belowW hB.b) (by have:=H.out.2.2;omega))
 have HB:=Hj hB
 clear hB
 go_wp2_with fail
 refine HC.out.mono ?_
 rintro e W1 ⟨rfl,u1,hw1,hk1⟩
 obtain ⟨l1,l2⟩:=HB.out.on hk1
 have hl1:=(Lk.of_below HB.out.b (v:=v) (g:=g)).trans hk1
 have c0:=l1.cell 0 (v:=.pointer (some ⟨g,0,none⟩)) rfl
 have c1:=l2.cell 1 (v:=.slice x.pa x.l.length x.c) rfl
 have HC1:=Hj (putterAssets_any W1 x.pa x.c x.l (H.out.1.on hl1) hw1 (by have:=H.out.2.2;have:=sz_N st (W.low64 x.coin) 8;omega))
 have HL:=Hj hl1
 clear hw1 hk1 l1 l2 hl1 HC
 go_wp2_with fail
 refine HC1.out.mono ?_
 rintro e W2 hr
 obtain ⟨rfl,hr⟩:=hr
 have HE:=Hj hr
 clear hr c0 c1 HC1
 go_wp2_with fail
 go_end0
 exact PutR.on HL.out ⟨rfl,HE.out⟩
def adC (b:Bool) (ah:List UInt8):Array Value:=#[.bool b] ++ B8 ah
theorem info_address:(Tryz.prog.info? 32).map (·.size)=some 33:=by kernel_rfl
theorem adC_hash {W:World} {q:Nat} {b:Bool} {ah:List UInt8} {t:TypeId} (h:Lies W q (adC b ah) t):W.rangeAt q 1 (B8 ah).toList:=fun j v hj=>by
 refine h.cell (1+j) ?_
 unfold adC
 rw [Array.getElem?_append_right (by simp)]
 rw [Array.getElem?_toList] at hj
 simpa using hj
theorem putterAddress_any (w:World) {B g:Nat} {v:Value} {st:Option (List UInt8)} (b:Bool) (ah:List UInt8) (hl:ah.length=32) (h:WrO W.WSt w B g v st) (hx:sz st≤700000) :
  Calls Tryz.prog 211 #[.agg #[.pointer (some ⟨g,0,none⟩)],.agg (adC b ah)] w (PutR W.WSt w B g v (W.stepB (W.stepB st [if b then 1 else 0]) ah)):=by
 obtain ⟨av,hav⟩:∃ x,x=adC b ah:=⟨_,rfl⟩
 obtain ⟨x0,hx0⟩:∃ x:List UInt8,x=[if b then 1 else 0]:=⟨_,rfl⟩
 have hx1:x0.length=1:=by rw [hx0];rfl
 have HX:=Hj (Aj (show ∀ W0,WrO W.WSt W0 B g v st→sz st≤900000→Calls Tryz.prog 266 #[.pointer (some ⟨g,0,none⟩),.bool b] W0 (PutR W.WSt W0 B g v (W.stepB st x0)) from fun W0 h hx=>by rw [hx0];exact wFlag W0 b h hx) hx1)
 rw [← hav,← hx0]
 clear hx0 hx1
 have hB:=bx_of h av 32
 have H:=Hj (Aj hav (Aj h (Aj hl hx)))
 have HP:=Hj (show (Tryz.prog.info? 30).map (·.size)=some (B8 ah).toList.length by rw [Array.length_toList,B8_size,hl];exact info_hashP)
 clear hav h hx hl
 obtain ⟨W0,HW⟩:∃ W0,(w.alloc (.cells #[.pointer (some ⟨g,0,none⟩)] 170)).alloc (.cells av 32)=W0:=⟨_,rfl⟩
 go_enter Tryz.func211,Tryz.ntmps211
 go_upto_region 1 with fail
 rw [HW] at hB
 clear HW
 obtain ⟨p,hp⟩:∃ p,p=w.heap.size:=⟨_,rfl⟩
 obtain ⟨q,hq⟩:∃ q,q=w.heap.size+1:=⟨_,rfl⟩
 rw [← hq,← hp] at hB ⊢
 clear hp hq
 have c0:=hB.lp.cell 0 (v:=.pointer (some ⟨g,0,none⟩)) rfl
 have c1:=(show Lies W0 q (adC b ah) _ by rw [← H.out.1];exact hB.lq).cell 0 (v:=.bool b) (by unfold adC;rw [Array.getElem?_append_left (by simp)];rfl)
 have HC:=Hj (HX.out.1 W0 (H.out.2.1.belowW hB.b) (by have:=H.out.2.2.2;omega))
 have HB:=Hj hB
 clear hB
 go_wp2_with fail
 refine HC.out.mono ?_
 rintro e W1 ⟨rfl,u1,hw1,hk1⟩
 obtain ⟨l1,l2⟩:=HB.out.on hk1
 have hl1:=(Lk.of_below HB.out.b (v:=v) (g:=g)).trans hk1
 have c0:=l1.cell 0 (v:=.pointer (some ⟨g,0,none⟩)) rfl
 have HR:=Hj (adC_hash (show Lies W1 q (adC b ah) _ by rw [← H.out.1];exact l2))
 have HC1:=Hj (wHash W1 ah H.out.2.2.1 hw1 (by have:=H.out.2.2.2;have:=sz_B st x0;have:=HX.out.2;omega))
 have HL:=Hj hl1
 clear hw1 hk1 l1 l2 hl1 HC c1
 go_wp2_with (first
  | (at_builtin;fail)
  | (refine wpList_load_mid rfl 30 _ rfl q 1 rfl (B8 ah).toList _ HR.out Tryz.underlying30 rfl HP.out ?_))
 refine HC1.out.mono ?_
 rintro e W2 hr
 obtain ⟨rfl,hr⟩:=hr
 have HE:=Hj hr
 clear hr c0 HC1
 go_wp2_with fail
 go_end0
 exact PutR.on HL.out ⟨rfl,HE.out⟩
theorem putterRef_any (w:World) {B g:Nat} {v:Value} {st:Option (List UInt8)} (r:Rf) (hl:r.tx.length=32) (h:WrO W.WSt w B g v st) (hx:sz st≤700000) :
  Calls Tryz.prog 188 #[.agg #[.pointer (some ⟨g,0,none⟩)],.agg (refC r)] w (PutR W.WSt w B g v (refS st r)):=by
 obtain ⟨av,hav⟩:∃ x,x=refC r:=⟨_,rfl⟩
 rw [← hav]
 have hB:=bx_of h av 37
 have H:=Hj (Aj hav (Aj h (Aj hl hx)))
 have HP:=Hj (show (Tryz.prog.info? 30).map (·.size)=some (B8 r.tx).toList.length by rw [Array.length_toList,B8_size,hl];exact info_hashP)
 clear hav h hx hl
 obtain ⟨W0,HW⟩:∃ W0,(w.alloc (.cells #[.pointer (some ⟨g,0,none⟩)] 170)).alloc (.cells av 37)=W0:=⟨_,rfl⟩
 go_enter Tryz.func188,Tryz.ntmps188
 go_upto_region 1 with fail
 rw [HW] at hB
 clear HW
 obtain ⟨p,hp⟩:∃ p,p=w.heap.size:=⟨_,rfl⟩
 obtain ⟨q,hq⟩:∃ q,q=w.heap.size+1:=⟨_,rfl⟩
 rw [← hq,← hp] at hB ⊢
 clear hp hq
 have c0:=hB.lp.cell 0 (v:=.pointer (some ⟨g,0,none⟩)) rfl
 have hlr:=show Lies W0 q (refC r) _ by rw [← H.out.1];exact hB.lq
 have HR:=Hj (show W0.rangeAt q 0 (B8 r.tx).toList from fun j v hj=>by
  rw [Nat.zero_add]
  refine hlr.cell j ?_
  rw [Array.getElem?_toList] at hj
  unfold refC
  rw [Array.getElem?_append_left (by have:=(Array.getElem?_eq_some_iff.1 hj).1;exact this)]
  exact hj)
 have HC:=Hj (wHash W0 r.tx H.out.2.2.1 (H.out.2.1.belowW hB.b) (by have:=H.out.2.2.2;omega))
 have HB:=Hj hB
 clear hB hlr
 go_wp2_with (first
  | (at_builtin;fail)
  | (refine wpList_load_mid rfl 30 _ rfl q 0 rfl (B8 r.tx).toList _ HR.out Tryz.underlying30 rfl HP.out ?_))
 refine HC.out.mono ?_
 rintro e W1 ⟨rfl,u1,hw1,hk1⟩
 obtain ⟨l1,l2⟩:=HB.out.on hk1
 have hl1:=(Lk.of_below HB.out.b (v:=v) (g:=g)).trans hk1
 have c0:=l1.cell 0 (v:=.pointer (some ⟨g,0,none⟩)) rfl
 have c1:=(show Lies W1 q (refC r) _ by rw [← H.out.1];exact l2).cell 32 (v:=.int .i64 r.place) (refC_place r H.out.2.2.1)
 have HC1:=Hj (wU16 W1 r.place hw1 (by have:=H.out.2.2.2;have:=sz_B st r.tx;have:=H.out.2.2.1;omega))
 have HL:=Hj hl1
 clear hw1 hk1 l1 l2 hl1 HC
 go_wp2_with fail
 refine HC1.out.mono ?_
 rintro e W2 hr
 obtain ⟨rfl,hr⟩:=hr
 have HE:=Hj hr
 clear hr c0 c1 HC1
 go_wp2_with fail
 go_end0
 exact PutR.on HL.out ⟨rfl,HE.out⟩
end Go.Proofs.YtilbbemdinpjcaaGreat.P
namespace Go.Proofs.YtilbbemdinpjcaaGreat.P
set_option maxRecDepth 100000
open Go.RowKit
theorem ot_ad {W:World} {q:Nat} {o:Ot} {t:TypeId} (h:Lies W q (otC o) t):W.rangeAt q 0 (adC o.prog o.ah).toList:=fun j v hj=>by
 rw [Nat.zero_add]
 refine h.cell j ?_
 rw [Array.getElem?_toList] at hj
 have hlt:=(Array.getElem?_eq_some_iff.1 hj).1
 have e:otC o=adC o.prog o.ah ++ (#[.int .i64 o.v.coin,.slice o.v.pa o.v.l.length o.v.c,.int .i64 o.kind] ++ B8 o.dh ++ #[.slice o.tp o.ns.length o.tc]):=by
  unfold otC adC
  simp only [Array.append_assoc]
 rw [e,Array.getElem?_append_left hlt]
 exact hj
theorem putterOutput_any (w:World) {B g:Nat} {v:Value} {st:Option (List UInt8)} (o:Ot) (hT:Stays g w v fun W=>OtOk W o) (hk:o.kind=2→∀ x ∈ o.ns,1≤x.kind∧x.kind≤6) (hi:∀ x ∈ o.ns,NdIn x) (h:WrO W.WSt w B g v st) (hx:sz st+123 * cntO o≤700000) :
  Calls Tryz.prog 139 #[.agg #[.pointer (some ⟨g,0,none⟩)],.agg (otC o)] w (PutR W.WSt w B g v (outS st o)):=by
 have hah:=hT.now.ah
 have hdh:=hT.now.dh
 have hpol:∀ a ∈ o.v.l,a.nm.1.length=32:=fun a ha=>(hT.now.v.2.2.2.1 a ha).1
 obtain ⟨ov,hov⟩:∃ x,x=otC o:=⟨_,rfl⟩
 rw [← hov]
 have hB:=bx_of h ov 35
 obtain ⟨s1,hs1⟩:∃ s,s=W.stepB (W.stepB st [if o.prog then 1 else 0]) o.ah:=⟨_,rfl⟩
 have hz1:sz s1≤sz st+33:=by
  have k1:=sz_B st [if o.prog then 1 else 0]
  have k2:=sz_B (W.stepB st [if o.prog then 1 else 0]) o.ah
  rw [List.length_singleton] at k1
  rw [hs1]
  omega
 have hO:outS st o=if o.kind=1 then W.stepB (W.stepN (valS s1 o.v) (W.low64 o.kind) 1) o.dh else if o.kind=2 then termS (W.stepN (valS s1 o.v) (W.low64 o.kind) 1) o.ns else W.stepN (valS s1 o.v) (W.low64 o.kind) 1:=by rw [hs1];rfl
 have hz2:=sz_val o.v s1 hpol
 have hz3:=sz_N (valS s1 o.v) (W.low64 o.kind) 1
 have hc1:1≤cntV o.v:=by unfold cntV;omega
 have hcO:cntO o=cntV o.v+T.cost o.ns:=rfl
 have HA:Hid (∀ W0,WrO W.WSt W0 B g v st→Calls Tryz.prog 211 #[.agg #[.pointer (some ⟨g,0,none⟩)],.agg (adC o.prog o.ah)] W0 (PutR W.WSt W0 B g v s1)):=Hj fun W0 hw=>by rw [hs1];exact putterAddress_any W0 o.prog o.ah hah hw (by omega)
 have HI:=Hj (Aj (show (Tryz.prog.info? 32).map (·.size)=some (adC o.prog o.ah).toList.length by rw [Array.length_toList];unfold adC;rw [Array.size_append,B8_size,hah];exact info_address) (show (Tryz.prog.info? 30).map (·.size)=some (B8 o.dh).toList.length by rw [Array.length_toList,B8_size,hdh];exact info_hashP))
 have H:=Hj (Aj hov (Aj hT (Aj hk (Aj hi (Aj h (Aj (show sz s1+57 * cntV o.v≤699990∧sz (W.stepN (valS s1 o.v) (W.low64 o.kind) 1)+26 * T.cost o.ns≤700000 by omega) hO))))))
 have HLL:=Hj (Aj hah hdh)
 obtain ⟨s9,hs9⟩:∃ s,s=outS st o:=⟨_,rfl⟩
 rw [← hs9] at H ⊢
 clear hov hT hk hi h hx hah hdh hpol hs1 hz1 hz2 hz3 hc1 hcO hO hs9
 obtain ⟨W0,HW⟩:∃ W0,(w.alloc (.cells #[.pointer (some ⟨g,0,none⟩)] 170)).alloc (.cells ov 35)=W0:=⟨_,rfl⟩
 go_enter Tryz.func139,Tryz.ntmps139
 go_upto_region 1 with fail
 rw [HW] at hB
 clear HW
 obtain ⟨p,hp⟩:∃ p,p=w.heap.size:=⟨_,rfl⟩
 obtain ⟨q,hq⟩:∃ q,q=w.heap.size+1:=⟨_,rfl⟩
 rw [← hq,← hp] at hB ⊢
 clear hp hq
 have c0:=hB.lp.cell 0 (v:=.pointer (some ⟨g,0,none⟩)) rfl
 have HR:=Hj (ot_ad (show Lies W0 q (otC o) _ by rw [← H.out.1];exact hB.lq))
 have HC:=Hj (HA.out W0 (H.out.2.2.2.2.1.belowW hB.b))
 have HB:=Hj hB
 clear hB HA
 go_wp2_with (first
  | (at_builtin;fail)
  | (refine wpList_load_mid rfl 32 _ rfl q 0 rfl (adC o.prog o.ah).toList _ HR.out Tryz.underlying32 rfl HI.out.1 ?_))
 refine HC.out.mono ?_
 rintro e W1 ⟨rfl,u1,hw1,hk1⟩
 obtain ⟨l1,l2⟩:=HB.out.on hk1
 have hl1:=(Lk.of_below HB.out.b (v:=v) (g:=g)).trans hk1
 have hat:=lies_at (show Lies W1 q (otC o) _ by rw [← H.out.1];exact l2) HLL.out.1 HLL.out.2
 have c0:=l1.cell 0 (v:=.pointer (some ⟨g,0,none⟩)) rfl
 have c33:=hat.coin
 have c34:=hat.assets
 simp only [Nat.zero_add] at c33 c34
 have HC1:=Hj (putterValue_any W1 o.v ((H.out.2.1.on hl1).imp fun W hW=>hW.v.2.2) hw1 (by have:=H.out.2.2.2.2.2.1;omega))
 unfold vaC vC at HC1
 have HL:=Hj (Aj hk1 hl1)
 clear hw1 hk1 l1 l2 hl1 HC hat HR
 go_wp2_with fail
 refine HC1.out.mono ?_
 rintro e W2 ⟨rfl,u2,hw2,hk2⟩
 have hl2:=HL.out.1.trans hk2
 obtain ⟨l1,l2⟩:=HB.out.on hl2
 have hat:=lies_at (show Lies W2 q (otC o) _ by rw [← H.out.1];exact l2) HLL.out.1 HLL.out.2
 have c0:=l1.cell 0 (v:=.pointer (some ⟨g,0,none⟩)) rfl
 have c35:=hat.kind
 simp only [Nat.zero_add] at c35
 have hz2:=sz_val o.v s1 (fun a ha=>(H.out.2.1.now.v.2.2.2.1 a ha).1)
 have HC2:=Hj (wU8 W2 o.kind hw2 (by have:=H.out.2.2.2.2.2.1;omega))
 have HL2:=Hj (Aj hl2 (HL.out.2.trans hk2))
 clear hw2 hk2 l1 l2 hl2 HC1 hat c33 c34 hz2
 go_wp2_with fail
 refine HC2.out.mono ?_
 rintro e W3 ⟨rfl,u3,hw3,hk3⟩
 have hl3:=HL2.out.1.trans hk3
 have hf3:=HL2.out.2.trans hk3
 obtain ⟨l1,l2⟩:=HB.out.on hl3
 have hat:=lies_at (show Lies W3 q (otC o) _ by rw [← H.out.1];exact l2) HLL.out.1 HLL.out.2
 have c0:=l1.cell 0 (v:=.pointer (some ⟨g,0,none⟩)) rfl
 have c35:=hat.kind
 have c68:=hat.term
 have HD:=Hj hat.dh
 simp only [Nat.zero_add] at c35 c68
 have HW3:=Hj (Aj hw3 hf3)
 obtain ⟨kd,hkd⟩:∃ k,k=o.kind:=⟨_,rfl⟩
 rw [← hkd] at c35
 have HKD:=Hj hkd
 clear hw3 hk3 l1 l2 hl3 hf3 HC2 hat hkd
 by_cases k1:kd=1
 ·
  have HC3:=Hj (wHash W3 o.dh HLL.out.2 HW3.out.1 (by have:=H.out.2.2.2.2.2.1;omega))
  have HS:=Hj (show s9=W.stepB (W.stepN (valS s1 o.v) (W.low64 o.kind) 1) o.dh by have:=H.out.2.2.2.2.2.2;rw [this,if_pos (by rw [← HKD.out];exact k1)])
  go_wp2_with (first
   | (at_builtin;fail)
   | (refine wpList_load_mid rfl 30 _ rfl q 36 rfl (B8 o.dh).toList _ HD.out Tryz.underlying30 rfl HI.out.2 ?_))
  refine HC3.out.mono ?_
  rintro e W4 hr
  obtain ⟨rfl,hr⟩:=hr
  have HE:=Hj hr
  clear hr c0 c35 c68 HC3
  go_wp2_with fail
  go_end0
  rw [HS.out]
  exact PutR.on HW3.out.2 ⟨rfl,HE.out⟩
 ·
  by_cases k2:kd=2
  ·
   have HC3:=Hj (putterTerm_any W3 o.tp o.tc o.ns ((H.out.2.1.on HW3.out.2).imp fun W hW=>hW.t) (H.out.2.2.1 (by rw [← HKD.out];exact k2)) H.out.2.2.2.1 HW3.out.1 H.out.2.2.2.2.2.1.2)
   have HS:=Hj (show s9=termS (W.stepN (valS s1 o.v) (W.low64 o.kind) 1) o.ns by have:=H.out.2.2.2.2.2.2;rw [this,if_neg (by rw [← HKD.out];exact k1),if_pos (by rw [← HKD.out];exact k2)])
   go_wp2_with fail
   refine HC3.out.mono ?_
   rintro e W4 hr
   obtain ⟨rfl,hr⟩:=hr
   have HE:=Hj hr
   clear hr c0 c35 c68 HC3
   go_wp2_with fail
   go_end0
   rw [HS.out]
   exact PutR.on HW3.out.2 ⟨rfl,HE.out⟩
  ·
   have HS:=Hj (show s9=W.stepN (valS s1 o.v) (W.low64 o.kind) 1 by have:=H.out.2.2.2.2.2.2;rw [this,if_neg (by rw [← HKD.out];exact k1),if_neg (by rw [← HKD.out];exact k2)])
   go_wp2_with fail
   go_end0
   rw [HS.out]
   exact PutR.end_ HW3.out.1 HW3.out.2
end Go.Proofs.YtilbbemdinpjcaaGreat.P
namespace Go.Proofs.YtilbbemdinpjcaaGreat.P
set_option maxRecDepth 100000
open Go.RowKit Go.Sort
end Go.Proofs.YtilbbemdinpjcaaGreat.P
namespace Go.Proofs.YtilbbemdinpjcaaGreat.P
set_option maxRecDepth 100000
open Go.RowKit
theorem have_kinds {o:Ot} (h:haveB o=true) (h2:o.kind=2):∀ x ∈ o.ns,1≤x.kind∧x.kind≤6:=by
 unfold haveB at h
 rw [if_neg (by omega),if_neg (by omega),if_pos h2,Bool.and_eq_true] at h
 exact right_kinds h.2
theorem outs_kinds {o:Ot} (h:rightOB o=true) (h2:o.kind=2):∀ x ∈ o.ns,1≤x.kind∧x.kind≤6:=by
 unfold rightOB at h
 rw [Bool.and_eq_true] at h
 exact have_kinds h.2 h2
theorem putOutputG_any (w:World) {B g:Nat} {v:Value} {st:Option (List UInt8)} (o:Ot) (hT:Stays g w v fun W=>OtOk W o) (hi:∀ x ∈ o.ns,NdIn x) (h:WrO W.WSt w B g v st) (hx:sz st+123 * cntO o≤700000) :
 Calls Tryz.prog 138 #[.pointer (some ⟨g,0,none⟩),.agg (otC o),.func (Fn.func 13) #[] #[],.func (Fn.func 139) #[] #[]] w (PutR W.WSt w B g v (if rightOB o then outS st o else none)):=by
 have hf:=hT.now
 obtain ⟨r,hrb⟩:∃ r,r=rightOB o:=⟨_,rfl⟩
 obtain ⟨s2,hs2⟩:∃ s,s=outS st o:=⟨_,rfl⟩
 obtain ⟨s3,hs3⟩:∃ s,s=(if r then s2 else none):=⟨_,rfl⟩
 obtain ⟨ov,hov⟩:∃ y,y=otC o:=⟨_,rfl⟩
 have hf1:=T.callK 13 Tryz.f13 Tryz.func13 (by kernel_rfl) (by kernel_rfl)
 have hf2:=T.callK 139 Tryz.f139 Tryz.func139 (by kernel_rfl) (by kernel_rfl)
 have HR:Hid (∀ V,Below w.heap.size w V→Calls Tryz.prog 13 #[.agg ov] V fun e w'=>e=.returned (.bool r)∧Below V.heap.size V w'):=Hj fun V hb=>by
  have hf:=(hT.on (Lk.of_below hb)).now
  rw [hrb,hov];exact rightOutput_any V o hf
 have HC:Hid (r=true→∀ V,Below w.heap.size w V→Calls Tryz.prog 139 #[.agg #[.pointer (some ⟨g,0,none⟩)],.agg ov] V (PutR W.WSt V B g v s2)):=Hj fun hr V hb=>by
  have hS:=hT.on (Lk.of_below hb)
  have hw:=h.belowW hb
  rw [hrb] at hr
  rw [hs2,hov];exact putterOutput_any V o hS (outs_kinds hr) hi hw hx
 have hi1:(Tryz.prog.info? 35).map (·.size)=some ov.size:=by rw [hov,otC_size o hf.ah hf.dh];exact info_output
 have hL:=Lies.new w ov 35
 have hb:Below w.heap.size w (w.alloc (.cells ov 35)):=(Below.refl _ _).alloc (Nat.le_refl _) _
 have HI:=Hj hi1
 rw [← hrb,← hs2,← hs3,← hov]
 have H:=Hj (Aj h hs3)
 clear hT h hx hf hrb hs2 hs3 hov hi1 hi
 obtain ⟨W0,HW⟩:∃ W0,w.alloc (.cells ov 35)=W0:=⟨_,rfl⟩
 go_enter Tryz.func138,Tryz.ntmps138
 go_upto_region 1 with fail
 rw [HW] at hL hb
 clear HW
 obtain ⟨q,hq⟩:∃ q,q=w.heap.size:=⟨_,rfl⟩
 rw [← hq] at hL ⊢
 clear hq
 have HB:=Hj (Aj hb hL)
 clear hb hL
 go_wp2_with (first
  | (at_builtin;fail)
  | (refine wpList_load_row rfl 35 _ rfl q rfl 35 ov (0,0) _ (HB.out.2) Tryz.underlying35 rfl HI.out ?_))
 refine (HR.out _ HB.out.1).mono ?_
 rintro e W1 ⟨rfl,hb1⟩
 have hbw:=HB.out.1.trans (hb1.mono HB.out.1.size)
 have HL1:=Hj (HB.out.2.below hb1 HB.out.2.lt)
 have HW1:=Hj hbw
 clear hb1 hbw HR
 cases r with
 | true =>
   have HCC:=Hj (HC.out rfl W1 HW1.out)
   clear HC
   go_wp2_with (first
    | (at_builtin;fail)
    | (refine wpList_load_row rfl 35 _ rfl q rfl 35 ov (0,0) _ (HL1.out) Tryz.underlying35 rfl HI.out ?_))
   refine HCC.out.mono ?_
   rintro e W2 hr2
   obtain ⟨rfl,hr2⟩:=hr2
   have HE:=Hj hr2
   clear hr2 HCC
   go_wp2_with fail
   first
    | go_end0
    | refine bodyPost_ret (results_none rfl _ _ _) rfl ?_
   rw [H.out.2]
   exact PutR.after HW1.out ⟨rfl,HE.out⟩
 | false =>
   have HCC:=Hj (wSpoil W1 (H.out.1.belowW HW1.out))
   clear HC
   go_wp2_with fail
   refine HCC.out.mono ?_
   rintro e W2 hr2
   obtain ⟨rfl,hr2⟩:=hr2
   have HE:=Hj hr2
   clear hr2 HCC
   go_wp2_with fail
   first
    | go_end0
    | refine bodyPost_ret (results_none rfl _ _ _) rfl ?_
   rw [H.out.2]
   exact PutR.after HW1.out ⟨rfl,HE.out⟩
theorem putOutput_any (w:World) {B g:Nat} {v:Value} {st:Option (List UInt8)} (o:Ot) (hT:Stays g w v fun W=>OtOk W o) (hi:∀ x ∈ o.ns,NdIn x) (h:WrO W.WSt w B g v st) (hx:sz st+123 * cntO o≤700000) :
  Calls Tryz.prog 74 #[.pointer (some ⟨g,0,none⟩),.agg (otC o)] w (PutR W.WSt w B g v (if rightOB o then outS st o else none)):=by
 have hf:=hT.now
 obtain ⟨s3,hs3⟩:∃ s,s=(if rightOB o then outS st o else none):=⟨_,rfl⟩
 obtain ⟨ov,hov⟩:∃ y,y=otC o:=⟨_,rfl⟩
 have HC:Hid (∀ V,Below w.heap.size w V→Calls Tryz.prog 138 #[.pointer (some ⟨g,0,none⟩),.agg ov,.func (Fn.func 13) #[] #[],.func (Fn.func 139) #[] #[]] V (PutR W.WSt V B g v s3)):=Hj fun V hb=>by
  rw [hs3,hov];exact putOutputG_any V o (hT.on (Lk.of_below hb)) hi (h.belowW hb) hx
 have hi1:(Tryz.prog.info? 35).map (·.size)=some ov.size:=by rw [hov,otC_size o hf.ah hf.dh];exact info_output
 have hL:=Lies.new w ov 35
 have hb:Below w.heap.size w (w.alloc (.cells ov 35)):=(Below.refl _ _).alloc (Nat.le_refl _) _
 have HI:=Hj hi1
 rw [← hs3,← hov]
 clear hT h hx hf hs3 hov hi1 hi
 obtain ⟨W0,HW⟩:∃ W0,w.alloc (.cells ov 35)=W0:=⟨_,rfl⟩
 go_enter Tryz.func74,Tryz.ntmps74
 go_upto_region 1 with fail
 rw [HW] at hL hb
 clear HW
 obtain ⟨q,hq⟩:∃ q,q=w.heap.size:=⟨_,rfl⟩
 rw [← hq] at hL ⊢
 clear hq
 have HB:=Hj (Aj hb hL)
 clear hb hL
 go_wp2_with (first
  | (at_builtin;fail)
  | (refine wpList_load_row rfl 35 _ rfl q rfl 35 ov (0,0) _ (HB.out.2) Tryz.underlying35 rfl HI.out ?_))
 refine (HC.out _ HB.out.1).mono ?_
 rintro e W2 hr2
 obtain ⟨rfl,hr2⟩:=hr2
 have HE:=Hj hr2
 clear hr2 HC
 go_wp2_with fail
 go_end0
 exact PutR.after HB.out.1 ⟨rfl,HE.out⟩
theorem putValueG_any (w:World) {B g:Nat} {v:Value} {st:Option (List UInt8)} (x:Va) (hT:Stays g w v fun W=>Row W x.pa x.l) (h:WrO W.WSt w B g v st) (hx:sz st+57 * cntV x≤700000) :
 Calls Tryz.prog 183 #[.pointer (some ⟨g,0,none⟩),.agg (vaC x),.func (Fn.func 63) #[] #[],.func (Fn.func 184) #[] #[]] w (PutR W.WSt w B g v (if rightV x then valS st x else none)):=by
 have hf:=hT.now
 obtain ⟨r,hrb⟩:∃ r,r=rightV x:=⟨_,rfl⟩
 obtain ⟨s2,hs2⟩:∃ s,s=valS st x:=⟨_,rfl⟩
 obtain ⟨s3,hs3⟩:∃ s,s=(if r then s2 else none):=⟨_,rfl⟩
 obtain ⟨ov,hov⟩:∃ y,y=vaC x:=⟨_,rfl⟩
 have hf1:=T.callK 63 Tryz.f63 Tryz.func63 (by kernel_rfl) (by kernel_rfl)
 have hf2:=T.callK 184 Tryz.f184 Tryz.func184 (by kernel_rfl) (by kernel_rfl)
 have HR:Hid (∀ V,Below w.heap.size w V→Calls Tryz.prog 63 #[.agg ov] V fun e w'=>e=.returned (.bool r)∧Below V.heap.size V w'):=Hj fun V hb=>by
  have hf:=(hT.on (Lk.of_below hb)).now
  rw [hrb,hov];exact right_any V x.coin x.pa x.l x.c hf
 have HC:Hid (r=true→∀ V,Below w.heap.size w V→Calls Tryz.prog 184 #[.agg #[.pointer (some ⟨g,0,none⟩)],.agg ov] V (PutR W.WSt V B g v s2)):=Hj fun hr V hb=>by
  have hS:=hT.on (Lk.of_below hb)
  have hw:=h.belowW hb
  rw [hrb] at hr
  rw [hs2,hov];exact putterValue_any V x hS hw hx
 have hi1:(Tryz.prog.info? 27).map (·.size)=some ov.size:=by rw [hov,vaC_size x];exact info_value
 have hL:=Lies.new w ov 27
 have hb:Below w.heap.size w (w.alloc (.cells ov 27)):=(Below.refl _ _).alloc (Nat.le_refl _) _
 have HI:=Hj hi1
 rw [← hrb,← hs2,← hs3,← hov]
 have H:=Hj (Aj h hs3)
 clear hT h hx hf hrb hs2 hs3 hov hi1
 obtain ⟨W0,HW⟩:∃ W0,w.alloc (.cells ov 27)=W0:=⟨_,rfl⟩
 go_enter Tryz.func183,Tryz.ntmps183
 go_upto_region 1 with fail
 rw [HW] at hL hb
 clear HW
 obtain ⟨q,hq⟩:∃ q,q=w.heap.size:=⟨_,rfl⟩
 rw [← hq] at hL ⊢
 clear hq
 have HB:=Hj (Aj hb hL)
 clear hb hL
 go_wp2_with (first
  | (at_builtin;fail)
  | (refine wpList_load_row rfl 27 _ rfl q rfl 27 ov (0,0) _ (HB.out.2) Tryz.underlying27 rfl HI.out ?_))
 refine (HR.out _ HB.out.1).mono ?_
 rintro e W1 ⟨rfl,hb1⟩
 have hbw:=HB.out.1.trans (hb1.mono HB.out.1.size)
 have HL1:=Hj (HB.out.2.below hb1 HB.out.2.lt)
 have HW1:=Hj hbw
 clear hb1 hbw HR
 cases r with
 | true =>
   have HCC:=Hj (HC.out rfl W1 HW1.out)
   clear HC
   go_wp2_with (first
    | (at_builtin;fail)
    | (refine wpList_load_row rfl 27 _ rfl q rfl 27 ov (0,0) _ (HL1.out) Tryz.underlying27 rfl HI.out ?_))
   refine HCC.out.mono ?_
   rintro e W2 hr2
   obtain ⟨rfl,hr2⟩:=hr2
   have HE:=Hj hr2
   clear hr2 HCC
   go_wp2_with fail
   first
    | go_end0
    | refine bodyPost_ret (results_none rfl _ _ _) rfl ?_
   rw [H.out.2]
   exact PutR.after HW1.out ⟨rfl,HE.out⟩
 | false =>
   have HCC:=Hj (wSpoil W1 (H.out.1.belowW HW1.out))
   clear HC
   go_wp2_with fail
   refine HCC.out.mono ?_
   rintro e W2 hr2
   obtain ⟨rfl,hr2⟩:=hr2
   have HE:=Hj hr2
   clear hr2 HCC
   go_wp2_with fail
   first
    | go_end0
    | refine bodyPost_ret (results_none rfl _ _ _) rfl ?_
   rw [H.out.2]
   exact PutR.after HW1.out ⟨rfl,HE.out⟩
theorem putValue_any (w:World) {B g:Nat} {v:Value} {st:Option (List UInt8)} (x:Va) (hT:Stays g w v fun W=>Row W x.pa x.l) (h:WrO W.WSt w B g v st) (hx:sz st+57 * cntV x≤700000) :
  Calls Tryz.prog 112 #[.pointer (some ⟨g,0,none⟩),.agg (vaC x)] w (PutR W.WSt w B g v (if rightV x then valS st x else none)):=by
 have hf:=hT.now
 obtain ⟨s3,hs3⟩:∃ s,s=(if rightV x then valS st x else none):=⟨_,rfl⟩
 obtain ⟨ov,hov⟩:∃ y,y=vaC x:=⟨_,rfl⟩
 have HC:Hid (∀ V,Below w.heap.size w V→Calls Tryz.prog 183 #[.pointer (some ⟨g,0,none⟩),.agg ov,.func (Fn.func 63) #[] #[],.func (Fn.func 184) #[] #[]] V (PutR W.WSt V B g v s3)):=Hj fun V hb=>by
  rw [hs3,hov];exact putValueG_any V x (hT.on (Lk.of_below hb))  (h.belowW hb) hx
 have hi1:(Tryz.prog.info? 27).map (·.size)=some ov.size:=by rw [hov,vaC_size x];exact info_value
 have hL:=Lies.new w ov 27
 have hb:Below w.heap.size w (w.alloc (.cells ov 27)):=(Below.refl _ _).alloc (Nat.le_refl _) _
 have HI:=Hj hi1
 rw [← hs3,← hov]
 clear hT h hx hf hs3 hov hi1
 obtain ⟨W0,HW⟩:∃ W0,w.alloc (.cells ov 27)=W0:=⟨_,rfl⟩
 go_enter Tryz.func112,Tryz.ntmps112
 go_upto_region 1 with fail
 rw [HW] at hL hb
 clear HW
 obtain ⟨q,hq⟩:∃ q,q=w.heap.size:=⟨_,rfl⟩
 rw [← hq] at hL ⊢
 clear hq
 have HB:=Hj (Aj hb hL)
 clear hb hL
 go_wp2_with (first
  | (at_builtin;fail)
  | (refine wpList_load_row rfl 27 _ rfl q rfl 27 ov (0,0) _ (HB.out.2) Tryz.underlying27 rfl HI.out ?_))
 refine (HC.out _ HB.out.1).mono ?_
 rintro e W2 hr2
 obtain ⟨rfl,hr2⟩:=hr2
 have HE:=Hj hr2
 clear hr2 HC
 go_wp2_with fail
 go_end0
 exact PutR.after HB.out.1 ⟨rfl,HE.out⟩
theorem putRefG_any (w:World) {B g:Nat} {v:Value} {st:Option (List UInt8)} (y0:Rf) (hl:y0.tx.length=32) (hT:Stays g w v fun _=>True) (h:WrO W.WSt w B g v st) (hx:sz st≤700000) :
 Calls Tryz.prog 187 #[.pointer (some ⟨g,0,none⟩),.agg (refC y0),.func (Fn.func 68) #[] #[],.func (Fn.func 188) #[] #[]] w (PutR W.WSt w B g v (if rightRefB y0 then refS st y0 else none)):=by
 have hf:=hT.now
 obtain ⟨r,hrb⟩:∃ r,r=rightRefB y0:=⟨_,rfl⟩
 obtain ⟨s2,hs2⟩:∃ s,s=refS st y0:=⟨_,rfl⟩
 obtain ⟨s3,hs3⟩:∃ s,s=(if r then s2 else none):=⟨_,rfl⟩
 obtain ⟨ov,hov⟩:∃ y,y=refC y0:=⟨_,rfl⟩
 have hf1:=T.callK 68 Tryz.f68 Tryz.func68 (by kernel_rfl) (by kernel_rfl)
 have hf2:=T.callK 188 Tryz.f188 Tryz.func188 (by kernel_rfl) (by kernel_rfl)
 have HR:Hid (∀ V,Below w.heap.size w V→Calls Tryz.prog 68 #[.agg ov] V fun e w'=>e=.returned (.bool r)∧Below V.heap.size V w'):=Hj fun V hb=>by
  have hf:=(hT.on (Lk.of_below hb)).now
  rw [hrb,hov];exact rightRef_any V y0 hl
 have HC:Hid (r=true→∀ V,Below w.heap.size w V→Calls Tryz.prog 188 #[.agg #[.pointer (some ⟨g,0,none⟩)],.agg ov] V (PutR W.WSt V B g v s2)):=Hj fun hr V hb=>by
  have hS:=hT.on (Lk.of_below hb)
  have hw:=h.belowW hb
  rw [hrb] at hr
  rw [hs2,hov];exact putterRef_any V y0 hl hw hx
 have hi1:(Tryz.prog.info? 37).map (·.size)=some ov.size:=by rw [hov,refC_size y0 hl];exact info_ref
 have hL:=Lies.new w ov 37
 have hb:Below w.heap.size w (w.alloc (.cells ov 37)):=(Below.refl _ _).alloc (Nat.le_refl _) _
 have HI:=Hj hi1
 rw [← hrb,← hs2,← hs3,← hov]
 have H:=Hj (Aj h hs3)
 clear hT h hx hf hrb hs2 hs3 hov hi1
 obtain ⟨W0,HW⟩:∃ W0,w.alloc (.cells ov 37)=W0:=⟨_,rfl⟩
 go_enter Tryz.func187,Tryz.ntmps187
 go_upto_region 1 with fail
 rw [HW] at hL hb
 clear HW
 obtain ⟨q,hq⟩:∃ q,q=w.heap.size:=⟨_,rfl⟩
 rw [← hq] at hL ⊢
 clear hq
 have HB:=Hj (Aj hb hL)
 clear hb hL
 go_wp2_with (first
  | (at_builtin;fail)
  | (refine wpList_load_row rfl 37 _ rfl q rfl 37 ov (0,0) _ (HB.out.2) Tryz.underlying37 rfl HI.out ?_))
 refine (HR.out _ HB.out.1).mono ?_
 rintro e W1 ⟨rfl,hb1⟩
 have hbw:=HB.out.1.trans (hb1.mono HB.out.1.size)
 have HL1:=Hj (HB.out.2.below hb1 HB.out.2.lt)
 have HW1:=Hj hbw
 clear hb1 hbw HR
 cases r with
 | true =>
   have HCC:=Hj (HC.out rfl W1 HW1.out)
   clear HC
   go_wp2_with (first
    | (at_builtin;fail)
    | (refine wpList_load_row rfl 37 _ rfl q rfl 37 ov (0,0) _ (HL1.out) Tryz.underlying37 rfl HI.out ?_))
   refine HCC.out.mono ?_
   rintro e W2 hr2
   obtain ⟨rfl,hr2⟩:=hr2
   have HE:=Hj hr2
   clear hr2 HCC
   go_wp2_with fail
   first
    | go_end0
    | refine bodyPost_ret (results_none rfl _ _ _) rfl ?_
   rw [H.out.2]
   exact PutR.after HW1.out ⟨rfl,HE.out⟩
 | false =>
   have HCC:=Hj (wSpoil W1 (H.out.1.belowW HW1.out))
   clear HC
   go_wp2_with fail
   refine HCC.out.mono ?_
   rintro e W2 hr2
   obtain ⟨rfl,hr2⟩:=hr2
   have HE:=Hj hr2
   clear hr2 HCC
   go_wp2_with fail
   first
    | go_end0
    | refine bodyPost_ret (results_none rfl _ _ _) rfl ?_
   rw [H.out.2]
   exact PutR.after HW1.out ⟨rfl,HE.out⟩
theorem putRef_any (w:World) {B g:Nat} {v:Value} {st:Option (List UInt8)} (y0:Rf) (hl:y0.tx.length=32) (hT:Stays g w v fun _=>True) (h:WrO W.WSt w B g v st) (hx:sz st≤700000) :
  Calls Tryz.prog 114 #[.pointer (some ⟨g,0,none⟩),.agg (refC y0)] w (PutR W.WSt w B g v (if rightRefB y0 then refS st y0 else none)):=by
 have hf:=hT.now
 obtain ⟨s3,hs3⟩:∃ s,s=(if rightRefB y0 then refS st y0 else none):=⟨_,rfl⟩
 obtain ⟨ov,hov⟩:∃ y,y=refC y0:=⟨_,rfl⟩
 have HC:Hid (∀ V,Below w.heap.size w V→Calls Tryz.prog 187 #[.pointer (some ⟨g,0,none⟩),.agg ov,.func (Fn.func 68) #[] #[],.func (Fn.func 188) #[] #[]] V (PutR W.WSt V B g v s3)):=Hj fun V hb=>by
  rw [hs3,hov];exact putRefG_any V y0 hl (hT.on (Lk.of_below hb))  (h.belowW hb) hx
 have hi1:(Tryz.prog.info? 37).map (·.size)=some ov.size:=by rw [hov,refC_size y0 hl];exact info_ref
 have hL:=Lies.new w ov 37
 have hb:Below w.heap.size w (w.alloc (.cells ov 37)):=(Below.refl _ _).alloc (Nat.le_refl _) _
 have HI:=Hj hi1
 rw [← hs3,← hov]
 clear hT h hx hf hs3 hov hi1
 obtain ⟨W0,HW⟩:∃ W0,w.alloc (.cells ov 37)=W0:=⟨_,rfl⟩
 go_enter Tryz.func114,Tryz.ntmps114
 go_upto_region 1 with fail
 rw [HW] at hL hb
 clear HW
 obtain ⟨q,hq⟩:∃ q,q=w.heap.size:=⟨_,rfl⟩
 rw [← hq] at hL ⊢
 clear hq
 have HB:=Hj (Aj hb hL)
 clear hb hL
 go_wp2_with (first
  | (at_builtin;fail)
  | (refine wpList_load_row rfl 37 _ rfl q rfl 37 ov (0,0) _ (HB.out.2) Tryz.underlying37 rfl HI.out ?_))
 refine (HC.out _ HB.out.1).mono ?_
 rintro e W2 hr2
 obtain ⟨rfl,hr2⟩:=hr2
 have HE:=Hj hr2
 clear hr2 HC
 go_wp2_with fail
 go_end0
 exact PutR.after HB.out.1 ⟨rfl,HE.out⟩
end Go.Proofs.YtilbbemdinpjcaaGreat.P
namespace Go.Proofs.YtilbbemdinpjcaaGreat.P
set_option maxRecDepth 100000
open Go.RowKit
def bs:Option (List UInt8)→List UInt8
 | none=>[]
 | some l=>l
theorem newW_any (w:World):Calls Tryz.prog 36 #[] w fun e w'=>e=.returned (.pointer (some ⟨w.heap.size,0,none⟩))∧(∃ v,WrO W.WSt w' w.heap.size w.heap.size v (some []))∧Below w.heap.size w w' :=
 (W.newwriter_any w).mono fun e w' ⟨h1,h2,h3⟩=>by
   obtain ⟨v,hv⟩:=h2.wrv
   exact ⟨h1,⟨v,⟨hv,W.own_block hv.2.1,hv.2.2.1,hv.1.lt,Nat.le_refl _⟩⟩,h3⟩
theorem bytesW_any (w:World) {B g:Nat} {v:Value} {st:Option (List UInt8)} (h:WrO W.WSt w B g v st) (hx:sz st≤2000000) :
 Calls Tryz.prog 38 #[.pointer (some ⟨g,0,none⟩)] w fun e w'=>∃ u er,e=.returned (.tuple #[u,.int .i64 er])∧er=(if st.isNone then 2 else 0)∧w'.ownsRow w.heap.size 5 1 u (bs st).length (B8 (bs st)).toList∧Below w.heap.size w w':=by
 cases st with
 | none =>
   refine (W.wbytes_spoilt w B g v h.s).mono ?_
   rintro e w' ⟨rfl,rfl⟩
   exact ⟨_,_,rfl,rfl,World.ownsRow_nil _ _ _ _,Below.refl _ _⟩
 | some l=>exact (W.wbytes_good w B g v l h.s hx).mono fun e w' ⟨u,h1,h2⟩=>⟨u,_,h1,rfl,h2⟩
theorem stays_low {S:World→Nat→Nat→Value→Option (List UInt8)→Prop} {w0 w:World} {B g:Nat} {v:Value} {st:Option (List UInt8)} {P:World→Prop} (h:WrO S w B g v st) (hb:Below B w0 w) (hP:∀ V,Below B w0 V→P V):Stays g w v P :=
 fun V _ hl=>hP V (hb.trans (hl.low h.le (fun x e=>(h.own x e).1) (by have:=h.le;have:=h.lt;omega)))
theorem own_len {w:World} {base n:Nat} {u:Value} {xs:List Value} (h:w.ownsRow base 5 1 u n xs):∃ a c,u=.slice a n c:=by
 rcases h.2 with ⟨rfl,rfl⟩ | ⟨k,cap,cur,rfl,_⟩
 ·
  exact ⟨_,_,rfl⟩
 ·
  exact ⟨_,_,rfl⟩
theorem long_any (w:World) (o:Ot) (hT:OtOk w o) (hi:∀ x ∈ o.ns,NdIn x) (hx:123 * cntO o≤600000) :
  Calls Tryz.prog 19 #[.agg (otC o)] w fun e w'=>e=.returned (.int .i64 (sz (if rightOB o then outS (some []) o else none)))∧Below w.heap.size w w':=by
 obtain ⟨ov,hov⟩:∃ y,y=otC o:=⟨_,rfl⟩
 obtain ⟨s1,hs1⟩:∃ s,s=(if rightOB o then outS (some []) o else none):=⟨_,rfl⟩
 have hz1:sz s1≤600000:=by
  have h1:=sz_out (some []) o hT.ah hT.dh (fun a ha=>(hT.v.2.2.2.1 a ha).1)
  rw [hs1]
  split
  ·
   simp only [sz,List.length_nil] at h1 ⊢;omega
  ·
   exact Nat.zero_le _
 have hi1:(Tryz.prog.info? 35).map (·.size)=some ov.size:=by rw [hov,otC_size o hT.ah hT.dh];exact info_output
 have hL:=Lies.new w ov 35
 have hb:Below w.heap.size w (w.alloc (.cells ov 35)):=(Below.refl _ _).alloc (Nat.le_refl _) _
 have HI:=Hj hi1
 rw [← hov,← hs1]
 have H:=Hj (Aj hT (Aj hi (Aj hx (Aj hz1 (Aj hs1 hov)))))
 clear hT hi hx hz1 hs1 hov hi1
 obtain ⟨W0,HW⟩:∃ W0,w.alloc (.cells ov 35)=W0:=⟨_,rfl⟩
 go_enter Tryz.func19,Tryz.ntmps19
 go_upto_region 1 with fail
 rw [HW] at hL hb
 clear HW
 obtain ⟨q,hq⟩:∃ q,q=w.heap.size:=⟨_,rfl⟩
 rw [← hq] at hL ⊢
 have HB:=Hj (Aj hb (Aj hL hq))
 clear hb hL hq
 go_wp2_with fail
 refine (newW_any W0).mono ?_
 rintro e W1 ⟨rfl,⟨v1,hw1⟩,hb1⟩
 have hL1:=HB.out.2.1.below hb1 HB.out.2.1.lt
 have hst:Stays W0.heap.size W1 v1 fun V=>OtOk V o:=stays_low hw1 hb1 (w0:=W0) fun V hV=>(H.out.1.below HB.out.1 (Nat.le_refl _)).below hV (Nat.le_refl _)
 have HC:=Hj (putOutput_any W1 o hst H.out.2.1 hw1 (by simp only [sz,List.length_nil];have:=H.out.2.2.1;omega))
 rw [← H.out.2.2.2.2.1,← H.out.2.2.2.2.2] at HC
 have H1:=Hj (Aj hL1 (Aj hb1 hw1))
 clear hw1 hb1 hL1 hst
 go_wp2_with (first
  | (at_builtin;fail)
  | (refine wpList_load_row rfl 35 _ rfl q rfl 35 ov (0,0) _ (H1.out.1) Tryz.underlying35 rfl HI.out ?_))
 refine HC.out.mono ?_
 rintro e W2 ⟨rfl,v2,hw2,hk2⟩
 have hb2:Below W0.heap.size W1 W2:=hk2.low (Nat.le_refl _) (fun x e=>(H1.out.2.2.own x e).1) H1.out.2.1.size
 have HC2:=Hj (bytesW_any W2 hw2 (by have:=H.out.2.2.2.1;omega))
 have H2:=Hj (HB.out.1.trans ((H1.out.2.1.trans hb2).mono HB.out.1.size))
 clear hw2 hk2 hb2 HC
 go_wp2_with fail
 refine HC2.out.mono ?_
 rintro e W3 ⟨u,er,rfl,her,hown,hb3⟩
 clear her
 obtain ⟨a,c,rfl⟩:=own_len hown
 have H3:=Hj (H2.out.trans (hb3.mono H2.out.size))
 clear hown hb3 HC2
 go_wp2_with fail
 go_ret
 refine ⟨?_,H3.out⟩
 cases s1 <;> rfl
end Go.Proofs.YtilbbemdinpjcaaGreat.P
