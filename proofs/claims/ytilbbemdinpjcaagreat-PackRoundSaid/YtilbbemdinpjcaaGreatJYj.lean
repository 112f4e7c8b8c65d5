/-
  pack: the kit's SameEntry, SameEntries, SameDiff tell true of one and the same thing, wherever it lies.
-/
import Derived.Test.YtilbbemdinpjcaaGreatJQe
import Derived.Test.YtilbbemdinpjcaaGreatJWWantSt
import Derived.Test.YtilbbemdinpjcaaGreatJYh
import Derived.Test.YtilbbemdinpjcaaGreatJVq
set_option maxHeartbeats 16000000
namespace Go.Proofs.YtilbbemdinpjcaaGreat.P
set_option maxRecDepth 100000
open Go.RowKit Go.Sort
theorem nat_lk {g:Nat} {w w':World} {v v':Value} {a:Option Addr} {q:Nat} {ns:List T.Nd} (ha:a=some ⟨q,0,none⟩) (h:T.TAt w a ns) (k:Lk g w v w' v') (h1:q≠g) (h2:v.ownBlock≠some q):T.TAt w' a ns :=
 ⟨fun h0=>by
  obtain ⟨gx,off,e,hn⟩:=h.1 h0
  have hq:gx=q:=by rw [ha] at e;exact (congrArg (fun x:Option Addr=>(x.map (·.block)).getD 0) e).symm
  subst hq
  exact ⟨gx,off,e,Nat.lt_of_lt_of_le hn.1 k.1.size,fun j hj i v hv=>(k.cell hn.1 h1 h2).trans (hn.2 j hj i v hv)⟩,h.2⟩
theorem str_ex {V:World} {b c:Nat} (h:W.Src V b 0 exB):(convert 54 9 (.slice (some ⟨b,0,none⟩) 17 c)).run Tryz.prog V=.ok (.string ⟨#[4,0,2,1,0,0,0,0,0,0,0,1,2,0,2,97,98]⟩) V:=W.str_of_src (c:=c) h
theorem src_below {V V':World} {b B:Nat} {l:List UInt8} (h:W.Src V b 0 l) (hb:Below B V V') (hl:b < B):W.Src V' b 0 l:=fun j hj=>(hb.cell (p:=⟨b,0+j,none⟩) hl).trans (h j hj)
theorem ex_same:T.sameN exN exN=true:=by decide +kernel
theorem awakeP_more (w:World):Calls Tryz.prog 10 #[] w fun e w'=>e=.returned (.bool true)∧Below w.heap.size w w'∧0 < w'.heap.size:=by
 go_enter Tryz.func10,Tryz.ntmps10
 go_wp2_with fail
 refine (newW_any w).mono ?_
 rintro e W1 ⟨rfl,⟨v1,hw1⟩,hb1⟩
 obtain ⟨g,hg⟩:∃ g,g=w.heap.size:=⟨_,rfl⟩
 have HG:=Hj hg
 have HB1:=Hj hb1
 rw [← hg] at hw1 ⊢
 have H1:=Hj hw1
 clear hw1 hb1 hg
 go_wp2_with fail
 refine (list_any W1).mono ?_
 rintro e W2 ⟨gx,rfl,htat,hgx,hgl,hb2⟩
 have hw2:=H1.out.belowW hb2
 have hxg:gx≠g:=by have:=H1.out.lt;omega
 have hxo:v1.ownBlock≠some gx:=fun e=>by have:=(H1.out.own gx e).2;omega
 have hst:Stays g W2 v1 fun V=>T.TAt V (some ⟨gx,0,none⟩) exN:=fun V _ hl=>nat_lk rfl htat hl hxg hxo
 have hpt:=putTerm_any W2 (some ⟨gx,0,none⟩) 3 exN hst (by decide) (by
  intro x hx
  simp only [exN,List.mem_cons,List.mem_nil_iff,or_false] at hx
  rcases hx with rfl | rfl | rfl
  all_goals exact ⟨⟨by decide,by decide⟩,⟨by decide,by decide⟩,by decide,by decide,⟨by decide,by decide⟩⟩) hw2 (by decide)
 rw [if_pos ex_right,ex_put] at hpt
 have HP:=Hj hpt
 have H2:=Hj (Aj hw2 (HB1.out.trans (hb2.mono HB1.out.size)))
 clear htat hgx hgl hb2 hw2 hst hpt hxg hxo
 go_wp2_with fail
 refine HP.out.mono ?_
 rintro e W3 ⟨rfl,v3,hw3,hk3⟩
 have hb3:Below g W2 W3:=hk3.low (Nat.le_refl _) (fun x e=>(H2.out.1.own x e).1) (by have:=H2.out.1.lt;omega)
 have H3:=Hj (Aj hw3 (H2.out.2.trans (show Below w.heap.size W2 W3 by rw [← HG.out];exact hb3)))
 clear hw3 hk3 hb3 HP
 go_wp2_with fail
 refine (bytesW_any W3 H3.out.1 (by decide)).mono ?_
 rintro e W4 ⟨u,er,rfl,her,hown,hb4⟩
 rw [show (if (some exB:Option (List UInt8)).isNone=true then (2:Int) else 0)=0 from rfl] at her
 subst her
 rw [show bs (some exB)=exB from rfl] at hown
 obtain ⟨kb,c,rfl⟩:∃ kb c,u=.slice (some ⟨kb,0,none⟩) 17 c:=by
  rcases hown.2 with ⟨-,h2⟩ | ⟨kb,cap,cur,rfl,_⟩
  ·
   cases h2
  ·
   exact ⟨kb,cap,rfl⟩
 have hsrc:=W.own_src hown
 have hkl:kb < W4.heap.size:=W.own_lt hown rfl
 have H4:=Hj (Aj hsrc (Aj hkl (H3.out.2.trans (hb4.mono H3.out.2.size))))
 clear hown hsrc hkl hb4
 go_wp2_with fail
 refine (W.newreader_some W4 kb 0 c exB H4.out.1 H4.out.2.1 (by decide) (by decide)).mono ?_
 rintro e W5 ⟨g5,k5,c5,rfl,hg5,hk5,hr5,hb5⟩
 have hs5:=src_below H4.out.1 hb5 H4.out.2.1
 have HC:=Hj (getTerm_any W5 g5 k5 exB c5 (some 0) ⟨Nat.zero_le _,hr5⟩)
 have H5:=Hj (Aj hs5 (Aj (Nat.lt_of_lt_of_le H4.out.2.1 hb5.size) (Aj (H4.out.2.2.trans (hb5.mono H4.out.2.2.size)) hg5)))
 clear hs5 hr5 hb5 hg5 hk5
 go_wp2_with fail
 refine HC.out.mono ?_
 rintro e W6 ⟨ho6,hcase⟩
 have hgt:getT exB (some 0)=some (exN,17):=by
  unfold getT
  rw [ex_get]
  show (if T.rightB exN=true then some (exN,17) else none)=_
  rw [if_pos ex_right]
 rw [hgt] at hcase
 rcases hcase with ⟨ns,p,a,cp,he,rfl,hown,hlen,hins,hrd⟩ | ⟨he,_⟩
 ·
  obtain ⟨rfl,rfl⟩:exN=ns∧17=p:=by
   have:=Option.some.inj he
   exact ⟨congrArg Prod.fst this,congrArg Prod.snd this⟩
  rw [show exN.length=3 from rfl] at hown ⊢
  have hb6:Below w.heap.size W5 W6:=⟨ho6.os,ho6.tape,ho6.output,ho6.size,fun j hj=>ho6.block j (by have:=H5.out.2.2.1.size;omega) (by have:=H5.out.2.2.2;have:=H4.out.2.2.size;omega) (by simp)⟩
  have hs6:W.Src W6 kb 0 exB:=fun j hj=>(onlyCell ho6 H5.out.2.1 (by have:=H5.out.2.2.2;have:=H4.out.2.1;omega)).trans (H5.out.1 j hj)
  have hb7:Below W6.heap.size W6 (W6.alloc (.cells #[.slice a 3 cp] 24)):=(Below.refl _ _).alloc (Nat.le_refl _) _
  have hl7:=Lies.new W6 #[.slice a 3 cp] 24
  have hs7:=src_below hs6 hb7 (Nat.lt_of_lt_of_le H5.out.2.1 ho6.size)
  have ht7:T.TAt (W6.alloc (.cells #[.slice a 3 cp] 24)) a exN:=((hown.tat (by decide) (by decide)).1).below hb7 (Nat.le_refl _)
  have hbw7:=(H5.out.2.2.1.trans hb6).trans (hb7.mono (H5.out.2.2.1.trans hb6).size)
  obtain ⟨W7,HW7⟩:∃ W7,W6.alloc (.cells #[.slice a 3 cp] 24)=W7:=⟨_,rfl⟩
  rw [HW7] at hb7 hl7 hs7 ht7 hbw7
  obtain ⟨q,hq⟩:∃ q,q=W6.heap.size:=⟨_,rfl⟩
  rw [← hq] at hl7
  have HS:Hid (∀ V,Below W7.heap.size W7 V→V.cell? ⟨q,0,none⟩=some (.slice a 3 cp)∧(convert 54 9 (.slice (some ⟨kb,0,none⟩) 17 c)).run Tryz.prog V=.ok (.string ⟨#[4,0,2,1,0,0,0,0,0,0,0,1,2,0,2,97,98]⟩) V):=Hj fun V hV=>⟨(hl7.below hV hl7.lt).cell 0 rfl,str_ex (src_below hs7 hV (Nat.lt_of_lt_of_le (Nat.lt_of_lt_of_le H5.out.2.1 ho6.size) hb7.size))⟩
  have K1:Hid (∀ V,Below W7.heap.size W7 V→Calls Tryz.prog 48 #[] V fun e w'=>∃ v,e=.returned v∧∃ gx,v=.agg #[.slice (some ⟨gx,0,none⟩) 3 3]∧T.TAt w' (some ⟨gx,0,none⟩) exN∧Below V.heap.size V w'):=Hj fun V hV=>(list_any V).mono fun e w' k=>by
   obtain ⟨gx,rfl,h1,_,_,h2⟩:=k
   exact ⟨_,rfl,gx,rfl,h1,h2⟩
  have K2:Hid (∀ V gx,Below W7.heap.size W7 V→T.TAt V (some ⟨gx,0,none⟩) exN→Calls Tryz.prog 50 #[.agg #[.slice a 3 cp],.agg #[.slice (some ⟨gx,0,none⟩) 3 3]] V fun e w'=>e=.returned (.bool true)∧Below V.heap.size V w'):=Hj fun V gx hV hx=>by
   have k:=T.sameTerm_any V a (some ⟨gx,0,none⟩) cp 3 exN exN (ht7.below hV (Nat.le_refl _)) hx
   rw [ex_same] at k
   exact k
  have K3:Hid (∀ V,Calls Tryz.prog 19 #[.agg (otC exO)] V fun e w'=>e=.returned (.int .i64 44)∧Below V.heap.size V w'):=Hj fun V=>by
   have k:=long_any V exO (ex_ok V) (fun x hx=>by cases hx) (by decide)
   rw [ex_long] at k
   exact k
  obtain ⟨ov,hov⟩:∃ o,o=otC exO:=⟨_,rfl⟩
  rw [← hov] at K3
  have hbld:(Tryz.zeroCells35.setIfInBounds 33 (.int .i64 5)).setIfInBounds 34 (.slice none 0 0)=ov:=by rw [hov];kernel_rfl
  have HN:=Hj (Aj hbw7 (show 0 < W7.heap.size by have:=hl7.lt;omega))
  clear hb6 hs6 hb7 hl7 hs7 ht7 hbw7 ho6 hown hlen hins hrd he hov HC
  go_upto_region 5 with fail
  rw [← hq]
  clear HW7 hq
  refine wp_region_held (S:=Below W7.heap.size W7) (by kernel_rfl) ?_
  change wpAnyH _ _ _ _ _ 19 _ _ (World.drew W7)
  have hcur:Below W7.heap.size W7 W7.drew:=(Below.refl _ _).drew
  refine tk 0 (.int .i64 0) 17 rfl rfl hcur ?_
  refine tk 1 (.bool true) 18 rfl rfl hcur ?_
  refine tk 2 (.bool true) 19 rfl rfl hcur ?_
  refine tk 3 (.slice (some ⟨kb,0,none⟩) 17 c) 20 rfl rfl hcur ?_
  refine tk 4 (.string ⟨#[4,0,2,1,0,0,0,0,0,0,0,1,2,0,2,97,98]⟩) 21 rfl rfl hcur ?_ (by intro w' hS';have x0:=(HS.out w' hS').2;unfold execOp;simp [go_sem,x0])
  refine tk 5 (.bool true) 22 rfl rfl hcur ?_
  refine tk 6 (.bool true) 23 rfl rfl hcur ?_
  refine tk 7 (.bool true) 24 rfl rfl hcur ?_
  refine tk 8 (.agg #[.slice a 3 cp]) 25 rfl rfl hcur ?_ (by intro w' hS';have x0:=(HS.out w' hS').1;unfold execOp;simp [go_sem,x0])
  generalize W7.drew=V0 at hcur ⊢
  refine held_one (i:=9) (by kernel_rfl) _ rfl (wpOp_callG rfl (by rfl) 26 rfl 48 #[] (by unfold execOp;simp [go_sem]) (fun v w'=>∃ gx,v=.agg #[.slice (some ⟨gx,0,none⟩) 3 3]∧T.TAt w' (some ⟨gx,0,none⟩) exN∧Below V0.heap.size V0 w') (K1.out _ hcur) ?_)
  rintro _ U1 ⟨gx,rfl,htx,hn⟩
  have hcur:=hcur.trans (hn.mono hcur.size)
  clear hn
  refine ⟨hcur,?_⟩
  simp only [Sj]
  refine held_one (i:=10) (by kernel_rfl) _ rfl (wpOp_callG rfl (by rfl) 27 rfl 50 #[.agg #[.slice a 3 cp],.agg #[.slice (some ⟨gx,0,none⟩) 3 3]] (by unfold execOp;simp [go_sem]) _ (ret_gro (K2.out _ gx hcur htx)) ?_)
  rintro _ U2 ⟨rfl,hn⟩
  have hcur:=hcur.trans (hn.mono hcur.size)
  clear hn htx
  refine ⟨hcur,?_⟩
  simp only [Sj]
  refine tk 11 (.bool true) 28 rfl rfl hcur ?_
  refine tk 12 (.bool true) 29 rfl rfl hcur ?_
  refine tk 13 (.agg #[.int .i64 5,.slice none 0 0]) 30 rfl rfl hcur ?_
  refine tk 14 (.agg ov) 31 rfl rfl hcur ?_ (by intro w' hS';unfold execOp;simp [go_sem,hbld])
  refine held_one (i:=15) (by kernel_rfl) _ rfl (wpOp_callG rfl (by rfl) 32 rfl 19 #[.agg ov] (by unfold execOp;simp [go_sem]) _ (ret_gro (K3.out _)) ?_)
  rintro _ U3 ⟨rfl,hn⟩
  have hcur:=hcur.trans (hn.mono hcur.size)
  clear hn
  refine ⟨hcur,?_⟩
  simp only [Sj]
  refine tk 16 (.bool true) 33 rfl rfl hcur ?_
  refine tk 17 (.bool true) 34 rfl rfl hcur ?_
  refine tk 18 (.bool true) 0 rfl rfl hcur ?_
  refine held_done (by kernel_rfl) ?_
  have HF:=Hj (Aj (HN.out.1.trans (hcur.mono HN.out.1.size)) (Nat.lt_of_lt_of_le HN.out.2 hcur.size))
  clear hcur hbld
  go_wp2_with fail
  go_ret
  exact ⟨rfl,HF.out.1,HF.out.2⟩
 ·
  cases he
end Go.Proofs.YtilbbemdinpjcaaGreat.P
namespace Go.Proofs.YtilbbemdinpjcaaGreat.P
set_option maxRecDepth 100000
open Go.RowKit Go.Sort
theorem wpList_load_midG {P:Program} {ops:Array Oper} {rest:List Oper} {o:Oper} {a:Act} {w:World} {Q:Exit→Act→World→Prop} (hw:Region.wanted o (yielded ops a.tmps)=true) (ty:TypeId) (x:Operand) (ho:o.op=.load ty x)
  (b off:Nat) (hx:a.eval x=.pointer (some ⟨b,off,none⟩)) (cs:List Value) (d:TypeDesc) (hc:w.rangeAt b off cs)
  (hu:P.underlying ty=some d) (hd:d.isRow=true) (hi:(P.info? ty).map (·.size)=some cs.length)
  (h:wpList P ops Q rest (a.put o.dst (.agg cs.toArray)) w):wpList P ops Q (o :: rest) a w:=by
 unfold wpList
 rw [if_pos hw]
 exact .inl (wp_load_mid ty x ho b off hx cs d hc hu hd hi h)
theorem sameN_self (xs:List T.Nd):T.sameN xs xs=true:=T.sameN_true rfl fun j h1 h2=>by simp [T.eqN]
theorem keyed_addr:Tryz.prog.keyTypeAt 5 32=true:=by kernel_rfl
theorem formed_addr (b:Bool) (p:List UInt8) (h:p.length=32):(Value.agg (adC b p)).formed Tryz.prog 32=true:=by
 obtain ⟨a0,a1,a2,a3,a4,a5,a6,a7,a8,a9,a10,a11,a12,a13,a14,a15,a16,a17,a18,a19,a20,a21,a22,a23,a24,a25,a26,a27,a28,a29,a30,a31,rfl⟩:=list32 p h
 kernel_rfl
theorem lit_bool (d:Nat) (x:Bool):Tryz.prog.keyLits (d+1) 4 [.bool x]=some [Lit.bool x]:=by
 unfold Program.keyLits
 simp [Tryz.underlying4]
theorem lits_addr (d:Nat) (b:Bool) (p:List UInt8) (h:p.length=32):Tryz.prog.keyLits (d+3) 32 (adC b p).toList=some ([Lit.bool b] ++ (p.map fun b=>Lit.int .u8 b.toNat)):=by
 have hl:(B8 p).toList.length=32:=by rw [Array.length_toList,B8_size,h]
 have e:(adC b p).toList=[.bool b] ++ (B8 p).toList:=by simp [adC]
 rw [e]
 unfold Program.keyLits
 simp only [Tryz.underlying32,pc_addr,List.length_append,hl,List.length_cons,List.length_nil]
 rw [if_pos ⟨trivial,by kernel_rfl⟩]
 simp only [List.mapM_cons,List.mapM_nil,dc26,pc_bool,List.drop_zero,List.take_left' (show ([Value.bool b]:List Value).length=1 from rfl),List.drop_left' (show ([Value.bool b]:List Value).length=1 from rfl)]
 rw [List.take_of_length_le (by omega),litsH d p h]
 simp [lit_bool (d+1) b]
theorem eq_addr (w:World) (b:Bool) (p:List UInt8) (h:p.length=32):(binOp .eql 32 (.agg (adC b p)) (.agg (adC b p))).run Tryz.prog w=.ok (.bool true) w:=by
 obtain ⟨r,hr,hi⟩:=run_equalIn_deep 9995 5 32 keyed_addr w 5 5 (.agg (adC b p)) (.agg (adC b p)) _ _ (formed_addr b p h) (formed_addr b p h) (lits_addr 2 b p h) (lits_addr 2 b p h)
 have e:r=true:=hi.2 rfl
 subst e
 have hr2:(Op.equalIn 10000 32 (.agg (adC b p)) (.agg (adC b p))).run Tryz.prog w=.ok true w:=hr
 have he:(Op.equal 32 (.agg (adC b p)) (.agg (adC b p))).run Tryz.prog w=.ok true w:=hr2
 simp [binOp,go_sem,he]
theorem eq_hashes (w:World) (p:List UInt8) (h:p.length=32):(binOp .eql 30 (.agg (B8 p)) (.agg (B8 p))).run Tryz.prog w=.ok (.bool true) w:=by
 have he:(Op.equal 30 (.agg (B8 p)) (.agg (B8 p))).run Tryz.prog w=.ok true w:=by
  have:=eq_hash w p p h h
  rw [show decide (p=p)=true by simp] at this
  exact this
 simp [binOp,go_sem,he]
theorem otC_ad (o:Ot) (j:Nat) (v:Value) (h:(adC o.prog o.ah).toList[j]? = some v):(otC o)[j]? = some v:=by
 have hj:=(List.getElem?_eq_some_iff.1 h).1
 rw [Array.getElem?_toList] at h
 rw [Array.length_toList] at hj
 unfold otC
 rw [Array.getElem?_append_left (by simp only [Array.size_append];unfold adC at hj;simp only [Array.size_append] at hj;omega),Array.getElem?_append_left (by simp only [Array.size_append];unfold adC at hj;simp only [Array.size_append] at hj;omega),Array.getElem?_append_left (by unfold adC at hj;exact hj)]
 exact h
theorem info_hash:(Tryz.prog.info? 30).map (·.size)=some 32:=by kernel_rfl
theorem sameOutput_yes (w:World) (a b:Ot) (ha:OtOk w a) (hb:OtOk w b) (heq:outV a=outV b) :
  Calls Tryz.prog 82 #[.agg (otC a),.agg (otC b)] w fun e w'=>e=.returned (.bool true)∧Below w.heap.size w w':=by
 obtain ⟨b1,b2,b3,b4⟩:=box_two w (otC a) (otC b) 35 35
 obtain ⟨W0,HW⟩:∃ W0,(w.alloc (.cells (otC a) 35)).alloc (.cells (otC b) 35)=W0:=⟨_,rfl⟩
 rw [HW] at b1 b2 b3 b4
 have hA:=lies_at b1 ha.ah ha.dh
 have hB:=lies_at b2 hb.ah hb.dh
 have e1:b.prog=a.prog:=(congrArg OutV.prog heq).symm
 have e2:b.ah=a.ah:=(congrArg OutV.ah heq).symm
 have e3:b.v.coin=a.v.coin:=(congrArg OutV.coin heq).symm
 have e4:b.v.l=a.v.l:=(congrArg OutV.l heq).symm
 have e5:b.kind=a.kind:=(congrArg OutV.kind heq).symm
 have e6:b.dh=a.dh:=(congrArg OutV.dh heq).symm
 have e7:b.ns=a.ns:=(congrArg OutV.ns heq).symm
 obtain ⟨ad,had⟩:∃ x,x=adC a.prog a.ah:=⟨_,rfl⟩
 obtain ⟨hh,hhh⟩:∃ x,x=B8 a.dh:=⟨_,rfl⟩
 have hadl:ad.toList.length=33:=by rw [had,Array.length_toList];simp [adC,B8_size,ha.ah]
 have hhl:hh.toList.length=32:=by rw [hhh,Array.length_toList,B8_size,ha.dh]
 have r1:W0.rangeAt w.heap.size 0 ad.toList:=fun j v hv=>by rw [Nat.zero_add];exact b1.cell j (otC_ad a j v (by rw [← had];exact hv))
 have r2:W0.rangeAt (w.heap.size+1) 0 ad.toList:=fun j v hv=>by rw [Nat.zero_add];exact b2.cell j (otC_ad b j v (by rw [e1,e2,← had];exact hv))
 have hQ1:∀ V,(binOp .eql 32 (.agg ad) (.agg ad)).run Tryz.prog V=.ok (.bool true) V:=fun V=>by rw [had];exact eq_addr V _ _ ha.ah
 have hQ2:∀ V,(binOp .eql 30 (.agg hh) (.agg hh)).run Tryz.prog V=.ok (.bool true) V:=fun V=>by rw [hhh];exact eq_hashes V _ ha.dh
 obtain ⟨x,hx⟩:∃ x,x=a.v.coin:=⟨_,rfl⟩
 obtain ⟨kd,hkd⟩:∃ x,x=a.kind:=⟨_,rfl⟩
 obtain ⟨n,hn⟩:∃ n,n=a.v.l.length:=⟨_,rfl⟩
 obtain ⟨m,hm⟩:∃ n,n=a.ns.length:=⟨_,rfl⟩
 obtain ⟨pa,hpa⟩:∃ x,x=a.v.pa:=⟨_,rfl⟩
 obtain ⟨pb,hpb⟩:∃ x,x=b.v.pa:=⟨_,rfl⟩
 obtain ⟨ca,hca⟩:∃ x,x=a.v.c:=⟨_,rfl⟩
 obtain ⟨cb,hcb⟩:∃ x,x=b.v.c:=⟨_,rfl⟩
 obtain ⟨ta,hta⟩:∃ x,x=a.tp:=⟨_,rfl⟩
 obtain ⟨tb,htb⟩:∃ x,x=b.tp:=⟨_,rfl⟩
 obtain ⟨ua,hua⟩:∃ x,x=a.tc:=⟨_,rfl⟩
 obtain ⟨ub,hub⟩:∃ x,x=b.tc:=⟨_,rfl⟩
 have c1:∀ V,Below W0.heap.size W0 V→V.cell? ⟨w.heap.size,33,none⟩=some (.int .i64 x)∧V.cell? ⟨w.heap.size,34,none⟩=some (.slice pa n ca)∧V.cell? ⟨w.heap.size,35,none⟩=some (.int .i64 kd)∧V.rangeAt w.heap.size 36 hh.toList∧V.cell? ⟨w.heap.size,68,none⟩=some (.slice ta m ua):=fun V hV=>by
  have h:=lies_at (b1.below hV b1.lt) ha.ah ha.dh
  rw [hx,hkd,hn,hm,hpa,hca,hta,hua,hhh]
  exact ⟨by simpa using h.coin,by simpa using h.assets,by simpa using h.kind,by simpa using h.dh,by simpa using h.term⟩
 have c2:∀ V,Below W0.heap.size W0 V→V.cell? ⟨w.heap.size+1,33,none⟩=some (.int .i64 x)∧V.cell? ⟨w.heap.size+1,34,none⟩=some (.slice pb n cb)∧V.cell? ⟨w.heap.size+1,35,none⟩=some (.int .i64 kd)∧V.rangeAt (w.heap.size+1) 36 hh.toList∧V.cell? ⟨w.heap.size+1,68,none⟩=some (.slice tb m ub):=fun V hV=>by
  have h:=lies_at (b2.below hV b2.lt) hb.ah hb.dh
  rw [hx,hkd,hn,hm,hpb,hcb,htb,hub,hhh,← e3,← e4,← e5,← e6,← e7]
  exact ⟨by simpa using h.coin,by simpa using h.assets,by simpa using h.kind,by simpa using h.dh,by simpa using h.term⟩
 have K1:Hid (∀ V,Below W0.heap.size W0 V→Calls Tryz.prog 80 #[.agg #[.int .i64 x,.slice pa n ca],.agg #[.int .i64 x,.slice pb n cb]] V fun e w'=>e=.returned (.bool true)∧Below V.heap.size V w'):=Hj fun V hV=>by
  have h1:=ha.v.2.2.below (b3.trans (hV.mono b3.size)) (Nat.le_refl _)
  have h2:=hb.v.2.2.below (b3.trans (hV.mono b3.size)) (Nat.le_refl _)
  rw [e4] at h2
  have h:=sameV_any V x x pa pb a.v.l a.v.l ca cb (by rw [hpa];exact h1) (by rw [hpb];exact h2)
  rw [show sameB x x a.v.l a.v.l=true by simp [sameB],← hn] at h
  exact h
 have K2:Hid (∀ V,Below W0.heap.size W0 V→Calls Tryz.prog 50 #[.agg #[.slice ta m ua],.agg #[.slice tb m ub]] V fun e w'=>e=.returned (.bool true)∧Below V.heap.size V w'):=Hj fun V hV=>by
  have h1:=ha.t.below (b3.trans (hV.mono b3.size)) (Nat.le_refl _)
  have h2:=hb.t.below (b3.trans (hV.mono b3.size)) (Nat.le_refl _)
  rw [e7] at h2
  have h:=T.sameTerm_any V ta tb ua ub a.ns a.ns (by rw [hta];exact h1) (by rw [htb];exact h2)
  rw [sameN_self,← hm] at h
  exact h
 have HC:=Hj (Aj c1 c2)
 have HB:=Hj b3
 have HR:=Hj (Aj r1 r2)
 have HI1:=Hj (show (Tryz.prog.info? 32).map (·.size)=some ad.toList.length by rw [hadl];exact info_address)
 have HI2:=Hj (show (Tryz.prog.info? 30).map (·.size)=some hh.toList.length by rw [hhl];exact info_hash)
 obtain ⟨va,hva⟩:∃ x,x=otC a:=⟨_,rfl⟩
 obtain ⟨vb,hvb⟩:∃ x,x=otC b:=⟨_,rfl⟩
 rw [← hva,← hvb] at HW ⊢
 clear ha hb heq b1 b2 b4 hA hB e1 e2 e3 e4 e5 e6 e7 had hhh hadl hhl r1 r2 hx hkd hn hm hpa hpb hca hcb hta htb hua hub hva hvb b3
 obtain ⟨d1,d2,-,-,-⟩:=c1 W0 (Below.refl _ _)
 obtain ⟨f1,f2,-,-,-⟩:=c2 W0 (Below.refl _ _)
 clear c1 c2
 go_enter Tryz.func82,Tryz.ntmps82
 obtain ⟨p,hp⟩:∃ p,p=w.heap.size:=⟨_,rfl⟩
 obtain ⟨q,hq⟩:∃ q,q=w.heap.size+1:=⟨_,rfl⟩
 have HP:=Hj (Aj hp hq)
 go_upto_region 1 with fail
 rw [← hq,← hp]
 rw [← hq] at f1 f2
 rw [← hp] at d1 d2
 rw [← hq,← hp] at HR HC
 clear HW hp hq
 go_wp2_with (first
  | (refine wpList_load_midG (by rfl) 32 _ rfl p 0 rfl ad.toList _ HR.out.1 Tryz.underlying32 rfl HI1.out ?_)
  | (refine wpList_load_midG (by rfl) 32 _ rfl q 0 rfl ad.toList _ HR.out.2 Tryz.underlying32 rfl HI1.out ?_))
 refine (K1.out W0 (Below.refl _ _)).mono ?_
 rintro e U1 ⟨rfl,hb1⟩
 obtain ⟨-,-,g1,hr1,g2⟩:=HC.out.1 U1 hb1
 obtain ⟨-,-,g3,hr2,g4⟩:=HC.out.2 U1 hb1
 have HR2:=Hj (Aj hr1 hr2)
 have H1:=Hj hb1
 clear hb1 hr1 hr2 d1 d2 f1 f2
 go_wp2_with (first
  | (refine wpList_load_midG (by rfl) 30 _ rfl p 36 rfl hh.toList _ HR2.out.1 Tryz.underlying30 rfl HI2.out ?_)
  | (refine wpList_load_midG (by rfl) 30 _ rfl q 36 rfl hh.toList _ HR2.out.2 Tryz.underlying30 rfl HI2.out ?_))
 refine (K2.out U1 H1.out).mono ?_
 rintro e U2 ⟨rfl,hb2⟩
 have H2:=Hj (HB.out.trans ((H1.out.trans (hb2.mono H1.out.size)).mono HB.out.size))
 clear hb2
 go_wp2_with fail
 go_ret
 exact ⟨rfl,H2.out⟩
end Go.Proofs.YtilbbemdinpjcaaGreat.P
namespace Go.Proofs.YtilbbemdinpjcaaGreat.P
set_option maxRecDepth 100000
open Go.RowKit Go.Sort
theorem sameEntry_yes (w:World) (a b:En) (ha:EnOk w a) (hb:EnOk w b) (heq:enV a=enV b) :
  Calls Tryz.prog 145 #[.agg (enC a),.agg (enC b)] w fun e w'=>e=.returned (.bool true)∧Below w.heap.size w w':=by
 obtain ⟨b1,b2,b3,b4⟩:=box_two w (enC a) (enC b) 81 81
 obtain ⟨W0,HW⟩:∃ W0,(w.alloc (.cells (enC a) 81)).alloc (.cells (enC b) 81)=W0:=⟨_,rfl⟩
 rw [HW] at b1 b2 b3 b4
 have e1:b.r=a.r:=(congrArg Prod.fst heq).symm
 have e2:outV a.o=outV b.o:=congrArg Prod.snd heq
 obtain ⟨rc,hrc⟩:∃ x,x=refC a.r:=⟨_,rfl⟩
 obtain ⟨oa,hoa⟩:∃ x,x=otC a.o:=⟨_,rfl⟩
 obtain ⟨ob,hob⟩:∃ x,x=otC b.o:=⟨_,rfl⟩
 have hrl:rc.toList.length=33:=by rw [hrc,Array.length_toList,refC_size _ ha.r.1]
 have hol:oa.toList.length=69:=by rw [hoa,Array.length_toList,otC_size _ ha.o.ah ha.o.dh]
 have hml:ob.toList.length=69:=by rw [hob,Array.length_toList,otC_size _ hb.o.ah hb.o.dh]
 have r1:W0.rangeAt w.heap.size 0 rc.toList:=fun j v hv=>by rw [Nat.zero_add];exact b1.cell j (by rw [← Array.getElem?_toList];exact enC_ref ha j v (by rw [← hrc];exact hv))
 have r2:W0.rangeAt (w.heap.size+1) 0 rc.toList:=fun j v hv=>by rw [Nat.zero_add];exact b2.cell j (by rw [← Array.getElem?_toList];exact enC_ref hb j v (by rw [e1,← hrc];exact hv))
 have r3:W0.rangeAt w.heap.size 33 oa.toList:=fun j v hv=>b1.cell (33+j) (by rw [← Array.getElem?_toList];exact enC_out ha j v (by rw [← hoa];exact hv))
 have r4:W0.rangeAt (w.heap.size+1) 33 ob.toList:=fun j v hv=>b2.cell (33+j) (by rw [← Array.getElem?_toList];exact enC_out hb j v (by rw [← hob];exact hv))
 have hQ:∀ V,(binOp .eql 37 (.agg rc) (.agg rc)).run Tryz.prog V=.ok (.bool true) V:=fun V=>by
  have:=eq_ref V a.r a.r ha.r ha.r
  rw [← hrc,show decide (a.r=a.r)=true by simp] at this
  exact this
 have K1:=Hj (show Calls Tryz.prog 82 #[.agg oa,.agg ob] W0 fun e w'=>e=.returned (.bool true)∧Below W0.heap.size W0 w' by
  rw [hoa,hob]
  exact sameOutput_yes W0 a.o b.o (ha.o.below b3 (Nat.le_refl _)) (hb.o.below b3 (Nat.le_refl _)) e2)
 have HB:=Hj b3
 have HI:=Hj (Aj (show (Tryz.prog.info? 37).map (·.size)=some rc.toList.length by rw [hrl];exact info_ref) (Aj (show (Tryz.prog.info? 35).map (·.size)=some oa.toList.length by rw [hol];exact info_output) (show (Tryz.prog.info? 35).map (·.size)=some ob.toList.length by rw [hml];exact info_output)))
 have HR:=Hj (Aj r1 (Aj r2 (Aj r3 r4)))
 obtain ⟨va,hva⟩:∃ x,x=enC a:=⟨_,rfl⟩
 obtain ⟨vb,hvb⟩:∃ x,x=enC b:=⟨_,rfl⟩
 rw [← hva,← hvb] at HW ⊢
 clear ha hb heq b1 b2 b4 e1 e2 hrc hoa hob hrl hol hml r1 r2 r3 r4 hva hvb b3
 go_enter Tryz.func145,Tryz.ntmps145
 obtain ⟨p,hp⟩:∃ p,p=w.heap.size:=⟨_,rfl⟩
 obtain ⟨q,hq⟩:∃ q,q=w.heap.size+1:=⟨_,rfl⟩
 go_upto_region 1 with fail
 rw [← hq,← hp]
 rw [← hq,← hp] at HR
 clear HW hp hq
 go_wp2_with (first
  | (refine wpList_load_midG (by rfl) 37 _ rfl p 0 rfl rc.toList _ HR.out.1 Tryz.underlying37 rfl HI.out.1 ?_)
  | (refine wpList_load_midG (by rfl) 37 _ rfl q 0 rfl rc.toList _ HR.out.2.1 Tryz.underlying37 rfl HI.out.1 ?_)
  | (refine wpList_load_midG (by rfl) 35 _ rfl p 33 rfl oa.toList _ HR.out.2.2.1 Tryz.underlying35 rfl HI.out.2.1 ?_)
  | (refine wpList_load_midG (by rfl) 35 _ rfl q 33 rfl ob.toList _ HR.out.2.2.2 Tryz.underlying35 rfl HI.out.2.2 ?_))
 refine K1.out.mono ?_
 rintro e U2 ⟨rfl,hb2⟩
 have H2:=Hj (HB.out.trans (hb2.mono HB.out.size))
 clear hb2
 go_wp2_with fail
 go_ret
 exact ⟨rfl,H2.out⟩
theorem sameEntries_yes (w:World) (pa pb:Option Addr) (l m:List En) (c e:Nat) (hl:RowE w pa l) (hm:RowE w pb m) (heq:l.map enV=m.map enV) :
  Calls Tryz.prog 83 #[.slice pa l.length c,.slice pb m.length e] w fun e w'=>e=.returned (.bool true)∧Below w.heap.size w w':=by
 have hlen:l.length=m.length:=by simpa using congrArg List.length heq
 obtain ⟨N,hN⟩:∃ N,N=m.length:=⟨_,rfl⟩
 have hli:(N:Int)≤9223372036854775807:=by have:=hm.1;unfold maxLen at this;omega
 rw [hlen,← hN]
 have HS:=Hj (Aj hl (Aj hm (Aj heq (Aj hlen hN))))
 clear hl hm heq hlen hN
 go_enter Tryz.func83,Tryz.ntmps83
 go_wp2_with fail
 go_loopw [5] (fun i W=>∃ k:Nat,k≤N∧i=.int .i64 k∧Below w.heap.size w W) (fun i _=>N - (intOf i).toNat)
 case atStart=>exact ⟨0,Nat.zero_le _,rfl,Below.refl _ _⟩
 case round =>
  obtain ⟨k,hk,rfl,hb⟩:=hrel
  by_cases hlt:k < N
  ·
   have m1:(k:Int) < (N:Int):=by omega
   have m0:(0:Int)≤(k:Int):=by omega
   have hlN:l.length=N:=by rw [HS.out.2.2.2.1,← HS.out.2.2.2.2]
   have hmN:m.length=N:=HS.out.2.2.2.2.symm
   obtain ⟨g,off,rfl,hg,hh⟩:=HS.out.1.2 (by omega)
   obtain ⟨g',off',rfl,hg',hh'⟩:=HS.out.2.1.2 (by omega)
   obtain ⟨a,hka⟩:∃ a,l[k]? = some a:=⟨l[k]'(by omega),List.getElem?_eq_getElem _⟩
   obtain ⟨b,hkb⟩:∃ a,m[k]? = some a:=⟨m[k]'(by omega),List.getElem?_eq_getElem _⟩
   have hab:enV a=enV b:=by
    have h:=congrArg (fun x=>x[k]?) HS.out.2.2.1
    simp only [List.getElem?_map,hka,hkb,Option.map_some] at h
    exact Option.some.inj h
   have hA:=hh.below hb hg (Nat.le_refl _) k a hka
   have hB:=hh'.below hb hg' (Nat.le_refl _) k b hkb
   obtain ⟨va,hva⟩:∃ v,v=enC a:=⟨_,rfl⟩
   obtain ⟨vb,hvb⟩:∃ v,v=enC b:=⟨_,rfl⟩
   have hvs:va.size=102:=by rw [hva];exact enC_size hA.2
   have hvt:vb.size=102:=by rw [hvb];exact enC_size hB.2
   have HR1:Hid (∀ W,Below wr.heap.size wr W→W.rangeAt g (off+k * 102) va.toList∧W.rangeAt g' (off'+k * 102) vb.toList):=Hj fun W hW=>by
    rw [hva,hvb]
    have hW':=hb.trans (hW.mono hb.size)
    exact ⟨(hh.below hW' hg (Nat.le_refl _) k a hka).1,(hh'.below hW' hg' (Nat.le_refl _) k b hkb).1⟩
   have K1:Hid (∀ V,Below wr.heap.size wr V→Calls Tryz.prog 145 #[.agg va,.agg vb] V fun e w'=>e=.returned (.bool true)∧Below V.heap.size V w'):=Hj fun V hV=>by
    rw [hva,hvb]
    exact sameEntry_yes V a b (hA.2.below hV (Nat.le_refl _)) (hB.2.below hV (Nat.le_refl _)) hab
   have HR:=Hj (Aj hb hlt)
   have HI:=Hj (Aj (show (Tryz.prog.info? 81).map (·.size)=some va.size by rw [hvs];exact info_entry) (show (Tryz.prog.info? 81).map (·.size)=some vb.size by rw [hvt];exact info_entry))
   clear hlN hmN hb hlt hk hka hkb hva hvb hvs hvt hh hh' hg hg' hA hB hab
   go_upto_region 6 with fail
   refine wp_region_noPanic (wp_region_held (S:=Below wr.heap.size wr) (by kernel_rfl) ?_)
   change wpAnyH _ _ _ _ _ 10 _ _ (World.drew wr)
   have hcur:Below wr.heap.size wr wr.drew:=(Below.refl _ _).drew
   refine tk 0 (.slice (some ⟨g,off,none⟩) N c) 17 rfl rfl hcur ?_
   refine tk 1 (.int .i64 k) 18 rfl rfl hcur ?_
   refine tk 2 (.pointer (some ⟨g,off+k * 102,none⟩)) 19 rfl rfl hcur ?_ (by intro w' hS';unfold execOp;simp [go_sem,m0,m1])
   refine tk 3 (.agg va) 20 rfl rfl hcur ?_ (by intro w' hS';exact exec_loadM 81 _ rfl _ _ rfl va (HR1.out _ hS').1 Tryz.underlying81 rfl HI.out.1)
   refine tk 4 (.slice (some ⟨g',off',none⟩) N e) 21 rfl rfl hcur ?_
   refine tk 5 (.int .i64 k) 22 rfl rfl hcur ?_
   refine tk 6 (.pointer (some ⟨g',off'+k * 102,none⟩)) 23 rfl rfl hcur ?_ (by intro w' hS';unfold execOp;simp [go_sem,m0,m1])
   refine tk 7 (.agg vb) 24 rfl rfl hcur ?_ (by intro w' hS';exact exec_loadM 81 _ rfl _ _ rfl vb (HR1.out _ hS').2 Tryz.underlying81 rfl HI.out.2)
   generalize wr.drew=U0 at hcur ⊢
   refine held_one (i:=8) (by kernel_rfl) _ rfl (wpOp_callG rfl (by rfl) 25 rfl 145 #[.agg va,.agg vb] (by unfold execOp;simp [go_sem]) _ (ret_gro (K1.out _ hcur)) ?_)
   rintro _ U1 ⟨rfl,hn⟩
   have hcur:=hcur.trans (hn.mono hcur.size)
   clear hn
   refine ⟨hcur,?_⟩
   simp only [Sj]
   refine tk 9 (.bool false) 26 rfl rfl hcur ?_
   refine wpAnyH_done (by kernel_rfl) ?_ _
   unfold NoPanic
   dsimp only
   have HF:=Hj (HR.out.1.trans (hcur.mono HR.out.1.size))
   clear hcur
   go_wp2_with fail
   have e1:(k:Int)+1=((k+1:Nat):Int):=by omega
   rw [e1]
   refine ⟨⟨k+1,HR.out.2,rfl,HF.out⟩,?_⟩
   have h:=HR.out.2
   show N - (k+1) < N - k
   omega
  ·
   have m1:¬ (k:Int) < (N:Int):=by omega
   have HB:=Hj hb
   clear hb hlt hk
   go_wp2_with fail
   go_ret
   exact ⟨rfl,HB.out⟩
theorem sameDiff_yes (w:World) (a b:Df) (ha:DfOk w a) (hb:DfOk w b) (heq:diV a=diV b) :
  Calls Tryz.prog 84 #[.agg (dfC a),.agg (dfC b)] w fun e w'=>e=.returned (.bool true)∧Below w.heap.size w w':=by
 obtain ⟨b1,b2,b3,b4⟩:=box_two w (dfC a) (dfC b) 40 40
 obtain ⟨ps,s,cs,pm,m,cm,fe,fo,pt,l,ct⟩:=a
 obtain ⟨ps',s',cs',pm',m',cm',fe',fo',pt',l',ct'⟩:=b
 obtain ⟨hs,hm,-,-,hl⟩:=ha
 obtain ⟨hs',hm',-,-,hl'⟩:=hb
 have e1:s.map enV=s'.map enV:=congrArg DfV.s heq
 have e2:m.map enV=m'.map enV:=congrArg DfV.m heq
 have e3:fe'=fe:=(congrArg DfV.fe heq).symm
 have e4:fo'=fo:=(congrArg DfV.fo heq).symm
 have e5:l'=l:=(congrArg DfV.l heq).symm
 clear heq
 subst e3 e4 e5
 obtain ⟨W0,HW⟩:∃ W0,(w.alloc (.cells (dfC ⟨ps,s,cs,pm,m,cm,fe',fo',pt,l',ct⟩) 40)).alloc (.cells (dfC ⟨ps',s',cs',pm',m',cm',fe',fo',pt',l',ct'⟩) 40)=W0:=⟨_,rfl⟩
 rw [HW] at b1 b2 b3 b4
 have K1:Hid (∀ V,Below W0.heap.size W0 V→Calls Tryz.prog 83 #[.slice ps s.length cs,.slice ps' s'.length cs'] V fun e w'=>e=.returned (.bool true)∧Below V.heap.size V w'):=Hj fun V hV =>
  sameEntries_yes V ps ps' s s' cs cs' (hs.below (b3.trans (hV.mono b3.size)) (Nat.le_refl _)) (hs'.below (b3.trans (hV.mono b3.size)) (Nat.le_refl _)) e1
 have K2:Hid (∀ V,Below W0.heap.size W0 V→Calls Tryz.prog 83 #[.slice pm m.length cm,.slice pm' m'.length cm'] V fun e w'=>e=.returned (.bool true)∧Below V.heap.size V w'):=Hj fun V hV =>
  sameEntries_yes V pm pm' m m' cm cm' (hm.below (b3.trans (hV.mono b3.size)) (Nat.le_refl _)) (hm'.below (b3.trans (hV.mono b3.size)) (Nat.le_refl _)) e2
 have K3:Hid (∀ V,Below W0.heap.size W0 V→Calls Tryz.prog 81 #[.slice pt l'.length ct,.slice pt' l'.length ct'] V fun e w'=>e=.returned (.bool true)∧Below V.heap.size V w'):=Hj fun V hV=>by
  have h:=sameT_any V pt pt' l' l' ct ct' (hl.below (b3.trans (hV.mono b3.size)) (Nat.le_refl _)) (hl'.below (b3.trans (hV.mono b3.size)) (Nat.le_refl _))
  rw [show decide (l'=l')=true by simp] at h
  exact h
 unfold dfC at b1 b2 HW ⊢
 dsimp only at b1 b2 HW ⊢
 obtain ⟨n1,hn1⟩:∃ n,n=s.length:=⟨_,rfl⟩
 obtain ⟨n2,hn2⟩:∃ n,n=m.length:=⟨_,rfl⟩
 obtain ⟨n3,hn3⟩:∃ n,n=l'.length:=⟨_,rfl⟩
 obtain ⟨n4,hn4⟩:∃ n,n=s'.length:=⟨_,rfl⟩
 obtain ⟨n5,hn5⟩:∃ n,n=m'.length:=⟨_,rfl⟩
 rw [← hn1,← hn4] at K1
 rw [← hn2,← hn5] at K2
 rw [← hn3] at K3
 rw [← hn1,← hn2,← hn3] at b1
 rw [← hn4,← hn5,← hn3] at b2
 rw [← hn1,← hn2,← hn3,← hn4,← hn5] at HW ⊢
 have HC:Hid (∀ V,Below W0.heap.size W0 V→(V.cell? ⟨w.heap.size,0,none⟩=some (.slice ps n1 cs)∧V.cell? ⟨w.heap.size,1,none⟩=some (.slice pm n2 cm)∧V.cell? ⟨w.heap.size,2,none⟩=some (.int .i64 fe')∧V.cell? ⟨w.heap.size,3,none⟩=some (.int .i64 fo')∧V.cell? ⟨w.heap.size,4,none⟩=some (.slice pt n3 ct))∧V.cell? ⟨w.heap.size+1,0,none⟩=some (.slice ps' n4 cs')∧V.cell? ⟨w.heap.size+1,1,none⟩=some (.slice pm' n5 cm')∧V.cell? ⟨w.heap.size+1,2,none⟩=some (.int .i64 fe')∧V.cell? ⟨w.heap.size+1,3,none⟩=some (.int .i64 fo')∧V.cell? ⟨w.heap.size+1,4,none⟩=some (.slice pt' n3 ct')):=Hj fun V hV=>by
  have h1:=b1.below hV b1.lt
  have h2:=b2.below hV b2.lt
  exact ⟨⟨h1.cell 0 rfl,h1.cell 1 rfl,h1.cell 2 rfl,h1.cell 3 rfl,h1.cell 4 rfl⟩,h2.cell 0 rfl,h2.cell 1 rfl,h2.cell 2 rfl,h2.cell 3 rfl,h2.cell 4 rfl⟩
 have HB:=Hj b3
 clear b1 b2 b3 b4 hs hm hl hs' hm' hl' e1 e2 hn1 hn2 hn3 hn4 hn5
 obtain ⟨⟨c0,-⟩,d0,-⟩:=HC.out W0 (Below.refl _ _)
 go_enter Tryz.func84,Tryz.ntmps84
 obtain ⟨p,hp⟩:∃ p,p=w.heap.size:=⟨_,rfl⟩
 obtain ⟨q,hq⟩:∃ q,q=w.heap.size+1:=⟨_,rfl⟩
 go_upto_region 1 with fail
 rw [← hq,← hp]
 rw [← hp] at c0
 rw [← hq] at d0
 rw [← hq,← hp] at HC
 clear HW hp hq
 go_wp2_with fail
 refine (K1.out W0 (Below.refl _ _)).mono ?_
 rintro e U1 ⟨rfl,hb1⟩
 obtain ⟨⟨-,c1,-⟩,-,d1,-⟩:=HC.out U1 hb1
 have H1:=Hj hb1
 clear hb1 c0 d0
 go_wp2_with fail
 refine (K2.out U1 H1.out).mono ?_
 rintro e U2 ⟨rfl,hb2⟩
 have hb2:=H1.out.trans (hb2.mono H1.out.size)
 obtain ⟨⟨-,-,c2,c3,c4⟩,-,-,d2,d3,d4⟩:=HC.out U2 hb2
 have H2:=Hj hb2
 clear hb2 c1 d1
 go_wp2_with fail
 refine (K3.out U2 H2.out).mono ?_
 rintro e U3 ⟨rfl,hb3⟩
 have H3:=Hj (HB.out.trans ((H2.out.trans (hb3.mono H2.out.size)).mono HB.out.size))
 clear hb3 c2 c3 c4 d2 d3 d4
 go_wp2_with fail
 go_ret
 exact ⟨rfl,H3.out⟩
end Go.Proofs.YtilbbemdinpjcaaGreat.P
