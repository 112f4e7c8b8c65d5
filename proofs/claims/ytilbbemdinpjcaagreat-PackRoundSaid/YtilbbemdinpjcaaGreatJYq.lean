/-
  pack: PackOne: what is got of any bytes puts just the bytes that were taken.
-/
import Derived.Test.YtilbbemdinpjcaaGreatJYn
import Derived.Test.YtilbbemdinpjcaaGreatJYo
import Derived.Test.YtilbbemdinpjcaaGreatJWTwo
import Derived.Test.YtilbbemdinpjcaaGreatJWRNew
set_option maxHeartbeats 16000000
namespace Go.Proofs.YtilbbemdinpjcaaGreat.P
set_option maxRecDepth 100000
open Go.RowKit Go.Sort
theorem same_yes (w:World) (a b:Th) (ha:ThOk w a) (hb:ThOk w b) (heq:thV a=thV b) :
  Calls Tryz.prog 23 #[.agg (thC a),.agg (thC b)] w fun e w'=>e=.returned (.bool true)∧Below w.heap.size w w':=by
 obtain ⟨b1,b2,b3,b4⟩:=box_two w (thC a) (thC b) 42 42
 obtain ⟨W0,HW⟩:∃ W0,(w.alloc (.cells (thC a) 42)).alloc (.cells (thC b) 42)=W0:=⟨_,rfl⟩
 rw [HW] at b1 b2 b3 b4
 have e1:b.ns=a.ns:=(congrArg ThV.ns heq).symm
 have e2:b.l=a.l:=(congrArg ThV.l heq).symm
 have e3:b.v.coin=a.v.coin:=(congrArg ThV.coin heq).symm
 have e4:b.v.l=a.v.l:=(congrArg ThV.vl heq).symm
 have e5:b.t=a.t:=(congrArg ThV.t heq).symm
 have e6:outV a.o=outV b.o:=congrArg ThV.o heq
 have e7:b.r=a.r:=(congrArg ThV.r heq).symm
 have e8:a.es.map enV=b.es.map enV:=congrArg ThV.es heq
 have e9:diV a.d=diV b.d:=congrArg ThV.d heq
 obtain ⟨n1,hn1⟩:∃ y,y=a.ns.length:=⟨_,rfl⟩
 obtain ⟨n2,hn2⟩:∃ y,y=a.l.length:=⟨_,rfl⟩
 obtain ⟨n3,hn3⟩:∃ y,y=a.v.l.length:=⟨_,rfl⟩
 obtain ⟨n4,hn4⟩:∃ y,y=a.t.length:=⟨_,rfl⟩
 obtain ⟨n5,hn5⟩:∃ y,y=a.es.length:=⟨_,rfl⟩
 obtain ⟨n6,hn6⟩:∃ y,y=b.es.length:=⟨_,rfl⟩
 obtain ⟨cn,hcn⟩:∃ y,y=a.v.coin:=⟨_,rfl⟩
 obtain ⟨ta,hta⟩:∃ y,y=a.tp:=⟨_,rfl⟩
 obtain ⟨tb,htb⟩:∃ y,y=b.tp:=⟨_,rfl⟩
 obtain ⟨xa,hxa⟩:∃ y,y=a.tc:=⟨_,rfl⟩
 obtain ⟨xb,hxb⟩:∃ y,y=b.tc:=⟨_,rfl⟩
 obtain ⟨aa,haa⟩:∃ y,y=a.pa:=⟨_,rfl⟩
 obtain ⟨ab,hab⟩:∃ y,y=b.pa:=⟨_,rfl⟩
 obtain ⟨ya,hya⟩:∃ y,y=a.c:=⟨_,rfl⟩
 obtain ⟨yb,hyb⟩:∃ y,y=b.c:=⟨_,rfl⟩
 obtain ⟨va,hva⟩:∃ y,y=a.v.pa:=⟨_,rfl⟩
 obtain ⟨vb,hvb⟩:∃ y,y=b.v.pa:=⟨_,rfl⟩
 obtain ⟨za,hza⟩:∃ y,y=a.v.c:=⟨_,rfl⟩
 obtain ⟨zb,hzb⟩:∃ y,y=b.v.c:=⟨_,rfl⟩
 obtain ⟨sa,hsa⟩:∃ y,y=a.pt:=⟨_,rfl⟩
 obtain ⟨sb,hsb⟩:∃ y,y=b.pt:=⟨_,rfl⟩
 obtain ⟨ua,hua⟩:∃ y,y=a.ct:=⟨_,rfl⟩
 obtain ⟨ub,hub⟩:∃ y,y=b.ct:=⟨_,rfl⟩
 obtain ⟨oa,hoa⟩:∃ y,y=otC a.o:=⟨_,rfl⟩
 obtain ⟨ob,hob⟩:∃ y,y=otC b.o:=⟨_,rfl⟩
 obtain ⟨rc,hrc⟩:∃ y,y=refC a.r:=⟨_,rfl⟩
 obtain ⟨ea,hea⟩:∃ y,y=a.pe:=⟨_,rfl⟩
 obtain ⟨eb,heb⟩:∃ y,y=b.pe:=⟨_,rfl⟩
 obtain ⟨wa,hwa⟩:∃ y,y=a.ce:=⟨_,rfl⟩
 obtain ⟨wb,hwb⟩:∃ y,y=b.ce:=⟨_,rfl⟩
 obtain ⟨da,hda⟩:∃ y,y=dfC a.d:=⟨_,rfl⟩
 obtain ⟨db,hdb⟩:∃ y,y=dfC b.d:=⟨_,rfl⟩
 have hoa1:oa.toList.length=69:=by rw [hoa,Array.length_toList,otC_size _ ha.o.ah ha.o.dh]
 have hob1:ob.toList.length=69:=by rw [hob,Array.length_toList,otC_size _ hb.o.ah hb.o.dh]
 have hrc1:rc.toList.length=33:=by rw [hrc,Array.length_toList,refC_size _ ha.r.1]
 have hda1:da.toList.length=5:=by rw [hda];rfl
 have hdb1:db.toList.length=5:=by rw [hdb];rfl
 have hQ:∀ V,(binOp .eql 37 (.agg rc) (.agg rc)).run Tryz.prog V=.ok (.bool true) V:=fun V=>by
  have:=eq_ref V a.r a.r ha.r ha.r
  rw [← hrc,show decide (a.r=a.r)=true by simp] at this
  exact this
 have ca:∀ V,Below W0.heap.size W0 V→(V.cell? ⟨w.heap.size,0,none⟩=some (.slice ta n1 xa))∧(V.cell? ⟨w.heap.size,1,none⟩=some (.slice aa n2 ya))∧(V.cell? ⟨w.heap.size,2,none⟩=some (.int .i64 cn)∧V.cell? ⟨w.heap.size,3,none⟩=some (.slice va n3 za))∧(V.cell? ⟨w.heap.size,4,none⟩=some (.slice sa n4 ua))∧(V.rangeAt w.heap.size 5 oa.toList∧V.rangeAt w.heap.size 74 rc.toList)∧(V.cell? ⟨w.heap.size,107,none⟩=some (.slice ea n5 wa))∧(V.rangeAt w.heap.size 108 da.toList):=fun V hV=>by
  have h:=thAt_of (b1.below hV b1.lt) ha.o.ah ha.o.dh ha.r.1
  rw [hn1,hn2,hn3,hn4,hn5,hcn,hta,hxa,haa,hya,hva,hza,hsa,hua,hoa,hrc,hea,hwa,hda]
  exact ⟨h.t,h.a,⟨h.c,h.v⟩,h.tot,⟨h.o,h.r⟩,h.e,h.d⟩
 have cb:∀ V,Below W0.heap.size W0 V→(V.cell? ⟨w.heap.size+1,0,none⟩=some (.slice tb n1 xb))∧(V.cell? ⟨w.heap.size+1,1,none⟩=some (.slice ab n2 yb))∧(V.cell? ⟨w.heap.size+1,2,none⟩=some (.int .i64 cn)∧V.cell? ⟨w.heap.size+1,3,none⟩=some (.slice vb n3 zb))∧(V.cell? ⟨w.heap.size+1,4,none⟩=some (.slice sb n4 ub))∧(V.rangeAt (w.heap.size+1) 5 ob.toList∧V.rangeAt (w.heap.size+1) 74 rc.toList)∧(V.cell? ⟨w.heap.size+1,107,none⟩=some (.slice eb n6 wb))∧(V.rangeAt (w.heap.size+1) 108 db.toList):=fun V hV=>by
  have h:=thAt_of (b2.below hV b2.lt) hb.o.ah hb.o.dh hb.r.1
  rw [hn1,hn2,hn3,hn4,hn6,hcn,htb,hxb,hab,hyb,hvb,hzb,hsb,hub,hob,hrc,heb,hwb,hdb,← e1,← e2,← e3,← e4,← e5,← e7]
  exact ⟨h.t,h.a,⟨h.c,h.v⟩,h.tot,⟨h.o,h.r⟩,h.e,h.d⟩
 have K0:Hid (∀ V,Below W0.heap.size W0 V→Calls Tryz.prog 50 #[.agg #[.slice ta n1 xa],.agg #[.slice tb n1 xb]] V fun e w'=>e=.returned (.bool true)∧Below V.heap.size V w'):=Hj fun V hV=>by
  have h1:=ha.t.below (b3.trans (hV.mono b3.size)) (Nat.le_refl _)
  have h2:=hb.t.below (b3.trans (hV.mono b3.size)) (Nat.le_refl _)
  rw [e1] at h2
  have h:=T.sameTerm_any V ta tb xa xb a.ns a.ns (by rw [hta];exact h1) (by rw [htb];exact h2)
  rw [sameN_self,← hn1] at h
  exact h
 have K1:Hid (∀ V,Below W0.heap.size W0 V→Calls Tryz.prog 79 #[.slice aa n2 ya,.slice ab n2 yb] V fun e w'=>e=.returned (.bool true)∧Below V.heap.size V w'):=Hj fun V hV=>by
  have h1:=ha.a.below (b3.trans (hV.mono b3.size)) (Nat.le_refl _)
  have h2:=hb.a.below (b3.trans (hV.mono b3.size)) (Nat.le_refl _)
  rw [e2] at h2
  have h:=same_any V aa ab a.l a.l ya yb (by rw [haa];exact h1) (by rw [hab];exact h2)
  rw [show decide (a.l=a.l)=true by simp,← hn2] at h
  exact h
 have K2:Hid (∀ V,Below W0.heap.size W0 V→Calls Tryz.prog 80 #[.agg #[.int .i64 cn,.slice va n3 za],.agg #[.int .i64 cn,.slice vb n3 zb]] V fun e w'=>e=.returned (.bool true)∧Below V.heap.size V w'):=Hj fun V hV=>by
  have h1:=ha.v.2.2.below (b3.trans (hV.mono b3.size)) (Nat.le_refl _)
  have h2:=hb.v.2.2.below (b3.trans (hV.mono b3.size)) (Nat.le_refl _)
  rw [e4] at h2
  have h:=sameV_any V cn cn va vb a.v.l a.v.l za zb (by rw [hva];exact h1) (by rw [hvb];exact h2)
  rw [show sameB cn cn a.v.l a.v.l=true by simp [sameB],← hn3] at h
  exact h
 have K3:Hid (∀ V,Below W0.heap.size W0 V→Calls Tryz.prog 81 #[.slice sa n4 ua,.slice sb n4 ub] V fun e w'=>e=.returned (.bool true)∧Below V.heap.size V w'):=Hj fun V hV=>by
  have h1:=ha.tot.below (b3.trans (hV.mono b3.size)) (Nat.le_refl _)
  have h2:=hb.tot.below (b3.trans (hV.mono b3.size)) (Nat.le_refl _)
  rw [e5] at h2
  have h:=sameT_any V sa sb a.t a.t ua ub (by rw [hsa];exact h1) (by rw [hsb];exact h2)
  rw [show decide (a.t=a.t)=true by simp,← hn4] at h
  exact h
 have K4:Hid (∀ V,Below W0.heap.size W0 V→Calls Tryz.prog 82 #[.agg oa,.agg ob] V fun e w'=>e=.returned (.bool true)∧Below V.heap.size V w'):=Hj fun V hV=>by
  have h1:=ha.o.below (b3.trans (hV.mono b3.size)) (Nat.le_refl _)
  have h2:=hb.o.below (b3.trans (hV.mono b3.size)) (Nat.le_refl _)
  have h:=sameOutput_yes V a.o b.o h1 h2 e6
  rw [← hoa,← hob] at h
  exact h
 have K6:Hid (∀ V,Below W0.heap.size W0 V→Calls Tryz.prog 83 #[.slice ea n5 wa,.slice eb n6 wb] V fun e w'=>e=.returned (.bool true)∧Below V.heap.size V w'):=Hj fun V hV=>by
  have h1:=ha.e.below (b3.trans (hV.mono b3.size)) (Nat.le_refl _)
  have h2:=hb.e.below (b3.trans (hV.mono b3.size)) (Nat.le_refl _)
  have h:=sameEntries_yes V ea eb a.es b.es wa wb (by rw [hea];exact h1) (by rw [heb];exact h2) e8
  rw [← hn5,← hn6] at h
  exact h
 have K7:Hid (∀ V,Below W0.heap.size W0 V→Calls Tryz.prog 84 #[.agg da,.agg db] V fun e w'=>e=.returned (.bool true)∧Below V.heap.size V w'):=Hj fun V hV=>by
  have h1:=ha.d.below (b3.trans (hV.mono b3.size)) (Nat.le_refl _)
  have h2:=hb.d.below (b3.trans (hV.mono b3.size)) (Nat.le_refl _)
  have h:=sameDiff_yes V a.d b.d h1 h2 e9
  rw [← hda,← hdb] at h
  exact h
 have HC:=Hj (Aj ca cb)
 have HB:=Hj b3
 have HI:=Hj (Aj (show (Tryz.prog.info? 35).map (·.size)=some oa.toList.length by rw [hoa1];exact info_output) (Aj (show (Tryz.prog.info? 35).map (·.size)=some ob.toList.length by rw [hob1];exact info_output) (Aj (show (Tryz.prog.info? 37).map (·.size)=some rc.toList.length by rw [hrc1];exact info_ref) (Aj (show (Tryz.prog.info? 40).map (·.size)=some da.toList.length by rw [hda1];exact info_diff) (show (Tryz.prog.info? 40).map (·.size)=some db.toList.length by rw [hdb1];exact info_diff)))))
 obtain ⟨ga,hga⟩:∃ y,y=thC a:=⟨_,rfl⟩
 obtain ⟨gb,hgb⟩:∃ y,y=thC b:=⟨_,rfl⟩
 rw [← hga,← hgb] at HW ⊢
 clear ha hb heq b1 b2 b3 b4 e1 e2 e3 e4 e5 e6 e7 e8 e9 hoa1 hob1 hrc1 hda1 hdb1 ca cb hga hgb
 clear hn1 hn2 hn3 hn4 hn5 hn6 hcn hta htb hxa hxb haa hab hya hyb hva hvb hza hzb hsa hsb hua hub hoa hob hrc hea heb hwa hwb hda hdb
 go_enter Tryz.func23,Tryz.ntmps23
 obtain ⟨p,hp⟩:∃ p,p=w.heap.size:=⟨_,rfl⟩
 obtain ⟨q,hq⟩:∃ q,q=w.heap.size+1:=⟨_,rfl⟩
 go_upto_region 1 with fail
 rw [← hq,← hp]
 rw [← hq,← hp] at HC
 clear HW hp hq
 obtain ⟨⟨x0,-⟩,y0,-⟩:=Aj (HC.out.1 W0 (Below.refl _ _)) (HC.out.2 W0 (Below.refl _ _))
 have H0:=Hj (show Below W0.heap.size W0 W0 from Below.refl _ _)
 go_wp2_with fail
 refine (K0.out W0 H0.out).mono ?_
 rintro e U1 ⟨rfl,hb⟩
 have hb:=H0.out.trans (hb.mono H0.out.size)
 clear x0 y0
 obtain ⟨⟨-,x0,-⟩,-,y0,-⟩:=Aj (HC.out.1 U1 hb) (HC.out.2 U1 hb)
 have H1:=Hj hb
 clear hb
 go_wp2_with fail
 refine (K1.out U1 H1.out).mono ?_
 rintro e U2 ⟨rfl,hb⟩
 have hb:=H1.out.trans (hb.mono H1.out.size)
 clear x0 y0
 obtain ⟨⟨-,-,⟨x0,x1⟩,-⟩,-,-,⟨y0,y1⟩,-⟩:=Aj (HC.out.1 U2 hb) (HC.out.2 U2 hb)
 have H2:=Hj hb
 clear hb
 go_wp2_with fail
 refine (K2.out U2 H2.out).mono ?_
 rintro e U3 ⟨rfl,hb⟩
 have hb:=H2.out.trans (hb.mono H2.out.size)
 clear x0 x1 y0 y1
 obtain ⟨⟨-,-,-,x0,-⟩,-,-,-,y0,-⟩:=Aj (HC.out.1 U3 hb) (HC.out.2 U3 hb)
 have H3:=Hj hb
 clear hb
 go_wp2_with fail
 refine (K3.out U3 H3.out).mono ?_
 rintro e U4 ⟨rfl,hb⟩
 have hb:=H3.out.trans (hb.mono H3.out.size)
 clear x0 y0
 obtain ⟨⟨-,-,-,-,⟨x0,-⟩,-⟩,-,-,-,-,⟨y0,-⟩,-⟩:=Aj (HC.out.1 U4 hb) (HC.out.2 U4 hb)
 have HR:=Hj (Aj x0 y0)
 clear x0 y0
 have H4:=Hj hb
 clear hb
 go_wp2_with (first
  | (refine wpList_load_midG (by rfl) 35 _ rfl p 5 rfl oa.toList _ HR.out.1 Tryz.underlying35 rfl HI.out.1 ?_)
  | (refine wpList_load_midG (by rfl) 35 _ rfl q 5 rfl ob.toList _ HR.out.2 Tryz.underlying35 rfl HI.out.2.1 ?_))
 refine (K4.out U4 H4.out).mono ?_
 rintro e U5 ⟨rfl,hb⟩
 have hb:=H4.out.trans (hb.mono H4.out.size)
 obtain ⟨⟨-,-,-,-,⟨-,z0⟩,x0,-⟩,-,-,-,-,⟨-,z1⟩,y0,-⟩:=Aj (HC.out.1 U5 hb) (HC.out.2 U5 hb)
 have HR:=Hj (Aj z0 z1)
 clear z0 z1
 have H5:=Hj hb
 clear hb
 go_wp2_with (first
  | (refine wpList_load_midG (by rfl) 37 _ rfl p 74 rfl rc.toList _ HR.out.1 Tryz.underlying37 rfl HI.out.2.2.1 ?_)
  | (refine wpList_load_midG (by rfl) 37 _ rfl q 74 rfl rc.toList _ HR.out.2 Tryz.underlying37 rfl HI.out.2.2.1 ?_))
 refine (K6.out U5 H5.out).mono ?_
 rintro e U7 ⟨rfl,hb⟩
 have hb:=H5.out.trans (hb.mono H5.out.size)
 clear x0 y0
 obtain ⟨⟨-,-,-,-,-,-,x0⟩,-,-,-,-,-,-,y0⟩:=Aj (HC.out.1 U7 hb) (HC.out.2 U7 hb)
 have HR:=Hj (Aj x0 y0)
 clear x0 y0
 have H7:=Hj hb
 clear hb
 go_wp2_with (first
  | (refine wpList_load_midG (by rfl) 40 _ rfl p 108 rfl da.toList _ HR.out.1 Tryz.underlying40 rfl HI.out.2.2.2.1 ?_)
  | (refine wpList_load_midG (by rfl) 40 _ rfl q 108 rfl db.toList _ HR.out.2 Tryz.underlying40 rfl HI.out.2.2.2.2 ?_))
 refine (K7.out U7 H7.out).mono ?_
 rintro e U8 ⟨rfl,hb⟩
 have hb:=H7.out.trans (hb.mono H7.out.size)
 have H8:=Hj hb
 clear hb
 have HF:=Hj (HB.out.trans (H8.out.mono HB.out.size))
 go_wp2_with fail
 go_ret
 exact ⟨rfl,HF.out⟩
end Go.Proofs.YtilbbemdinpjcaaGreat.P
namespace Go.Proofs.YtilbbemdinpjcaaGreat.P
set_option maxRecDepth 100000
open Go.RowKit Go.Sort
structure PutIn (x:Th):Prop where
 ti:∀ y ∈ x.ns,NdIn y
 tc:x.ns.length≤x.tc
 oi:∀ y ∈ x.o.ns,NdIn y
 ei:∀ e ∈ x.es,∀ y ∈ e.o.ns,NdIn y
 si:∀ e ∈ x.d.s,∀ y ∈ e.o.ns,NdIn y
 mi:∀ e ∈ x.d.m,∀ y ∈ e.o.ns,NdIn y
 room:DfRoom x.d
theorem ThIn.put {V:World} {B:Nat} {x:Th} (h:ThIn V B x):PutIn x :=
 ⟨h.ti,(h.t.tat (by have:=h.tl;omega) (fun y hy=>by have:=(h.ti y hy).kids.2;omega)).2.2,h.o.2.2.2.2.2.1,fun e he=>(h.e.2 e he).1.2.2.2.2.2.2.1,fun e he=>(h.d.1.2 e he).1.2.2.2.2.2.2.1,fun e he=>(h.d.2.1.2 e he).1.2.2.2.2.2.2.1,h.d.room⟩
theorem put_front (w:World) {B g:Nat} {v:Value} {st:Option (List UInt8)} (x:Th) (hT0:Stays g w v fun W=>ThOk W x) (h:WrO W.WSt w B g v st) :
  ∃ W0,w.alloc (.cells (thC x) 42)=W0∧Stays g W0 v (fun W=>ThOk W x)∧WrO W.WSt W0 B g v st∧ThAt W0 w.heap.size x∧Hid (Lk g w v W0 v):=by
 have hb:Below w.heap.size w (w.alloc (.cells (thC x) 42)):=(Below.refl _ _).alloc (Nat.le_refl _) _
 have hT:=hT0.on (Lk.of_below hb)
 exact ⟨_,rfl,hT,h.belowW hb,thAt_of (Lies.new w (thC x) 42) hT.now.o.ah hT.now.o.dh hT.now.r.1,Hj (Lk.of_below hb)⟩
theorem put0_any (w:World) {B g:Nat} {v:Value} {st:Option (List UInt8)} (x:Th) (hT0:Stays g w v fun W=>ThOk W x) (hi:PutIn x) (h:WrO W.WSt w B g v st) (hx:sz st≤2000) (hc:cntTh x 0≤2000) :
  Calls Tryz.prog 37 #[.pointer (some ⟨g,0,none⟩),.agg (thC x),.int .i64 0] w (PutR W.WSt w B g v (putS st x 0)):=by
 obtain ⟨W0,HW,hT,hw,ht,HL⟩:=put_front w x hT0 h
 have hcl:=putTerm_any W0 x.tp x.tc x.ns (hT.imp fun W k=>k.t) hi.tc hi.ti hw (by have:T.cost x.ns≤2000:=hc;omega)
 obtain ⟨s3,hs3⟩:∃ s,s=putS st x 0:=⟨_,rfl⟩
 rw [show (if T.rightB x.ns=true then termS st x.ns else none)=s3 from hs3.symm] at hcl
 obtain ⟨ta,hta⟩:∃ y,y=x.tp:=⟨_,rfl⟩
 obtain ⟨n,hn⟩:∃ y,y=x.ns.length:=⟨_,rfl⟩
 obtain ⟨xa,hxa⟩:∃ y,y=x.tc:=⟨_,rfl⟩
 rw [← hta,← hn,← hxa] at hcl
 have c0:W0.cell? ⟨w.heap.size,0,none⟩=some (.slice ta n xa):=by rw [hta,hn,hxa];exact ht.t
 have HC:=Hj hcl
 obtain ⟨tc,htc⟩:∃ t,t=thC x:=⟨_,rfl⟩
 rw [← htc] at HW ⊢
 rw [← hs3]
 clear hT0 hi h hx hc hT hw ht hcl hs3 hta hn hxa htc
 go_enter Tryz.func37,Tryz.ntmps37
 obtain ⟨p,hp⟩:∃ p,p=w.heap.size:=⟨_,rfl⟩
 go_upto_region 1 with fail
 rw [← hp]
 rw [← hp] at c0
 clear HW hp
 go_wp2_with fail
 refine HC.out.mono ?_
 rintro e W2 hr2
 obtain ⟨rfl,hr2⟩:=hr2
 have HE:=Hj hr2
 clear hr2 HC
 clear c0
 go_wp2_with fail
 go_end0
 exact PutR.on HL.out ⟨rfl,HE.out⟩
theorem put1_any (w:World) {B g:Nat} {v:Value} {st:Option (List UInt8)} (x:Th) (hT0:Stays g w v fun W=>ThOk W x) (hi:PutIn x) (h:WrO W.WSt w B g v st) (hx:sz st≤2000) (hc:cntTh x 1≤2000) :
  Calls Tryz.prog 37 #[.pointer (some ⟨g,0,none⟩),.agg (thC x),.int .i64 1] w (PutR W.WSt w B g v (putS st x 1)):=by
 obtain ⟨W0,HW,hT,hw,ht,HL⟩:=put_front w x hT0 h
 have hcl:=putAssets_any W0 x.pa x.c x.l (hT.imp fun W k=>k.a) hw (by have:cntA x.l≤2000:=hc;omega)
 obtain ⟨s3,hs3⟩:∃ s,s=putS st x 1:=⟨_,rfl⟩
 rw [show (if mintB x.l=true then asListS st x.l else none)=s3 from hs3.symm] at hcl
 obtain ⟨ta,hta⟩:∃ y,y=x.pa:=⟨_,rfl⟩
 obtain ⟨n,hn⟩:∃ y,y=x.l.length:=⟨_,rfl⟩
 obtain ⟨xa,hxa⟩:∃ y,y=x.c:=⟨_,rfl⟩
 rw [← hta,← hn,← hxa] at hcl
 have c0:W0.cell? ⟨w.heap.size,1,none⟩=some (.slice ta n xa):=by rw [hta,hn,hxa];exact ht.a
 have HC:=Hj hcl
 obtain ⟨tc,htc⟩:∃ t,t=thC x:=⟨_,rfl⟩
 rw [← htc] at HW ⊢
 rw [← hs3]
 clear hT0 hi h hx hc hT hw ht hcl hs3 hta hn hxa htc
 go_enter Tryz.func37,Tryz.ntmps37
 obtain ⟨p,hp⟩:∃ p,p=w.heap.size:=⟨_,rfl⟩
 go_upto_region 1 with fail
 rw [← hp]
 rw [← hp] at c0
 clear HW hp
 go_wp2_with fail
 refine HC.out.mono ?_
 rintro e W2 hr2
 obtain ⟨rfl,hr2⟩:=hr2
 have HE:=Hj hr2
 clear hr2 HC
 clear c0
 go_wp2_with fail
 go_end0
 exact PutR.on HL.out ⟨rfl,HE.out⟩
theorem put2_any (w:World) {B g:Nat} {v:Value} {st:Option (List UInt8)} (x:Th) (hT0:Stays g w v fun W=>ThOk W x) (hi:PutIn x) (h:WrO W.WSt w B g v st) (hx:sz st≤2000) (hc:cntTh x 2≤2000) :
  Calls Tryz.prog 37 #[.pointer (some ⟨g,0,none⟩),.agg (thC x),.int .i64 2] w (PutR W.WSt w B g v (putS st x 2)):=by
 obtain ⟨W0,HW,hT,hw,ht,HL⟩:=put_front w x hT0 h
 have hcl:=putValue_any W0 x.v (hT.imp fun W k=>k.v.2.2) hw (by have:cntV x.v≤2000:=hc;omega)
 obtain ⟨s3,hs3⟩:∃ s,s=putS st x 2:=⟨_,rfl⟩
 rw [show (if rightV x.v=true then valS st x.v else none)=s3 from hs3.symm] at hcl
 obtain ⟨y,hy⟩:∃ y,y=x.v.coin:=⟨_,rfl⟩
 obtain ⟨ta,hta⟩:∃ y,y=x.v.pa:=⟨_,rfl⟩
 obtain ⟨n,hn⟩:∃ y,y=x.v.l.length:=⟨_,rfl⟩
 obtain ⟨xa,hxa⟩:∃ y,y=x.v.c:=⟨_,rfl⟩
 unfold vaC at hcl
 rw [← hy,← hta,← hn,← hxa] at hcl
 have c0:W0.cell? ⟨w.heap.size,2,none⟩=some (.int .i64 y):=by rw [hy];exact ht.c
 have c1:W0.cell? ⟨w.heap.size,3,none⟩=some (.slice ta n xa):=by rw [hta,hn,hxa];exact ht.v
 have HC:=Hj hcl
 obtain ⟨tc,htc⟩:∃ t,t=thC x:=⟨_,rfl⟩
 rw [← htc] at HW ⊢
 rw [← hs3]
 clear hT0 hi h hx hc hT hw ht hcl hs3 hy hta hn hxa htc
 go_enter Tryz.func37,Tryz.ntmps37
 obtain ⟨p,hp⟩:∃ p,p=w.heap.size:=⟨_,rfl⟩
 go_upto_region 1 with fail
 rw [← hp]
 rw [← hp] at c0
 rw [← hp] at c1
 clear HW hp
 go_wp2_with fail
 refine HC.out.mono ?_
 rintro e W2 hr2
 obtain ⟨rfl,hr2⟩:=hr2
 have HE:=Hj hr2
 clear hr2 HC
 clear c0 c1
 go_wp2_with fail
 go_end0
 exact PutR.on HL.out ⟨rfl,HE.out⟩
theorem put3_any (w:World) {B g:Nat} {v:Value} {st:Option (List UInt8)} (x:Th) (hT0:Stays g w v fun W=>ThOk W x) (hi:PutIn x) (h:WrO W.WSt w B g v st) (hx:sz st≤2000) (hc:cntTh x 3≤2000) :
  Calls Tryz.prog 37 #[.pointer (some ⟨g,0,none⟩),.agg (thC x),.int .i64 3] w (PutR W.WSt w B g v (putS st x 3)):=by
 obtain ⟨W0,HW,hT,hw,ht,HL⟩:=put_front w x hT0 h
 have hcl:=putTotals_any W0 x.pt x.ct x.t (hT.imp fun W k=>k.tot) hw (by have:cntT x.t≤2000:=hc;omega)
 obtain ⟨s3,hs3⟩:∃ s,s=putS st x 3:=⟨_,rfl⟩
 rw [show (if wellT nzT x.t=true then totS st x.t else none)=s3 from hs3.symm] at hcl
 obtain ⟨ta,hta⟩:∃ y,y=x.pt:=⟨_,rfl⟩
 obtain ⟨n,hn⟩:∃ y,y=x.t.length:=⟨_,rfl⟩
 obtain ⟨xa,hxa⟩:∃ y,y=x.ct:=⟨_,rfl⟩
 rw [← hta,← hn,← hxa] at hcl
 have c0:W0.cell? ⟨w.heap.size,4,none⟩=some (.slice ta n xa):=by rw [hta,hn,hxa];exact ht.tot
 have HC:=Hj hcl
 obtain ⟨tc,htc⟩:∃ t,t=thC x:=⟨_,rfl⟩
 rw [← htc] at HW ⊢
 rw [← hs3]
 clear hT0 hi h hx hc hT hw ht hcl hs3 hta hn hxa htc
 go_enter Tryz.func37,Tryz.ntmps37
 obtain ⟨p,hp⟩:∃ p,p=w.heap.size:=⟨_,rfl⟩
 go_upto_region 1 with fail
 rw [← hp]
 rw [← hp] at c0
 clear HW hp
 go_wp2_with fail
 refine HC.out.mono ?_
 rintro e W2 hr2
 obtain ⟨rfl,hr2⟩:=hr2
 have HE:=Hj hr2
 clear hr2 HC
 clear c0
 go_wp2_with fail
 go_end0
 exact PutR.on HL.out ⟨rfl,HE.out⟩
theorem put4_any (w:World) {B g:Nat} {v:Value} {st:Option (List UInt8)} (x:Th) (hT0:Stays g w v fun W=>ThOk W x) (hi:PutIn x) (h:WrO W.WSt w B g v st) (hx:sz st≤2000) (hc:cntTh x 4≤2000) :
  Calls Tryz.prog 37 #[.pointer (some ⟨g,0,none⟩),.agg (thC x),.int .i64 4] w (PutR W.WSt w B g v (putS st x 4)):=by
 obtain ⟨W0,HW,hT,hw,ht,HL⟩:=put_front w x hT0 h
 have hcl:=putOutput_any W0 x.o (hT.imp fun W k=>k.o) hi.oi hw (by have:cntO x.o≤2000:=hc;omega)
 obtain ⟨s3,hs3⟩:∃ s,s=putS st x 4:=⟨_,rfl⟩
 rw [show (if rightOB x.o=true then outS st x.o else none)=s3 from hs3.symm] at hcl
 obtain ⟨cs,hcs⟩:∃ y,y=otC x.o:=⟨_,rfl⟩
 rw [← hcs] at hcl
 have HR:=Hj (Aj (show W0.rangeAt w.heap.size 5 cs.toList by rw [hcs];exact ht.o) (show (Tryz.prog.info? 35).map (·.size)=some cs.toList.length from by rw [hcs,Array.length_toList,otC_size _ hT.now.o.ah hT.now.o.dh];exact info_output))
 have HC:=Hj hcl
 obtain ⟨tc,htc⟩:∃ t,t=thC x:=⟨_,rfl⟩
 rw [← htc] at HW ⊢
 rw [← hs3]
 clear hT0 hi h hx hc hT hw ht hcl hs3 hcs htc
 go_enter Tryz.func37,Tryz.ntmps37
 obtain ⟨p,hp⟩:∃ p,p=w.heap.size:=⟨_,rfl⟩
 go_upto_region 1 with fail
 rw [← hp]
 rw [← hp] at HR
 clear HW hp
 go_wp2_with (refine wpList_load_mid rfl 35 _ rfl p 5 rfl cs.toList _ HR.out.1 Tryz.underlying35 rfl HR.out.2 ?_)
 refine HC.out.mono ?_
 rintro e W2 hr2
 obtain ⟨rfl,hr2⟩:=hr2
 have HE:=Hj hr2
 clear hr2 HC
 go_wp2_with fail
 go_end0
 exact PutR.on HL.out ⟨rfl,HE.out⟩
theorem put5_any (w:World) {B g:Nat} {v:Value} {st:Option (List UInt8)} (x:Th) (hT0:Stays g w v fun W=>ThOk W x) (hi:PutIn x) (h:WrO W.WSt w B g v st) (hx:sz st≤2000) (hc:cntTh x 5≤2000) :
  Calls Tryz.prog 37 #[.pointer (some ⟨g,0,none⟩),.agg (thC x),.int .i64 5] w (PutR W.WSt w B g v (putS st x 5)):=by
 obtain ⟨W0,HW,hT,hw,ht,HL⟩:=put_front w x hT0 h
 have hcl:=putRef_any W0 x.r hT.now.r.1 (hT.imp fun W k=>trivial) hw (by omega)
 obtain ⟨s3,hs3⟩:∃ s,s=putS st x 5:=⟨_,rfl⟩
 rw [show (if rightRefB x.r=true then refS st x.r else none)=s3 from hs3.symm] at hcl
 obtain ⟨cs,hcs⟩:∃ y,y=refC x.r:=⟨_,rfl⟩
 rw [← hcs] at hcl
 have HR:=Hj (Aj (show W0.rangeAt w.heap.size 74 cs.toList by rw [hcs];exact ht.r) (show (Tryz.prog.info? 37).map (·.size)=some cs.toList.length from by rw [hcs,Array.length_toList,refC_size _ hT.now.r.1];exact info_ref))
 have HC:=Hj hcl
 obtain ⟨tc,htc⟩:∃ t,t=thC x:=⟨_,rfl⟩
 rw [← htc] at HW ⊢
 rw [← hs3]
 clear hT0 hi h hx hc hT hw ht hcl hs3 hcs htc
 go_enter Tryz.func37,Tryz.ntmps37
 obtain ⟨p,hp⟩:∃ p,p=w.heap.size:=⟨_,rfl⟩
 go_upto_region 1 with fail
 rw [← hp]
 rw [← hp] at HR
 clear HW hp
 go_wp2_with (refine wpList_load_mid rfl 37 _ rfl p 74 rfl cs.toList _ HR.out.1 Tryz.underlying37 rfl HR.out.2 ?_)
 refine HC.out.mono ?_
 rintro e W2 hr2
 obtain ⟨rfl,hr2⟩:=hr2
 have HE:=Hj hr2
 clear hr2 HC
 go_wp2_with fail
 go_end0
 exact PutR.on HL.out ⟨rfl,HE.out⟩
theorem put6_any (w:World) {B g:Nat} {v:Value} {st:Option (List UInt8)} (x:Th) (hT0:Stays g w v fun W=>ThOk W x) (hi:PutIn x) (h:WrO W.WSt w B g v st) (hx:sz st≤2000) (hc:cntTh x 6≤2000) :
  Calls Tryz.prog 37 #[.pointer (some ⟨g,0,none⟩),.agg (thC x),.int .i64 6] w (PutR W.WSt w B g v (putS st x 6)):=by
 obtain ⟨W0,HW,hT,hw,ht,HL⟩:=put_front w x hT0 h
 have hcl:=putEntries_any W0 x.pe x.ce x.es (hT.imp fun W k=>k.e) hi.ei hw (by have:cntE x.es≤2000:=hc;omega)
 obtain ⟨s3,hs3⟩:∃ s,s=putS st x 6:=⟨_,rfl⟩
 rw [show (if rightEB x.es=true then ensS st x.es else none)=s3 from hs3.symm] at hcl
 obtain ⟨ta,hta⟩:∃ y,y=x.pe:=⟨_,rfl⟩
 obtain ⟨n,hn⟩:∃ y,y=x.es.length:=⟨_,rfl⟩
 obtain ⟨xa,hxa⟩:∃ y,y=x.ce:=⟨_,rfl⟩
 rw [← hta,← hn,← hxa] at hcl
 have c0:W0.cell? ⟨w.heap.size,107,none⟩=some (.slice ta n xa):=by rw [hta,hn,hxa];exact ht.e
 have HC:=Hj hcl
 obtain ⟨tc,htc⟩:∃ t,t=thC x:=⟨_,rfl⟩
 rw [← htc] at HW ⊢
 rw [← hs3]
 clear hT0 hi h hx hc hT hw ht hcl hs3 hta hn hxa htc
 go_enter Tryz.func37,Tryz.ntmps37
 obtain ⟨p,hp⟩:∃ p,p=w.heap.size:=⟨_,rfl⟩
 go_upto_region 1 with fail
 rw [← hp]
 rw [← hp] at c0
 clear HW hp
 go_wp2_with fail
 refine HC.out.mono ?_
 rintro e W2 hr2
 obtain ⟨rfl,hr2⟩:=hr2
 have HE:=Hj hr2
 clear hr2 HC
 clear c0
 go_wp2_with fail
 go_end0
 exact PutR.on HL.out ⟨rfl,HE.out⟩
theorem put7_any (w:World) {B g:Nat} {v:Value} {st:Option (List UInt8)} (x:Th) (hT0:Stays g w v fun W=>ThOk W x) (hi:PutIn x) (h:WrO W.WSt w B g v st) (hx:sz st≤2000) (hc:cntTh x 7≤2000) :
  Calls Tryz.prog 37 #[.pointer (some ⟨g,0,none⟩),.agg (thC x),.int .i64 7] w (PutR W.WSt w B g v (putS st x 7)):=by
 obtain ⟨W0,HW,hT,hw,ht,HL⟩:=put_front w x hT0 h
 have hcl:=putDiff_any W0 x.d hi.room (hT.imp fun W k=>k.d) hi.si hi.mi hw (by have:cntE x.d.s+cntE x.d.m+x.d.l.length≤2000:=hc;omega)
 obtain ⟨s3,hs3⟩:∃ s,s=putS st x 7:=⟨_,rfl⟩
 rw [show (if rightDB x.d=true then diffS st x.d else none)=s3 from hs3.symm] at hcl
 obtain ⟨cs,hcs⟩:∃ y,y=dfC x.d:=⟨_,rfl⟩
 rw [← hcs] at hcl
 have HR:=Hj (Aj (show W0.rangeAt w.heap.size 108 cs.toList by rw [hcs];exact ht.d) (show (Tryz.prog.info? 40).map (·.size)=some cs.toList.length from by rw [hcs,Array.length_toList];exact info_diff))
 have HC:=Hj hcl
 obtain ⟨tc,htc⟩:∃ t,t=thC x:=⟨_,rfl⟩
 rw [← htc] at HW ⊢
 rw [← hs3]
 clear hT0 hi h hx hc hT hw ht hcl hs3 hcs htc
 go_enter Tryz.func37,Tryz.ntmps37
 obtain ⟨p,hp⟩:∃ p,p=w.heap.size:=⟨_,rfl⟩
 go_upto_region 1 with fail
 rw [← hp]
 rw [← hp] at HR
 clear HW hp
 go_wp2_with (refine wpList_load_mid rfl 40 _ rfl p 108 rfl cs.toList _ HR.out.1 Tryz.underlying40 rfl HR.out.2 ?_)
 refine HC.out.mono ?_
 rintro e W2 hr2
 obtain ⟨rfl,hr2⟩:=hr2
 have HE:=Hj hr2
 clear hr2 HC
 go_wp2_with fail
 go_end0
 exact PutR.on HL.out ⟨rfl,HE.out⟩
end Go.Proofs.YtilbbemdinpjcaaGreat.P
namespace Go.Proofs.YtilbbemdinpjcaaGreat.P
set_option maxRecDepth 100000
open Go.RowKit Go.Sort
theorem getTh_any (w:World) (g k:Nat) (xs:List UInt8) (c:Nat) (st0:Option Nat) (h:W.RSt w g k xs c st0) (hx:xs.length < 1000000) (n:Nat) (hn:n < 8) :
  Calls Tryz.prog 26 #[.pointer (some ⟨g,0,none⟩),.int .i64 (n:Int)] w (GetTh g k xs c w (getTh xs st0 n)):=by
 obtain rfl | rfl | rfl | rfl | rfl | rfl | rfl | rfl:n=0 ∨ n=1 ∨ n=2 ∨ n=3 ∨ n=4 ∨ n=5 ∨ n=6 ∨ n=7:=by omega
 ·
  exact get0_any w g k xs c st0 h hx
 ·
  exact get1_any w g k xs c st0 h hx
 ·
  exact get2_any w g k xs c st0 h hx
 ·
  exact get3_any w g k xs c st0 h hx
 ·
  exact get4_any w g k xs c st0 h hx
 ·
  exact get5_any w g k xs c st0 h hx
 ·
  exact get6_any w g k xs c st0 h hx
 ·
  exact get7_any w g k xs c st0 h hx
theorem putTh_any (w:World) {B g:Nat} {v:Value} {st:Option (List UInt8)} (x:Th) (hT:Stays g w v fun W=>ThOk W x) (hi:PutIn x) (h:WrO W.WSt w B g v st) (hx:sz st≤2000) (n:Nat) (hn:n < 8) (hc:cntTh x n≤2000) :
  Calls Tryz.prog 37 #[.pointer (some ⟨g,0,none⟩),.agg (thC x),.int .i64 (n:Int)] w (PutR W.WSt w B g v (putS st x n)):=by
 obtain rfl | rfl | rfl | rfl | rfl | rfl | rfl | rfl:n=0 ∨ n=1 ∨ n=2 ∨ n=3 ∨ n=4 ∨ n=5 ∨ n=6 ∨ n=7:=by omega
 ·
  exact put0_any w x hT hi h hx hc
 ·
  exact put1_any w x hT hi h hx hc
 ·
  exact put2_any w x hT hi h hx hc
 ·
  exact put3_any w x hT hi h hx hc
 ·
  exact put4_any w x hT hi h hx hc
 ·
  exact put5_any w x hT hi h hx hc
 ·
  exact put6_any w x hT hi h hx hc
 ·
  exact put7_any w x hT hi h hx hc
attribute [-go_sem] Instr.build
end Go.Proofs.YtilbbemdinpjcaaGreat.P
