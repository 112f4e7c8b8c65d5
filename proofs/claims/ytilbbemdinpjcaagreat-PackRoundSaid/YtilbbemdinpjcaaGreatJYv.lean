/-
  pack: totals, diffs, things as they come in; what was put of a thing is got.
-/
import Derived.Test.YtilbbemdinpjcaaGreatJYt
import Derived.Test.YtilbbemdinpjcaaGreatJPo
import Derived.Test.YtilbbemdinpjcaaGreatJQe
set_option maxHeartbeats 16000000
namespace Go.Proofs.YtilbbemdinpjcaaGreat.P
set_option maxRecDepth 100000
open Go.RowKit Go.Sort
structure ThRaw (W:World) (x:Th):Prop where
 t:T.TRaw W x.tp x.ns
 txt:T.TxtRaw x.ns
 len:x.ns.length≤140737488355328
 kids:∀ y ∈ x.ns,y.kids≤9223372036854775807
 a:Row W x.pa x.l
 v:VaOk W x.v
 tot:RowT W x.pt x.t
 o:OtRaw W x.o
 r:RfOk x.r
 e:RowER W x.pe x.es
 s:RowER W x.d.ps x.d.s
 m:RowER W x.d.pm x.d.m
 fe:I64 x.d.fe
 fo:I64 x.d.fo
 l:RowT W x.d.pt x.d.l
 ll:x.d.l.length≤140737488355328
 put:PutIn x
theorem ThRaw.below {W W':World} {x:Th} (h:ThRaw W x) (hb:Below W.heap.size W W'):ThRaw W' x :=
 ⟨h.t.below hb (Nat.le_refl _),h.txt,h.len,h.kids,h.a.below hb (Nat.le_refl _),⟨h.v.1,h.v.2.1,h.v.2.2.below hb (Nat.le_refl _)⟩,h.tot.below hb (Nat.le_refl _),h.o.below hb (Nat.le_refl _),h.r,h.e.below hb (Nat.le_refl _),h.s.below hb (Nat.le_refl _),h.m.below hb (Nat.le_refl _),h.fe,h.fo,h.l.below hb (Nat.le_refl _),h.ll,h.put⟩
def cntAll (x:Th):Nat:=T.cost x.ns+cntA x.l+(1+cntA x.v.l)+cntT x.t+cntO x.o+cntE x.es+cntD x.d.s x.d.m x.d.l.length
theorem ThRaw.ok {W:World} {x:Th} (h:ThRaw W x) (hc:cntAll x≤2000):ThOk W x:=by
 unfold cntAll cntD at hc
 exact ⟨⟨h.t,by have:=T.cost_len x.ns;omega,h.kids⟩,h.a,h.v,h.tot,h.o.small (by omega),h.r,h.e.small (by omega),⟨h.s.small (by omega),h.m.small (by omega),h.fe,h.fo,h.l⟩⟩
theorem cntTh_le {x:Th} (hc:cntAll x≤2000) (n:Nat):cntTh x n≤2000:=by
 unfold cntAll cntD at hc
 unfold cntTh
 split
 ·
  omega
 ·
  omega
 ·
  show 1+cntA x.v.l≤2000
  omega
 ·
  omega
 ·
  omega
 ·
  omega
 ·
  omega
 ·
  omega
def GreatR (c:Nat) (e:Ending):Prop:=∃ r:Bool,e=.returned (.bool r)∧(r=false→c≤2000)
theorem greatTh_any (w:World) (x:Th) (h:ThRaw w x) :
  Calls Tryz.prog 9 #[.agg (thC x)] w fun e w'=>GreatR (cntAll x) e∧Below w.heap.size w w':=by
 have hL:=Lies.new w (thC x) 42
 have hb0:Below w.heap.size w (w.alloc (.cells (thC x) 42)):=(Below.refl _ _).alloc (Nat.le_refl _) _
 obtain ⟨W0,HW⟩:∃ W0,w.alloc (.cells (thC x) 42)=W0:=⟨_,rfl⟩
 rw [HW] at hL hb0
 have hx:=h.below hb0
 obtain ⟨ca,hca⟩:∃ n,n=cntAll x:=⟨_,rfl⟩
 obtain ⟨n1,hn1⟩:∃ y,y=x.ns.length:=⟨_,rfl⟩
 obtain ⟨n2,hn2⟩:∃ y,y=x.l.length:=⟨_,rfl⟩
 obtain ⟨n3,hn3⟩:∃ y,y=x.v.l.length:=⟨_,rfl⟩
 obtain ⟨n4,hn4⟩:∃ y,y=x.t.length:=⟨_,rfl⟩
 obtain ⟨n5,hn5⟩:∃ y,y=x.es.length:=⟨_,rfl⟩
 obtain ⟨cn,hcn⟩:∃ y,y=x.v.coin:=⟨_,rfl⟩
 obtain ⟨ta,hta⟩:∃ y,y=x.tp:=⟨_,rfl⟩
 obtain ⟨xa,hxa⟩:∃ y,y=x.tc:=⟨_,rfl⟩
 obtain ⟨aa,haa⟩:∃ y,y=x.pa:=⟨_,rfl⟩
 obtain ⟨ya,hya⟩:∃ y,y=x.c:=⟨_,rfl⟩
 obtain ⟨va,hva⟩:∃ y,y=x.v.pa:=⟨_,rfl⟩
 obtain ⟨za,hza⟩:∃ y,y=x.v.c:=⟨_,rfl⟩
 obtain ⟨sa,hsa⟩:∃ y,y=x.pt:=⟨_,rfl⟩
 obtain ⟨ua,hua⟩:∃ y,y=x.ct:=⟨_,rfl⟩
 obtain ⟨oa,hoa⟩:∃ y,y=otC x.o:=⟨_,rfl⟩
 obtain ⟨ea,hea⟩:∃ y,y=x.pe:=⟨_,rfl⟩
 obtain ⟨wa,hwa⟩:∃ y,y=x.ce:=⟨_,rfl⟩
 obtain ⟨da,hda⟩:∃ y,y=dfC x.d:=⟨_,rfl⟩
 obtain ⟨m1,hm1⟩:∃ y,y=T.cost x.ns:=⟨_,rfl⟩
 obtain ⟨m2,hm2⟩:∃ y,y=cntA x.l:=⟨_,rfl⟩
 obtain ⟨m3,hm3⟩:∃ y,y=1+cntA x.v.l:=⟨_,rfl⟩
 obtain ⟨m4,hm4⟩:∃ y,y=cntT x.t:=⟨_,rfl⟩
 obtain ⟨m5,hm5⟩:∃ y,y=cntO x.o:=⟨_,rfl⟩
 obtain ⟨m6,hm6⟩:∃ y,y=cntE x.es:=⟨_,rfl⟩
 obtain ⟨m7,hm7⟩:∃ y,y=cntD x.d.s x.d.m x.d.l.length:=⟨_,rfl⟩
 have hsum:ca=m1+m2+m3+m4+m5+m6+m7:=by rw [hca,hm1,hm2,hm3,hm4,hm5,hm6,hm7];rfl
 have hoa1:oa.toList.length=69:=by rw [hoa,Array.length_toList,otC_size _ h.o.ah h.o.dh]
 have hda1:da.toList.length=5:=by rw [hda];rfl
 have HC:Hid (∀ V,Below W0.heap.size W0 V→V.cell? ⟨w.heap.size,0,none⟩=some (.slice ta n1 xa)∧V.cell? ⟨w.heap.size,1,none⟩=some (.slice aa n2 ya)∧(V.cell? ⟨w.heap.size,2,none⟩=some (.int .i64 cn)∧V.cell? ⟨w.heap.size,3,none⟩=some (.slice va n3 za))∧V.cell? ⟨w.heap.size,4,none⟩=some (.slice sa n4 ua)∧V.rangeAt w.heap.size 5 oa.toList∧V.cell? ⟨w.heap.size,107,none⟩=some (.slice ea n5 wa)∧V.rangeAt w.heap.size 108 da.toList):=Hj fun V hV=>by
  have k:=thAt_of (hL.below hV hL.lt) h.o.ah h.o.dh h.r.1
  rw [hta,hn1,hxa,haa,hn2,hya,hcn,hva,hn3,hza,hsa,hn4,hua,hoa,hea,hn5,hwa,hda]
  exact ⟨k.t,k.a,⟨k.c,k.v⟩,k.tot,k.o,k.e,k.d⟩
 have K0:Hid (∀ V,Below W0.heap.size W0 V→Calls Tryz.prog 41 #[.agg #[.slice ta n1 xa],.int .i64 2000] V fun e w'=>∃ v,e=.returned v∧∃ q:Nat,v=.int .i64 (q:Int)∧(q:Int)≤1000000000000000∧((q:Int)≤2000→q=m1)∧Below V.heap.size V w'):=Hj fun V hV=>by
  have hv:=hx.below hV
  have k:Calls Tryz.prog 41 #[.agg #[.slice ta n1 xa],.int .i64 2000] V fun e w'=>CntRes m1 2000 1000000000000000 e∧Below V.heap.size V w':=by
   rw [hta,hn1,hxa,hm1]
   have k:=T.termOfL_any 2000 (by decide) V x.tp x.tc x.ns (hv.t) hv.txt hv.len
   exact k.mono fun e w' q=>by obtain ⟨r,q1,q2,q3,q4⟩:=q;exact ⟨⟨r,q1,by omega,fun q=>q2 (by omega)⟩,q4⟩
  exact k.mono fun e w' q=>by obtain ⟨⟨r,q1,q2,q3⟩,q4⟩:=q;exact ⟨_,q1,r,rfl,q2,q3,q4⟩
 have K1:Hid (∀ V,Below W0.heap.size W0 V→Calls Tryz.prog 42 #[.slice aa n2 ya,.int .i64 2000] V fun e w'=>∃ v,e=.returned v∧∃ q:Nat,v=.int .i64 (q:Int)∧(q:Int)≤600000000000000000∧((q:Int)≤2000→q=m2)∧Below V.heap.size V w'):=Hj fun V hV=>by
  have hv:=hx.below hV
  have k:Calls Tryz.prog 42 #[.slice aa n2 ya,.int .i64 2000] V fun e w'=>CntRes m2 2000 600000000000000000 e∧Below V.heap.size V w':=by
   rw [haa,hn2,hya,hm2]
   exact assetsX_any V x.pa x.l x.c 2000 hv.a (by decide)
  exact k.mono fun e w' q=>by obtain ⟨⟨r,q1,q2,q3⟩,q4⟩:=q;exact ⟨_,q1,r,rfl,q2,q3,q4⟩
 have K2:Hid (∀ V,Below W0.heap.size W0 V→Calls Tryz.prog 43 #[.agg #[.int .i64 cn,.slice va n3 za],.int .i64 2000] V fun e w'=>∃ v,e=.returned v∧∃ q:Nat,v=.int .i64 (q:Int)∧(q:Int)≤600000000000000001∧((q:Int)≤2000→q=m3)∧Below V.heap.size V w'):=Hj fun V hV=>by
  have hv:=hx.below hV
  have k:Calls Tryz.prog 43 #[.agg #[.int .i64 cn,.slice va n3 za],.int .i64 2000] V fun e w'=>CntRes m3 2000 600000000000000001 e∧Below V.heap.size V w':=by
   rw [hcn,hva,hn3,hza,hm3]
   exact valueX_any V x.v.coin x.v.pa x.v.l x.v.c 2000 hv.v.2.2 (by decide)
  exact k.mono fun e w' q=>by obtain ⟨⟨r,q1,q2,q3⟩,q4⟩:=q;exact ⟨_,q1,r,rfl,q2,q3,q4⟩
 have K3:Hid (∀ V,Below W0.heap.size W0 V→Calls Tryz.prog 44 #[.slice sa n4 ua,.int .i64 2000] V fun e w'=>∃ v,e=.returned v∧∃ q:Nat,v=.int .i64 (q:Int)∧(q:Int)≤600000000000000000∧((q:Int)≤2000→q=m4)∧Below V.heap.size V w'):=Hj fun V hV=>by
  have hv:=hx.below hV
  have k:Calls Tryz.prog 44 #[.slice sa n4 ua,.int .i64 2000] V fun e w'=>CntRes m4 2000 600000000000000000 e∧Below V.heap.size V w':=by
   rw [hsa,hn4,hua,hm4]
   exact totalsX_any V x.pt x.t x.ct 2000 hv.tot (by decide)
  exact k.mono fun e w' q=>by obtain ⟨⟨r,q1,q2,q3⟩,q4⟩:=q;exact ⟨_,q1,r,rfl,q2,q3,q4⟩
 have K4:Hid (∀ V,Below W0.heap.size W0 V→Calls Tryz.prog 45 #[.agg oa,.int .i64 2000] V fun e w'=>∃ v,e=.returned v∧∃ q:Nat,v=.int .i64 (q:Int)∧(q:Int)≤700000000000000001∧((q:Int)≤2000→q=m5)∧Below V.heap.size V w'):=Hj fun V hV=>by
  have hv:=hx.below hV
  have k:Calls Tryz.prog 45 #[.agg oa,.int .i64 2000] V fun e w'=>CntRes m5 2000 700000000000000001 e∧Below V.heap.size V w':=by
   rw [hoa,hm5]
   exact outputOf_any V x.o 2000 (by decide) hv.o
  exact k.mono fun e w' q=>by obtain ⟨⟨r,q1,q2,q3⟩,q4⟩:=q;exact ⟨_,q1,r,rfl,q2,q3,q4⟩
 have K5:Hid (∀ V,Below W0.heap.size W0 V→Calls Tryz.prog 40 #[.slice ea n5 wa,.int .i64 2000] V fun e w'=>∃ v,e=.returned v∧∃ q:Nat,v=.int .i64 (q:Int)∧(q:Int)≤800000000000000000∧((q:Int)≤2000→q=m6)∧Below V.heap.size V w'):=Hj fun V hV=>by
  have hv:=hx.below hV
  have k:Calls Tryz.prog 40 #[.slice ea n5 wa,.int .i64 2000] V fun e w'=>CntRes m6 2000 800000000000000000 e∧Below V.heap.size V w':=by
   rw [hea,hn5,hwa,hm6]
   exact entriesOf_any V x.pe x.es x.ce 2000 (by decide) hv.e
  exact k.mono fun e w' q=>by obtain ⟨⟨r,q1,q2,q3⟩,q4⟩:=q;exact ⟨_,q1,r,rfl,q2,q3,q4⟩
 have K6:Hid (∀ V,Below W0.heap.size W0 V→Calls Tryz.prog 46 #[.agg da,.int .i64 2000] V fun e w'=>∃ v,e=.returned v∧∃ q:Nat,v=.int .i64 (q:Int)∧(q:Int)≤3000000000000000000∧((q:Int)≤2000→q=m7)∧Below V.heap.size V w'):=Hj fun V hV=>by
  have hv:=hx.below hV
  have k:Calls Tryz.prog 46 #[.agg da,.int .i64 2000] V fun e w'=>CntRes m7 2000 3000000000000000000 e∧Below V.heap.size V w':=by
   rw [hda,hm7]
   exact diffOf_any V x.d.ps x.d.pm x.d.pt x.d.s x.d.m x.d.l.length x.d.cs x.d.cm x.d.ct x.d.fe x.d.fo 2000 (by decide) hv.s hv.m hv.ll
  exact k.mono fun e w' q=>by obtain ⟨⟨r,q1,q2,q3⟩,q4⟩:=q;exact ⟨_,q1,r,rfl,q2,q3,q4⟩
 have HI:=Hj (Aj (show (Tryz.prog.info? 35).map (·.size)=some oa.size by rw [← Array.length_toList,hoa1];exact info_output) (show (Tryz.prog.info? 40).map (·.size)=some da.size by rw [← Array.length_toList,hda1];exact info_diff))
 have HB:=Hj (Aj hb0 hsum)
 obtain ⟨xc,hxc⟩:∃ y,y=thC x:=⟨_,rfl⟩
 rw [← hxc] at HW ⊢
 rw [← hca]
 clear hL hb0 hx h hca hsum hoa1 hda1 hxc
 clear hn1 hn2 hn3 hn4 hn5 hcn hta hxa haa hya hva hza hsa hua hoa hea hwa hda hm1 hm2 hm3 hm4 hm5 hm6 hm7
 go_enter Tryz.func9,Tryz.ntmps9
 obtain ⟨p,hp⟩:∃ p,p=w.heap.size:=⟨_,rfl⟩
 go_upto_region 1 with fail
 rw [← hp]
 rw [← hp] at HC
 clear HW hp
 refine wp_region_held (S:=Below W0.heap.size W0) (by kernel_rfl) ?_
 change wpAnyH _ _ _ _ _ 29 _ _ (World.drew W0)
 have hcur:Below W0.heap.size W0 W0.drew:=(Below.refl _ _).drew
 refine tk 0 (.pointer (some ⟨p,0,none⟩)) 3 rfl rfl hcur ?_
 refine tk 1 (.agg #[.slice ta n1 xa]) 4 rfl rfl hcur ?_ (by intro w' hS';have x0:=(HC.out w' hS').1;unfold execOp;simp [go_sem,x0])
 refine tk 3 (.pointer (some ⟨p,1,none⟩)) 6 rfl rfl hcur ?_
 refine tk 4 (.slice aa n2 ya) 7 rfl rfl hcur ?_ (by intro w' hS';have x0:=(HC.out w' hS').2.1;unfold execOp;simp [go_sem,x0])
 refine tk 7 (.pointer (some ⟨p,2,none⟩)) 10 rfl rfl hcur ?_
 refine tk 8 (.agg #[.int .i64 cn,.slice va n3 za]) 11 rfl rfl hcur ?_ (by intro w' hS';obtain ⟨x0,x1⟩:=(HC.out w' hS').2.2.1;unfold execOp;simp [go_sem,x0,x1])
 refine tk 11 (.pointer (some ⟨p,4,none⟩)) 14 rfl rfl hcur ?_
 refine tk 12 (.slice sa n4 ua) 15 rfl rfl hcur ?_ (by intro w' hS';have x0:=(HC.out w' hS').2.2.2.1;unfold execOp;simp [go_sem,x0])
 refine tk 15 (.pointer (some ⟨p,5,none⟩)) 18 rfl rfl hcur ?_
 refine tk 16 (.agg oa) 19 rfl rfl hcur ?_ (by intro w' hS';exact exec_loadM 35 _ rfl _ _ rfl oa (HC.out w' hS').2.2.2.2.1 Tryz.underlying35 rfl HI.out.1)
 refine tk 19 (.pointer (some ⟨p,107,none⟩)) 22 rfl rfl hcur ?_
 refine tk 20 (.slice ea n5 wa) 23 rfl rfl hcur ?_ (by intro w' hS';have x0:=(HC.out w' hS').2.2.2.2.2.1;unfold execOp;simp [go_sem,x0])
 refine tk 23 (.pointer (some ⟨p,108,none⟩)) 26 rfl rfl hcur ?_
 refine tk 24 (.agg da) 27 rfl rfl hcur ?_ (by intro w' hS';exact exec_loadM 40 _ rfl _ _ rfl da (HC.out w' hS').2.2.2.2.2.2 Tryz.underlying40 rfl HI.out.2)
 generalize W0.drew=V0 at hcur ⊢
 refine held_one (i:=2) (by kernel_rfl) _ rfl (wpOp_callG rfl (by rfl) 5 rfl 41 #[.agg #[.slice ta n1 xa],.int .i64 2000] (by unfold execOp;simp [go_sem]) _ (K0.out V0 hcur) ?_)
 rintro _ U1 ⟨q0,rfl,hq0,hr0,hn⟩
 have hcur:=hcur.trans (hn.mono hcur.size)
 clear hn
 refine ⟨hcur,?_⟩
 simp only [Sj]
 refine held_one (i:=5) (by kernel_rfl) _ rfl (wpOp_callG rfl (by rfl) 8 rfl 42 #[.slice aa n2 ya,.int .i64 2000] (by unfold execOp;simp [go_sem]) _ (K1.out U1 hcur) ?_)
 rintro _ U2 ⟨q1,rfl,hq1,hr1,hn⟩
 have hcur:=hcur.trans (hn.mono hcur.size)
 clear hn
 refine ⟨hcur,?_⟩
 simp only [Sj]
 have hw1:IntKind.i64.wrap ((q0:Int)+(q1:Int))=(q0:Int)+(q1:Int):=by rw [IntKind.wrap_i64];omega
 refine tk 6 (.int .i64 ((q0:Int)+(q1:Int))) 9 rfl rfl hcur ?_ (by intro w' hS';unfold execOp;simp [go_sem,hw1])
 refine held_one (i:=9) (by kernel_rfl) _ rfl (wpOp_callG rfl (by rfl) 12 rfl 43 #[.agg #[.int .i64 cn,.slice va n3 za],.int .i64 2000] (by unfold execOp;simp [go_sem]) _ (K2.out U2 hcur) ?_)
 rintro _ U3 ⟨q2,rfl,hq2,hr2,hn⟩
 have hcur:=hcur.trans (hn.mono hcur.size)
 clear hn
 refine ⟨hcur,?_⟩
 simp only [Sj]
 have hw2:IntKind.i64.wrap ((q0:Int)+(q1:Int)+(q2:Int))=(q0:Int)+(q1:Int)+(q2:Int):=by rw [IntKind.wrap_i64];omega
 refine tk 10 (.int .i64 ((q0:Int)+(q1:Int)+(q2:Int))) 13 rfl rfl hcur ?_ (by intro w' hS';unfold execOp;simp [go_sem,hw2])
 refine held_one (i:=13) (by kernel_rfl) _ rfl (wpOp_callG rfl (by rfl) 16 rfl 44 #[.slice sa n4 ua,.int .i64 2000] (by unfold execOp;simp [go_sem]) _ (K3.out U3 hcur) ?_)
 rintro _ U4 ⟨q3,rfl,hq3,hr3,hn⟩
 have hcur:=hcur.trans (hn.mono hcur.size)
 clear hn
 refine ⟨hcur,?_⟩
 simp only [Sj]
 have hw3:IntKind.i64.wrap ((q0:Int)+(q1:Int)+(q2:Int)+(q3:Int))=(q0:Int)+(q1:Int)+(q2:Int)+(q3:Int):=by rw [IntKind.wrap_i64];omega
 refine tk 14 (.int .i64 ((q0:Int)+(q1:Int)+(q2:Int)+(q3:Int))) 17 rfl rfl hcur ?_ (by intro w' hS';unfold execOp;simp [go_sem,hw3])
 refine held_one (i:=17) (by kernel_rfl) _ rfl (wpOp_callG rfl (by rfl) 20 rfl 45 #[.agg oa,.int .i64 2000] (by unfold execOp;simp [go_sem]) _ (K4.out U4 hcur) ?_)
 rintro _ U5 ⟨q4,rfl,hq4,hr4,hn⟩
 have hcur:=hcur.trans (hn.mono hcur.size)
 clear hn
 refine ⟨hcur,?_⟩
 simp only [Sj]
 have hw4:IntKind.i64.wrap ((q0:Int)+(q1:Int)+(q2:Int)+(q3:Int)+(q4:Int))=(q0:Int)+(q1:Int)+(q2:Int)+(q3:Int)+(q4:Int):=by rw [IntKind.wrap_i64];omega
 refine tk 18 (.int .i64 ((q0:Int)+(q1:Int)+(q2:Int)+(q3:Int)+(q4:Int))) 21 rfl rfl hcur ?_ (by intro w' hS';unfold execOp;simp [go_sem,hw4])
 refine held_one (i:=21) (by kernel_rfl) _ rfl (wpOp_callG rfl (by rfl) 24 rfl 40 #[.slice ea n5 wa,.int .i64 2000] (by unfold execOp;simp [go_sem]) _ (K5.out U5 hcur) ?_)
 rintro _ U6 ⟨q5,rfl,hq5,hr5,hn⟩
 have hcur:=hcur.trans (hn.mono hcur.size)
 clear hn
 refine ⟨hcur,?_⟩
 simp only [Sj]
 have hw5:IntKind.i64.wrap ((q0:Int)+(q1:Int)+(q2:Int)+(q3:Int)+(q4:Int)+(q5:Int))=(q0:Int)+(q1:Int)+(q2:Int)+(q3:Int)+(q4:Int)+(q5:Int):=by rw [IntKind.wrap_i64];omega
 refine tk 22 (.int .i64 ((q0:Int)+(q1:Int)+(q2:Int)+(q3:Int)+(q4:Int)+(q5:Int))) 25 rfl rfl hcur ?_ (by intro w' hS';unfold execOp;simp [go_sem,hw5])
 refine held_one (i:=25) (by kernel_rfl) _ rfl (wpOp_callG rfl (by rfl) 28 rfl 46 #[.agg da,.int .i64 2000] (by unfold execOp;simp [go_sem]) _ (K6.out U6 hcur) ?_)
 rintro _ U7 ⟨q6,rfl,hq6,hr6,hn⟩
 have hcur:=hcur.trans (hn.mono hcur.size)
 clear hn
 refine ⟨hcur,?_⟩
 simp only [Sj]
 have hw6:IntKind.i64.wrap ((q0:Int)+(q1:Int)+(q2:Int)+(q3:Int)+(q4:Int)+(q5:Int)+(q6:Int))=(q0:Int)+(q1:Int)+(q2:Int)+(q3:Int)+(q4:Int)+(q5:Int)+(q6:Int):=by rw [IntKind.wrap_i64];omega
 refine tk 26 (.int .i64 ((q0:Int)+(q1:Int)+(q2:Int)+(q3:Int)+(q4:Int)+(q5:Int)+(q6:Int))) 29 rfl rfl hcur ?_ (by intro w' hS';unfold execOp;simp [go_sem,hw6])
 obtain ⟨g,hg⟩:∃ g,g=decide (2000 < (q0:Int)+(q1:Int)+(q2:Int)+(q3:Int)+(q4:Int)+(q5:Int)+(q6:Int)):=⟨_,rfl⟩
 refine tk 27 (.bool g) 30 rfl rfl hcur ?_ (by intro w' hS';unfold execOp;simp [go_sem,hg])
 refine tk 28 (.bool g) 2 rfl rfl hcur ?_
 refine held_done (by kernel_rfl) ?_
 have hfin:g=false→ca≤2000:=fun e=>by
  rw [e] at hg
  have hg2:=of_decide_eq_false hg.symm
  have:=HB.out.2
  have e0:=hr0 (by omega)
  have e1:=hr1 (by omega)
  have e2:=hr2 (by omega)
  have e3:=hr3 (by omega)
  have e4:=hr4 (by omega)
  have e5:=hr5 (by omega)
  have e6:=hr6 (by omega)
  omega
 have HF:=Hj (Aj hfin (HB.out.1.trans (hcur.mono HB.out.1.size)))
 clear hfin hcur hg hq0 hr0 hq1 hr1 hq2 hr2 hq3 hr3 hq4 hr4 hq5 hr5 hq6 hr6 hw1 hw2 hw3 hw4 hw5 hw6 
 go_wp2_with fail
 go_ret
 exact ⟨⟨g,rfl,HF.out.1⟩,HF.out.2⟩
end Go.Proofs.YtilbbemdinpjcaaGreat.P
namespace Go.Proofs.YtilbbemdinpjcaaGreat.P
set_option maxRecDepth 100000
open Go.ChangeShapes Go.WideShapes Go.ChangeAt Go.RowKit Go.Deep Go.Sort
theorem halves_of (a:Int) (b:Nat) (h0:-9223372036854775808≤a) (h1:a < 9223372036854775808) (hb:b < 18446744073709551616):∃ x:BitVec 128,hiS x=a∧loN x=b:=by
 obtain ⟨t,ht⟩:∃ t,t=(a % 18446744073709551616).toNat:=⟨_,rfl⟩
 have hlt:t < 18446744073709551616:=by omega
 have e:(BitVec.ofNat 128 (t * 18446744073709551616+b)).toNat=t * 18446744073709551616+b:=by
  rw [BitVec.toNat_ofNat,p128]
  exact Nat.mod_eq_of_lt (by omega)
 refine ⟨BitVec.ofNat 128 (t * 18446744073709551616+b),?_,?_⟩
 ·
  unfold hiS
  rw [e,IntKind.wrap_i64]
  omega
 ·
  unfold loN
  rw [e]
  omega
theorem word64_of {a:Int} (h:(Lit.int .u64 a).wf=true):∃ n:Nat,a=(n:Int)∧n < 18446744073709551616:=by
 have hmin:IntKind.u64.min=0:=rfl
 have hmax:IntKind.u64.max=18446744073709551615:=rfl
 simp only [Lit.wf,Bool.and_eq_true,decide_eq_true_eq] at h
 exact ⟨a.toNat,by omega,by omega⟩
theorem dcW:Tryz.prog.cellsOf 148=2:=by kernel_rfl
theorem dcU:Tryz.prog.cellsOf 69=1:=by kernel_rfl
theorem dcT:Tryz.prog.cellsOf 150=35:=by kernel_rfl
theorem dcST:Tryz.prog.cellsOf 28=1:=by kernel_rfl
section
variable {H:Type} {enc:TypeId × Value→H} {W:World}
theorem weights_at {P:Program} {e:TypeId} {d:DataW H} {n:Nat} (hn:n ∈ d.weights P e):∀ {l:List (DataW H)},d ∈ l→n ∈ DataW.weightsAll P e l
 | [],h=>by cases h
 | x :: l,h=>by
   unfold DataW.weightsAll
   rcases List.mem_cons.1 h with rfl | h
   · exact List.mem_append_left _ hn
   · exact List.mem_append_right _ (weights_at hn h)
theorem wide_in {fuel:Nat} {cs:List Value} {x:DataW H × List MemPlace} (hf:DataW.trod enc Tryz.prog W 0 (fun _=>true) true fuel 148 cs=some x) :
  ∃ y:BitVec 128,cs=(wC y).toList:=by
 obtain ⟨ys,m,_,hx,hlen,hyl,hg⟩:=DataW.trod_struct Tryz.underlying148 hf
 rw [dcW] at hlen
 have hyl2:ys.length=2:=hyl
 have at_:=fun (j:Nat) (f:Field) (hj:j < 2) hfj=>(hg j f hfj).trans (List.getElem?_eq_getElem (show j < ys.length by omega))
 obtain ⟨n0,e0,_,w0⟩:=DataW.trod_int Tryz.underlying2 (at_ 0 _ (by omega) rfl)
 obtain ⟨n1,e1,_,w1⟩:=DataW.trod_int Tryz.underlying69 (at_ 1 _ (by omega) rfl)
 obtain ⟨hlo,hhi⟩:=int_of w0
 obtain ⟨b,rfl,hb⟩:=word64_of w1
 have f0:(cs.drop 0).take (Tryz.prog.cellsOf 2)=[.int .i64 n0]:=e0
 have f1:(cs.drop 1).take (Tryz.prog.cellsOf 69)=[.int .u64 b]:=e1
 rw [dc2] at f0
 rw [dcU] at f1
 obtain ⟨y,h1,h2⟩:=halves_of n0 b hlo hhi hb
 refine ⟨y,?_⟩
 have h3:=cut2 (l:=cs) hlen
 rw [f0,f1,← h1,← h2] at h3
 exact h3
theorem cut35 (l:List Value) (h:l.length=35):l=(l.drop 0).take 32 ++ ((l.drop 32).take 1 ++ (l.drop 33).take 2):=by
 rw [List.drop_zero]
 have h1:(l.drop 33).take 2=l.drop 33:=List.take_of_length_le (by rw [List.length_drop];omega)
 have h2:l.drop 33=(l.drop 32).drop 1:=by rw [List.drop_drop]
 rw [h1,h2,List.take_append_drop,List.take_append_drop]
theorem total_in {fuel:Nat} {cs:List Value} {x:DataW H × List MemPlace} (hf:DataW.trod enc Tryz.prog W 0 (fun _=>true) true fuel 150 cs=some x) (hreach:∀ n ∈ x.1.weights Tryz.prog 150,n≤reachBytes) :
  ∃ a:To,cs=(toC a).toList∧ToOk a∧a.nm.2.length≤281474976710656:=by
 obtain ⟨ys,n,_,hx,hlen,hyl,hg⟩:=DataW.trod_struct Tryz.underlying150 hf
 rw [dcT] at hlen
 have hyl3:ys.length=3:=hyl
 have at_:=fun (j:Nat) (f:Field) (hj:j < 3) hfj=>(hg j f hfj).trans (List.getElem?_eq_getElem (show j < ys.length by omega))
 obtain ⟨hs,hl,e0⟩:=hash_in (at_ 0 _ (by omega) rfl)
 obtain ⟨s,e1,hxs,hsl⟩:=DataW.trod_string Tryz.underlying9 (at_ 1 _ (by omega) rfl)
 obtain ⟨y,e2⟩:=wide_in (at_ 2 _ (by omega) rfl)
 have hw:s.data.toList.length ∈ (ys[1].1).weights Tryz.prog 9:=by
  rw [hxs]
  simp [DataW.weights]
 have hle:=hreach _ (by
  rw [hx,DataW.weights,Tryz.underlying150]
  exact DataW.weights_mem_each (j:=1) rfl (by rw [List.getElem?_map,List.getElem?_eq_getElem (by omega)];rfl) _ hw)
 have hr:reachBytes=140737488351232:=rfl
 have f0:(cs.drop 0).take (Tryz.prog.cellsOf 30)=(B8 hs).toList:=e0
 have f1:(cs.drop 32).take (Tryz.prog.cellsOf 9)=[.string s]:=e1
 have f2:(cs.drop 33).take (Tryz.prog.cellsOf 148)=(wC y).toList:=e2
 rw [dc26] at f0
 rw [dc9] at f1
 rw [dcW] at f2
 refine ⟨⟨(hs,s.data.toList),y⟩,?_,⟨hl,?_⟩,?_⟩
 ·
  rw [cut35 cs hlen,f0,f1,f2]
  show _=(B8 hs ++ (#[Value.string (txt s.data.toList),Value.int .i64 (hiS y),Value.int .u64 (loN y)]:Array Value)).toList
  rw [← txt_of s]
  simp [wC]
 ·
  show s.data.toList.length≤maxLen
  have:s.data.toList.length=s.size:=by simp
  omega
 ·
  show s.data.toList.length≤281474976710656
  omega
theorem totals_in {fuel:Nat} {cs:List Value} {x:DataW H × List MemPlace} (hf:DataW.trod enc Tryz.prog W 0 (fun _=>true) true fuel 28 cs=some x) (hreach:∀ n ∈ x.1.weights Tryz.prog 28,n≤reachBytes) :
  ∃ (pa:Option Addr) (l:List To) (c:Nat),cs=[.slice pa l.length c]∧RowT W pa l∧l.length≤140737488355328:=by
 rcases open_slice Tryz.underlying28 hf with ⟨hcs,_⟩ | ⟨a,len,cap,m,n,D,Pl,hcs,hle,hl,hm,hmm,hx,hi⟩
 ·
  exact ⟨none,[],0,hcs,⟨Nat.zero_le _,fun a ha=>by simp at ha,fun h=>absurd h (by simp)⟩,by simp⟩
 ·
  simp only [if_true] at hmm
  subst hmm
  have hd:x.1=.slice ((List.range len).map D) ((List.range (m - len)).map fun j=>D (len+j)):=congrArg Prod.fst hx
  have hr:reachBytes=140737488351232:=rfl
  have hlb:len≤140737488355328:=by
   have hb:Tryz.prog.bytesOf 150=64:=by kernel_rfl
   have:=hreach ((((List.range len).map D).length+((List.range (m - len)).map fun j=>D (len+j)).length) * 64) (by
    rw [hd,DataW.weights,Tryz.underlying28]
    simp only [hb]
    exact List.mem_cons_self)
   simp only [List.length_map,List.length_range] at this
   omega
  have each:∀ i,i < len→∃ q:To,(ToOk q∧q.nm.2.length≤281474976710656)∧∀ j v,(toC q)[j]? = some v→W.cell? (a.add (i * 35+j))=some v:=by
   intro i hil
   obtain ⟨cs',hc,ht⟩:=hi i (by omega)
   rw [dcT] at hc
   obtain ⟨_,hcl,hat⟩:=World.cells?_some hc
   obtain ⟨q,rfl,hq⟩:=total_in ht (fun n hn=>hreach n (by
    rw [hd,DataW.weights,Tryz.underlying28]
    exact List.mem_cons_of_mem _ (List.mem_append_left _ (weights_at hn (List.mem_map.2 ⟨i,List.mem_range.2 hil,rfl⟩)))))
   refine ⟨q,hq,fun j v hj => ?_⟩
   have hj35:j < 35:=by
    have:=(Array.getElem?_eq_some_iff.1 hj).1
    rwa [toC_size q hq.1.1] at this
   rw [← Go.Deep.add_add,hat j hj35,Array.getElem?_toList,hj]
  obtain ⟨xs,hpl,hps⟩:=list_of (⟨([],[]),0⟩:To) (fun i q=>(ToOk q∧q.nm.2.length≤281474976710656)∧∀ j v,(toC q)[j]? = some v→W.cell? (a.add (i * 35+j))=some v) len each
  subst hpl
  have hget:∀ i q,xs[i]? = some q→(ToOk q∧q.nm.2.length≤281474976710656)∧∀ j v,(toC q)[j]? = some v→W.cell? (a.add (i * 35+j))=some v:=fun i q hq=>by
   have h1:=hps i (List.getElem?_eq_some_iff.1 hq).1
   rw [List.getD_eq_getElem?_getD,hq] at h1
   exact h1
  refine ⟨some a,xs,m,hcs,⟨by show xs.length≤maxLen;omega,fun q hq => ?_,fun hpos => ?_⟩,hlb⟩
  ·
   obtain ⟨i,hi2⟩:=List.getElem?_of_mem hq
   exact (hget i q hi2).1.1
  ·
   obtain ⟨b,off,spot⟩:=a
   obtain ⟨hok0,h00⟩:=hget 0 _ (List.getElem?_eq_getElem hpos)
   have h0:=h00 0 _ (toC_get _ hok0.1.1 0 (by decide))
   have hspot:spot=none:=by simpa [Addr.add] using World.cell?_spot h0
   subst hspot
   refine ⟨b,off,rfl,block_lt_of_cell h0,fun i q hi2 j v hj => ?_⟩
   rw [Array.getElem?_toList] at hj
   have h2:=(hget i q hi2).2 j v hj
   rw [Addr.add_lit] at h2
   rw [show off+i * 35+j=off+(i * 35+j) by omega]
   exact h2
theorem pc_diff:Tryz.prog.cellsOf 40=5:=by kernel_rfl
theorem pc_ens:Tryz.prog.cellsOf 38=1:=by kernel_rfl
theorem pc_thing:Tryz.prog.cellsOf 42=113:=by kernel_rfl
theorem diff_in {fuel:Nat} {cs:List Value} {x:DataW H × List MemPlace} (hf:DataW.trod enc Tryz.prog W 0 (fun _=>true) true fuel 40 cs=some x) (hreach:∀ n ∈ x.1.weights Tryz.prog 40,n≤reachBytes) :
  ∃ d:Df,cs=(dfC d).toList∧RowER W d.ps d.s∧RowER W d.pm d.m∧I64 d.fe∧I64 d.fo∧RowT W d.pt d.l∧d.l.length≤140737488355328∧DfRoom d∧(∀ e ∈ d.s,EnIn e)∧(∀ e ∈ d.m,EnIn e):=by
 obtain ⟨ys,m,_,hx,hlen,hyl,hg⟩:=DataW.trod_struct Tryz.underlying40 hf
 rw [pc_diff] at hlen
 have hyl5:ys.length=5:=hyl
 have at_:=fun (j:Nat) (f:Field) (hj:j < 5) hfj=>(hg j f hfj).trans (List.getElem?_eq_getElem (show j < ys.length by omega))
 obtain ⟨p1,l1,c1,e0,r1,i1,k1,_⟩:=entries_in (at_ 0 _ (by omega) rfl) (wt_agg Tryz.underlying40 hx 0 _ rfl (by omega) hreach)
 obtain ⟨p2,l2,c2,e1,r2,i2,k2,_⟩:=entries_in (at_ 1 _ (by omega) rfl) (wt_agg Tryz.underlying40 hx 1 _ rfl (by omega) hreach)
 obtain ⟨n2,e2,_,w2⟩:=DataW.trod_int Tryz.underlying2 (at_ 2 _ (by omega) rfl)
 obtain ⟨n3,e3,_,w3⟩:=DataW.trod_int Tryz.underlying2 (at_ 3 _ (by omega) rfl)
 obtain ⟨p3,l3,c3,e4,r3,k3⟩:=totals_in (at_ 4 _ (by omega) rfl) (wt_agg Tryz.underlying40 hx 4 _ rfl (by omega) hreach)
 have f0:(cs.drop 0).take (Tryz.prog.cellsOf 38)=[.slice p1 l1.length c1]:=e0
 have f1:(cs.drop 1).take (Tryz.prog.cellsOf 38)=[.slice p2 l2.length c2]:=e1
 have f2:(cs.drop 2).take (Tryz.prog.cellsOf 2)=[.int .i64 n2]:=e2
 have f3:(cs.drop 3).take (Tryz.prog.cellsOf 2)=[.int .i64 n3]:=e3
 have f4:(cs.drop 4).take (Tryz.prog.cellsOf 28)=[.slice p3 l3.length c3]:=e4
 rw [pc_ens] at f0 f1
 rw [dc2] at f2 f3
 rw [dcST] at f4
 refine ⟨⟨p1,l1,c1,p2,l2,c2,n2,n3,p3,l3,c3⟩,?_,r1,r2,int_of w2,int_of w3,r3,k3,⟨k1,k2⟩,i1,i2⟩
 rw [cut5 cs hlen,f0,f1,f2,f3,f4]
 rfl
theorem cut_th {l:List Value} (h:l.length=113):l=(l.drop 0).take 1 ++ ((l.drop 1).take 1 ++ ((l.drop 2).take 2 ++ ((l.drop 4).take 1 ++ ((l.drop 5).take 69 ++ ((l.drop 74).take 33 ++ ((l.drop 107).take 1 ++ (l.drop 108).take 5)))))):=by
 have h8:(l.drop 108).take 5=(l.drop 107).drop 1:=by rw [List.drop_drop,List.take_of_length_le (by rw [List.length_drop];omega)]
 have h7:l.drop 107=(l.drop 74).drop 33:=by rw [List.drop_drop]
 have h6:l.drop 74=(l.drop 5).drop 69:=by rw [List.drop_drop]
 have h5:l.drop 5=(l.drop 4).drop 1:=by rw [List.drop_drop]
 have h4:l.drop 4=(l.drop 2).drop 2:=by rw [List.drop_drop]
 have h3:l.drop 2=(l.drop 1).drop 1:=by rw [List.drop_drop]
 rw [h8,List.take_append_drop,h7,List.take_append_drop,h6,List.take_append_drop,h5,List.take_append_drop,h4,List.take_append_drop,h3,List.take_append_drop,List.drop_zero,List.take_append_drop]
theorem thing_in {fuel:Nat} {cs:List Value} {x:DataW H × List MemPlace} (hf:DataW.trod enc Tryz.prog W 0 (fun _=>true) true fuel 42 cs=some x) (hreach:∀ n ∈ x.1.weights Tryz.prog 42,n≤reachBytes) :
  ∃ t:Th,cs=(thC t).toList∧ThRaw W t:=by
 obtain ⟨ys,m,_,hx,hlen,hyl,hg⟩:=DataW.trod_struct Tryz.underlying42 hf
 rw [pc_thing] at hlen
 have hyl8:ys.length=8:=hyl
 have at_:=fun (j:Nat) (f:Field) (hj:j < 8) hfj=>(hg j f hfj).trans (List.getElem?_eq_getElem (show j < ys.length by omega))
 have wt:=fun (j:Nat) (f:Field) (hj:j < 8) hfj=>wt_agg Tryz.underlying42 hx j f hfj (show j < ys.length by omega) hreach
 obtain ⟨p0,ns,c0,e0,hn⟩:=term_in (at_ 0 _ (by omega) rfl) (wt 0 _ (by omega) rfl)
 obtain ⟨p1,l1,c1,e1,r1⟩:=assets_in (at_ 1 _ (by omega) rfl)
 obtain ⟨v,e2,hv,_⟩:=value_in (at_ 2 _ (by omega) rfl)
 obtain ⟨p3,l3,c3,e3,r3,_⟩:=totals_in (at_ 3 _ (by omega) rfl) (wt 3 _ (by omega) rfl)
 obtain ⟨o,e4,ho,h1,_⟩:=out_in (at_ 4 _ (by omega) rfl) (wt 4 _ (by omega) rfl)
 obtain ⟨r,e5,hr⟩:=ref_in (at_ 5 _ (by omega) rfl)
 obtain ⟨p6,es,c6,e6,r6,i6,_,_⟩:=entries_in (at_ 6 _ (by omega) rfl) (wt 6 _ (by omega) rfl)
 obtain ⟨d,e7,d1,d2,d3,d4,d5,d6,d7,d8,d9⟩:=diff_in (at_ 7 _ (by omega) rfl) (wt 7 _ (by omega) rfl)
 have f0:(cs.drop 0).take (Tryz.prog.cellsOf 24)=[.slice p0 ns.length c0]:=e0
 have f1:(cs.drop 1).take (Tryz.prog.cellsOf 25)=[.slice p1 l1.length c1]:=e1
 have f2:(cs.drop 2).take (Tryz.prog.cellsOf 27)=(vaC v).toList:=e2
 have f3:(cs.drop 4).take (Tryz.prog.cellsOf 28)=[.slice p3 l3.length c3]:=e3
 have f4:(cs.drop 5).take (Tryz.prog.cellsOf 35)=(otC o).toList:=e4
 have f5:(cs.drop 74).take (Tryz.prog.cellsOf 37)=(refC r).toList:=e5
 have f6:(cs.drop 107).take (Tryz.prog.cellsOf 38)=[.slice p6 es.length c6]:=e6
 have f7:(cs.drop 108).take (Tryz.prog.cellsOf 40)=(dfC d).toList:=e7
 rw [pc_term] at f0
 rw [dc22] at f1
 rw [dc24] at f2
 rw [dcST] at f3
 rw [pc_out] at f4
 rw [pc_ref] at f5
 rw [pc_ens] at f6
 rw [pc_diff] at f7
 refine ⟨⟨p0,ns,c0,p1,l1,c1,v,p3,l3,c3,o,r,p6,es,c6,d⟩,?_,⟨hn.raw,fun y hy=>(hn.ins y hy).txt,hn.len,fun y hy=>by have:=(hn.ins y hy).kids.2;omega,r1,hv,r3,ho,hr,r6,d1,d2,d3,d4,d5,d6,⟨hn.ins,hn.cap,h1,fun e he=>(i6 e he).ins,fun e he=>(d8 e he).ins,fun e he=>(d9 e he).ins,d7⟩⟩⟩
 rw [cut_th hlen,f0,f1,f2,f3,f4,f5,f6,f7]
 simp [thC,thL,vaC,vC]
theorem open_thing {b0:Nat} {v:Value} {d:DataW H} {p:List MemPlace} (hv:Value.okWide Tryz.prog W .any b0 42 v) (h:DataW.Trod enc Tryz.prog W 0 (fun _=>true) true 42 v d p) (hreach:∀ n ∈ d.weights Tryz.prog 42,n≤reachBytes) :
  ∃ t:Th,v=.agg (thC t)∧ThRaw W t:=by
 simp only [Value.okWide,Tryz.underlying42] at hv
 obtain ⟨cs,rfl,-⟩:=hv
 obtain ⟨fuel,hf⟩:=h
 obtain ⟨t,e,ht⟩:=thing_in hf hreach
 have e2:cs.toList=(thC t).toList:=e
 exact ⟨t,congrArg Value.agg (Array.toList_inj.1 e2),ht⟩
end
theorem rowE_ok {V:World} {pa:Option Addr} {es:List En} (h:RowE V pa es):∀ e ∈ es,EnOk V e:=fun e he=>by
 obtain ⟨i,hi2⟩:=List.getElem?_of_mem he
 obtain ⟨gx,off,_,_,hh⟩:=h.2 (by have:=(List.getElem?_eq_some_iff.1 hi2).1;omega)
 exact (hh i e hi2).2
theorem rightE_all {es:List En} (h:rightEB es=true):∀ e ∈ es,rightRefB e.r=true∧rightOB e.o=true:=fun e he=>by
 obtain ⟨i,hi,e1⟩:=List.getElem_of_mem he
 unfold rightEB at h
 rw [List.all_eq_true] at h
 have h1:=h i (List.mem_range.2 hi)
 unfold entB at h1
 rw [List.getElem?_eq_getElem hi,e1] at h1
 simp only [Bool.and_eq_true] at h1
 exact h1.1
theorem OtOk.fit {V:World} {o:Ot} (h:OtOk V o) (hn:∀ y ∈ o.ns,NdIn y):OutFit o:=⟨h.ah,h.dh,⟨h.v.1,h.v.2.1⟩,h.v.2.2.2.1,hn⟩
theorem ens_fit {V:World} {pa:Option Addr} {es:List En} (h:RowE V pa es) (hr:rightEB es=true) (hn:∀ e ∈ es,∀ y ∈ e.o.ns,NdIn y):∀ e ∈ es,EnFit e:=fun e he =>
 ⟨(rowE_ok h e he).r.1,(rightE_all hr e he).1,(rowE_ok h e he).o.fit (hn e he),(rightE_all hr e he).2⟩
theorem len_small {n:Nat} (h:n≤maxLen):n < 18446744073709551616:=by unfold maxLen at h;omega
theorem put_got {V:World} {x:Th} {k:Nat} (hk:k < 8) (hx:ThOk V x) (hi:PutIn x) {bs xs:List UInt8} (h:putS (some []) x k=some bs) (hp:bs <+: xs):getTh xs (some 0) k=some (thV (onlyT x k),bs.length):=by
 have z:([]:List UInt8).length=0:=rfl
 obtain rfl | rfl | rfl | rfl | rfl | rfl | rfl | rfl:k=0 ∨ k=1 ∨ k=2 ∨ k=3 ∨ k=4 ∨ k=5 ∨ k=6 ∨ k=7:=by omega
 ·
  have h:(if T.rightB x.ns=true then termS (some []) x.ns else none)=some bs:=h
  split at h
  ·
   rename_i hr
   obtain ⟨k1,_⟩:=term_back h hr hi.ti hp
   rw [z] at k1
   show (getT xs (some 0)).map _=_
   unfold getT
   rw [k1]
   simp only
   rw [if_pos hr]
   rfl
  ·
   cases h
 ·
  have h:(if mintB x.l=true then asListS (some []) x.l else none)=some bs:=h
  split at h
  ·
   rename_i hr
   have hm:=hr
   unfold mintB at hm
   simp only [Bool.and_eq_true,decide_eq_true_eq] at hm
   obtain ⟨k1,_⟩:=assets_back h hm.1 (well_fit hm.2 hx.a.2.1) hp
   rw [z] at k1
   show (getR mintB (assetsD xs (some 0))).map _=_
   rw [k1]
   unfold getR
   simp only
   rw [if_pos hr]
   rfl
  ·
   cases h
 ·
  have h:(if rightV x.v=true then valS (some []) x.v else none)=some bs:=h
  split at h
  ·
   rename_i hr
   have hm:rightB x.v.coin x.v.l=true:=hr
   have hm2:=hm
   unfold rightB at hm2
   simp only [Bool.and_eq_true,decide_eq_true_eq] at hm2
   obtain ⟨k1,_⟩:=value_back h ⟨hx.v.1,hx.v.2.1⟩ hm2.1.2 (well_fit hm2.2 hx.v.2.2.2.1) hp
   rw [z] at k1
   show (getVal xs (some 0)).map _=_
   unfold getVal
   rw [k1]
   simp only
   rw [if_pos hm]
   rfl
  ·
   cases h
 ·
  have h:(if wellT nzT x.t=true then totS (some []) x.t else none)=some bs:=h
  split at h
  ·
   rename_i hr
   obtain ⟨k1,_⟩:=totals_back h (len_small hx.tot.1) (wellT_fit hr hx.tot.2.1) hp
   rw [z] at k1
   show (getR (wellT nzT) (totalsD xs (some 0))).map _=_
   rw [k1]
   unfold getR
   simp only
   rw [if_pos hr]
   rfl
  ·
   cases h
 ·
  have h:(if rightOB x.o=true then outS (some []) x.o else none)=some bs:=h
  split at h
  ·
   rename_i hr
   obtain ⟨k1,_⟩:=out_back h hr (hx.o.fit hi.oi) hp
   rw [z] at k1
   show (getOut xs (some 0)).map _=_
   unfold getOut
   rw [k1]
   unfold getOutOf
   simp only
   rw [rightOV_eq,if_pos hr]
   rfl
  ·
   cases h
 ·
  have h:(if rightRefB x.r=true then refS (some []) x.r else none)=some bs:=h
  split at h
  ·
   rename_i hr
   obtain ⟨k1,k2,_⟩:=ref_back h hr hx.r.1 hp
   rw [z] at k1 k2
   show (getRef xs (some 0)).map _=_
   unfold getRef
   rw [k2]
   simp only
   rw [k1,if_pos hr]
   rfl
  ·
   cases h
 ·
  have h:(if rightEB x.es=true then ensS (some []) x.es else none)=some bs:=h
  split at h
  ·
   rename_i hr
   obtain ⟨k1,_⟩:=entries_back h (len_small hx.e.1) (ens_fit hx.e hr hi.ei) hp
   rw [z] at k1
   show (getEs xs (some 0)).map _=_
   unfold getEs
   rw [k1]
   unfold getEsOf
   simp only
   rw [rightEV_eq,if_pos hr]
   rfl
  ·
   cases h
 ·
  have h:(if rightDB x.d=true then diffS (some []) x.d else none)=some bs:=h
  split at h
  ·
   rename_i hr
   have hm:=hr
   unfold rightDB at hm
   simp only [Bool.and_eq_true] at hm
   obtain ⟨k1,_⟩:=diff_back h (len_small hx.d.s.1) (len_small hx.d.m.1) (len_small hx.d.l.1) (ens_fit hx.d.s hm.1.1.1.1.1 hi.si) (ens_fit hx.d.m hm.1.1.1.1.2 hi.mi) (wellT_fit hm.1.2 hx.d.l.2.1) hx.d.fe hx.d.fo hp
   rw [z] at k1
   show (getDi xs (some 0)).map _=_
   unfold getDi
   rw [k1]
   unfold getDiOf
   simp only
   rw [rightDV_eq,if_pos hr]
   rfl
  ·
   cases h
end Go.Proofs.YtilbbemdinpjcaaGreat.P
