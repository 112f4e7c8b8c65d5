/-
  pack: the getter's output (the drawn region's ways written by tools/gen_out.py).
-/
import Derived.Test.YtilbbemdinpjcaaGreatJQy
set_option maxHeartbeats 16000000
namespace Go.Proofs.YtilbbemdinpjcaaGreat.P
set_option maxRecDepth 100000
open Go.RowKit Go.Sort
theorem range_app {w:World} {b o:Nat} {X Y:List Value} (h1:w.rangeAt b o X) (h2:w.rangeAt b (o+X.length) Y):w.rangeAt b o (X ++ Y):=fun j v hv=>by
 rw [List.getElem?_append] at hv
 split at hv
 ·
  exact h1 j v hv
 ·
  rename_i hj
  have:=h2 (j - X.length) v hv
  rwa [show o+X.length+(j - X.length)=o+j by omega] at this
theorem range_left {w:World} {b o:Nat} {X Y:List Value} (h:w.rangeAt b o (X ++ Y)):w.rangeAt b o X:=fun j v hv=>h j v (by rw [List.getElem?_append_left (List.getElem?_eq_some_iff.1 hv).1];exact hv)
theorem range_right {w:World} {b o:Nat} {X Y:List Value} (h:w.rangeAt b o (X ++ Y)):w.rangeAt b (o+X.length) Y:=fun j v hv=>by
 have:=h (X.length+j) v (by rw [List.getElem?_append_right (by omega)];simpa using hv)
 rwa [← Nat.add_assoc] at this
def otX (o:Ot):List Value:=.bool o.prog :: (B8 o.ah).toList ++ [.int .i64 o.v.coin,.slice o.v.pa o.v.l.length o.v.c,.int .i64 o.kind]
theorem otC_listX (o:Ot):(otC o).toList=otX o ++ ((B8 o.dh).toList ++ [.slice o.tp o.ns.length o.tc]):=by simp [otC,otX]
theorem otX_len (o:Ot) (h:o.ah.length=32):(otX o).length=36:=by simp [otX,B8,h]
theorem only_rowsG (b:Nat) (w:World) (cs:Array Value):W.Only b w (w.setRow b cs) none:=⟨rfl,rfl,rfl,by simp,fun i _ h1 _=>setRow_other w b i cs h1⟩
theorem only_cells (b:Nat):∀ (vs:List Value) (o:Nat) (w:World),W.Only b w (w.setCells b o vs) none
 | [],_,_=>W.Only.refl _ _ _
 | v :: r,o,w=>(W.only_set b o w v).trans0 (only_cells b r (o+1) _)
theorem _root_.Go.Proofs.YtilbbemdinpjcaaGreat.W.Only.trans0N {g b:Nat} {w w1 w2:World} (h:W.Only g w w1 none) (k:W.Only b w1 w2 none) (hb:w.heap.size≤b):W.Only g w w2 none :=
 ⟨k.os.trans h.os,k.tape.trans h.tape,k.output.trans h.output,Nat.le_trans h.size k.size,fun j hj hg hn=>(k.block j (Nat.lt_of_lt_of_le hj h.size) (by omega) hn).trans (h.block j hj hg hn)⟩
theorem valD_30 {xs:List UInt8} {st0:Option Nat} {x:Int} {l:List As} {st:Option Nat} (h:valD xs st0=some ((x,l),st)):(∀ a ∈ l,AsOk a)∧l.length≤30:=by
 refine ⟨(valD_ok h).2,?_⟩
 unfold valD at h
 cases hd:assetsD xs (W.numS xs st0 8) with
 | none=>rw [hd] at h;cases h
 | some y =>
   rw [hd] at h
   have h1:=Option.some.inj h
   have h2:y.1=l:=congrArg (fun z=>z.1.2) h1
   rw [← h2]
   have h3:=rowD_all AsOk (asV_ok xs) _ _ _ _ _ hd (fun a ha=>by cases ha)
   have:=countV_lt xs (W.numS xs st0 8)
   simp only [List.length_nil] at h3
   omega
theorem valD_coin {xs:List UInt8} {st0:Option Nat} {x:Int} {l:List As} {st:Option Nat} (h:valD xs st0=some ((x,l),st)):-9223372036854775808≤x∧x < 9223372036854775808:=by
 unfold valD at h
 cases hd:assetsD xs (W.numS xs st0 8) with
 | none=>rw [hd] at h;cases h
 | some y =>
   rw [hd] at h
   have h1:=Option.some.inj h
   have h2:IntKind.i64.wrap (W.numV xs st0 8)=x:=congrArg (fun z=>z.1.1) h1
   rw [← h2,IntKind.wrap_i64]
   omega
structure OutV where
 prog:Bool
 ah:List UInt8
 coin:Int
 l:List As
 kind:Int
 dh:List UInt8
 ns:List T.Nd
def outV (o:Ot):OutV:=⟨o.prog,o.ah,o.v.coin,o.v.l,o.kind,o.dh,o.ns⟩
def outD (xs:List UInt8) (st:Option Nat):Option (OutV × Nat):=match valD xs (adE xs st) with
 | none=>none
 | some ((x,l),s2) =>
   if W.numV xs s2 1=1 then (W.numS xs (W.numS xs s2 1) 32).map fun p=>(⟨W.flagV xs st,W.hashV xs (W.flagS xs st),x,l,W.numV xs s2 1,W.hashV xs (W.numS xs s2 1),[]⟩,p)
   else if W.numV xs s2 1=2 then (decT xs 100 1 [] (W.numS xs s2 1)).map fun y=>(⟨W.flagV xs st,W.hashV xs (W.flagS xs st),x,l,W.numV xs s2 1,List.replicate 32 0,y.1⟩,y.2)
   else (W.numS xs s2 1).map fun p=>(⟨W.flagV xs st,W.hashV xs (W.flagS xs st),x,l,W.numV xs s2 1,List.replicate 32 0,[]⟩,p)
def OutG (g k:Nat) (xs:List UInt8) (c:Nat) (w:World) (d:Option (OutV × Nat)) (e:Ending) (w':World):Prop :=
 W.Only g w w' none∧((∃ o st,e=.returned (.agg (otC o))∧o.ah.length=32∧o.dh.length=32∧OwnAs w' w.heap.size (.slice o.v.pa o.v.l.length o.v.c) o.v.l∧T.OwnT w' w.heap.size (.slice o.tp o.ns.length o.tc) o.ns∧o.ns.length≤100∧(∀ x ∈ o.ns,NdIn x)∧(∀ a ∈ o.v.l,AsOk a)∧o.v.l.length≤30∧(-9223372036854775808≤o.v.coin∧o.v.coin < 9223372036854775808)∧W.RSt w' g k xs c st∧d=st.map fun p=>(outV o,p)) ∨ (Fault e∧d=none∧∃ st,W.RSt w' g k xs c st))
theorem getterOutput_any (w:World) (g k:Nat) (xs:List UInt8) (c:Nat) (st:Option Nat) (h:W.RSt w g k xs c st) (hx:xs.length < 1000000) :
 Calls Tryz.prog 154 #[.agg #[.pointer (some ⟨g,0,none⟩)]] w (OutG g k xs c w (outD xs st)):=by
 obtain ⟨b1,b2,b3,b4⟩:=box_two w #[.pointer (some ⟨g,0,none⟩)] Tryz.zeroCells35 174 35
 obtain ⟨res,hres⟩:∃ r,r=outD xs st:=⟨_,rfl⟩
 rw [← hres]
 obtain ⟨pr,hpr⟩:∃ b,b=W.flagV xs st:=⟨_,rfl⟩
 obtain ⟨ah,hah⟩:∃ b,b=W.hashV xs (W.flagS xs st):=⟨_,rfl⟩
 obtain ⟨s1,hs1⟩:∃ s,s=adE xs st:=⟨_,rfl⟩
 obtain ⟨vd,hvd⟩:∃ v,v=valD xs s1:=⟨_,rfl⟩
 have HAH:=Hj (show ah.length=32 by rw [hah];exact hashV_len xs _)
 have HVD:=Hj hvd
 have HLT:=Hj h.lt
 have H:=Hj (Aj h (Aj hres (Aj hpr (Aj hah hs1))))
 clear h hres
 obtain ⟨W0,HW⟩:∃ W0,(w.alloc (.cells #[.pointer (some ⟨g,0,none⟩)] 174)).alloc (.cells Tryz.zeroCells35 35)=W0:=⟨_,rfl⟩
 go_enter Tryz.func154,Tryz.ntmps154
 go_upto_region 1 with fail
 rw [HW] at b1 b2 b3 b4
 clear HW
 obtain ⟨p,hp⟩:∃ p,p=w.heap.size:=⟨_,rfl⟩
 obtain ⟨q,hq⟩:∃ q,q=w.heap.size+1:=⟨_,rfl⟩
 rw [← hq] at b2 ⊢
 rw [← hp] at b1 ⊢
 have HP:=Hj (show p < W0.heap.size∧p≠g∧g < W0.heap.size from ⟨b1.lt,by have:=HLT.out;omega,by have:=HLT.out;omega⟩)
 have HB:=Hj (Aj b1 (Aj b2 (Aj b3 (Aj b4 (Aj hp hq)))))
 clear b1 b2 b3 b4 hp hq
 rename_i K hK
 have HK:Hid ((∀ U,W.RSt U g k xs c st→Calls Tryz.prog 227 #[.agg #[.pointer (some ⟨g,0,none⟩)]] U (GotR g k xs c U (.agg (adC pr ah)) s1))∧(∀ U,W.RSt U g k xs c s1→Calls Tryz.prog 150 #[.agg #[.pointer (some ⟨g,0,none⟩)]] U (ValG g k xs c U vd))∧∀ U s,W.RSt U g k xs c s→Calls Tryz.prog 200 #[.pointer (some ⟨g,0,none⟩)] U fun e w'=>e=.returned (.int .i64 (W.numV xs s 1))∧W.RSt w' g k xs c (W.numS xs s 1)∧W.Only g U w' none):=Hj ⟨fun U hU=>by rw [hpr,hah,hs1];exact getterAddress_any U g k xs c st hU,fun U hU=>by rw [hvd];exact getterValue_any U g k xs c s1 hU hx,fun U s hU=>W.ask25_st U g k xs c s hU⟩
 have HPN:Hid (∀ ch (A:Act) V s9,A.defers=[]→W.Only g W0 V none→Fault (.panicked ch)→vd=none→W.RSt V g k xs c s9→(Exit.then K (bodyPost Tryz.prog Tryz.f154 (OutG g k xs c w res))) (.panic ch) A V):=Hj fun ch A V s9 hA ho hf hv hr=>by
  refine ⟨hA,(W.only_below HB.out.2.2.1).trans0 ho,.inr ⟨hf,?_,s9,hr⟩⟩
  rw [H.out.2.1]
  unfold outD
  rw [← hs1,← hvd,hv]
 have HREST:Hid (∀ (b:Nat) (U:World) (x:Int) (l:List As) (a:Option Addr) (cp kd:Nat) (s2:Option Nat),OS W0 U g k xs c p (W.numS xs s2 1)→OA W0 U b→RowFar W0 U b a l.length cp l→kd=W.numV xs s2 1→vd=some ((x,l),s2)→K { tmps:=#[.agg #[.pointer (some ⟨g,0,none⟩)],.pointer (some ⟨p,0,none⟩),.pointer (some ⟨q,0,none⟩),.pointer (some ⟨b,0,none⟩),.agg #[.pointer (some ⟨g,0,none⟩)],.agg (adC pr ah),.agg #[.pointer (some ⟨g,0,none⟩)],.agg #[.int .i64 x,.slice a l.length cp],.pointer (some ⟨p,0,none⟩),.pointer (some ⟨g,0,none⟩),.int .i64 kd,.agg (otC ⟨pr,ah,⟨x,a,l,cp⟩,kd,List.replicate 32 0,none,[],0⟩),undef,undef,undef,undef,undef,undef,undef,undef,undef,undef,undef,undef,undef,undef],defers:=[] } (U.setRow b (otC ⟨pr,ah,⟨x,a,l,cp⟩,kd,List.replicate 32 0,none,[],0⟩))):=Hj fun b U x l a cp kd s2 hS hA hF hkd hv=>by
  refine hK _ _ ?_
  clear HPN HK hK
  obtain ⟨o1,ho1⟩:∃ o:Ot,o=⟨pr,ah,⟨x,a,l,cp⟩,kd,List.replicate 32 0,none,[],0⟩:=⟨_,rfl⟩
  rw [← ho1]
  have hbg:b≠g:=by have:=hA.ge;have:=HP.out.2.2;omega
  have hbk:b≠k:=by have:=hA.ge;have:=HLT.out;have:=HB.out.2.2.1.size;omega
  have hqg:q≠g:=by rw [HB.out.2.2.2.2.2];have:=HLT.out;omega
  have hqk:q≠k:=by rw [HB.out.2.2.2.2.2];have:=HLT.out;omega
  have hqW:q < W0.heap.size:=HB.out.2.1.lt
  have hqb:q≠b:=by have:=hA.ge;omega
  have hLb:=Lies.setRow hA.z (otC o1)
  have hrd:=rst_row hS.rd (otC o1) hbg hbk
  have hon:=W.only_row hS.on hA.ge (otC o1)
  have hoas:OwnAs (U.setRow b (otC o1)) W0.heap.size (.slice a l.length cp) l:=W.own_only (g:=b) hF.own (only_rowsG b U _) (fun e=>hF.far b e rfl) (fun _ _=>by simp)
  have hlq:Lies (U.setRow b (otC o1)) q Tryz.zeroCells35 35:=(setRow_other _ _ _ _ hqb).trans (hS.on.lies HB.out.2.1 hqg)
  have hcur:(U.setRow b (otC o1)).cell? ⟨p,0,none⟩=some (.pointer (some ⟨g,0,none⟩)):=by
   rw [show (U.setRow b (otC o1)).cell? ⟨p,0,none⟩=U.cell? ⟨p,0,none⟩ by simp only [World.cell?];rw [setRow_other _ _ _ _ (by have:=hA.ge;have:=HP.out.1;omega)]]
   exact hS.cur
  have hfar:=hF.far
  have hbW:=hA.ge
  clear hS hA hF
  generalize U.setRow b (otC o1)=V at *
  have hah1:o1.ah.length=32:=by rw [ho1];exact HAH.out
  have hdh1:o1.dh.length=32:=by rw [ho1];rfl
  have c35:V.cell? ⟨b,35,none⟩=some (.int .i64 kd):=by
   have:=(otAt_of (range_lies hLb) hah1 hdh1).kind
   rw [ho1] at this
   simpa using this
  have hcx:=valD_coin (HVD.out.symm.trans hv)
  obtain ⟨hok3,hll3⟩:(∀ a ∈ l,AsOk a)∧l.length≤30:=valD_30 (HVD.out.symm.trans hv)
  obtain ⟨s3,hs3⟩:∃ s,s=W.numS xs s2 1:=⟨_,rfl⟩
  rw [← hs3] at hrd
  have hres:res=if kd=1 then (W.numS xs s3 32).map fun p=>(⟨pr,ah,x,l,kd,W.hashV xs s3,[]⟩,p) else if kd=2 then (decT xs 100 1 [] s3).map fun y=>(⟨pr,ah,x,l,kd,List.replicate 32 0,y.1⟩,y.2) else s3.map fun p=>(⟨pr,ah,x,l,kd,List.replicate 32 0,[]⟩,p):=by
   rw [H.out.2.1]
   unfold outD
   rw [← hs1,← hvd,hv,hs3,hkd,hpr,hah]
  clear hkd hv hs3 hpr hah hs1 hvd hx
  by_cases k1:kd=1
  · subst k1
    rw [if_pos rfl] at hres
    obtain ⟨hh,hhh⟩:∃ x,x=W.hashV xs s3:=⟨_,rfl⟩
    obtain ⟨ha,hha⟩:∃ x,x=B8 hh:=⟨_,rfl⟩
    have hC:=W.hash_rst V g k xs c s3 hrd
    rw [← hhh,show W.B8 hh=ha from hha.symm] at hC
    have HC:=Hj hC
    have hh32:hh.length=32:=by rw [hhh];exact hashV_len xs s3
    have hvs:ha.size=32:=by rw [hha,B8_size];exact hh32
    have HG:=Hj (Aj hLb (Aj hon (Aj hoas (Aj hlq (Aj hah1 (Aj hdh1 (Aj hres (Aj hhh (Aj hha ho1)))))))))
    clear hC hLb hrd hon hoas hlq hah1 hdh1 hres hhh hha ho1 U
    have q1:((1:Nat):Int)=1:=rfl
    go_wp2_with fail
    refine HC.out.mono ?_
    rintro e V2 ⟨rfl,hrd2,ho2⟩
    have hL2:=ho2.lies HG.out.1 hbg
    have hst:(storeCells ⟨b,36,none⟩ ha.toList 0).run Tryz.prog V2=.ok () (V2.setCells b 36 ha.toList):=by
     have hcell:∀ j,j < 69→∃ v,(otC o1)[j]? = some v:=fun j hj=>⟨_,Array.getElem?_eq_getElem (by rw [otC_size o1 HG.out.2.2.2.2.1 HG.out.2.2.2.2.2.1];exact hj)⟩
     refine run_storeCells_cells b 36 ha.toList 0 V2 (fun j hj => ?_) (fun j hj=>hL2.free _) (fun v hv => ?_)
     · rw [Array.length_toList,hvs] at hj
       obtain ⟨v,hv⟩:=hcell (36+0+j) (by omega)
       rw [hL2.cell _ hv]
       rfl
     · have:=B8_one hh
       rw [← HG.out.2.2.2.2.2.2.2.2.1] at this
       exact (Array.all_eq_true_iff_forall_mem.1 this) v (by simpa using hv)
    obtain ⟨o2,ho2e⟩:∃ o:Ot,o={ o1 with dh:=hh }:=⟨_,rfl⟩
    have hont3:T.OwnT (V2.setCells b 36 ha.toList) W0.heap.size (.slice o2.tp o2.ns.length o2.tc) o2.ns:=by rw [ho2e,HG.out.2.2.2.2.2.2.2.2.2];exact World.ownsRow_nil _ _ _ _
    have hah3:o2.ah.length=32:=by rw [ho2e];exact HG.out.2.2.2.2.1
    have hdh3:o2.dh.length=32:=by rw [ho2e];exact hh32
    have hrng3:(V2.setCells b 36 ha.toList).rangeAt b 0 (otC o2).toList:=by
     have h0:=range_lies hL2
     rw [otC_listX o1] at h0
     rw [otC_listX o2,ho2e]
     have hX:=otX_len o1 HG.out.2.2.2.2.1
     have e1:=range_left h0
     have e2:=range_right (range_right h0)
     rw [hX,show (B8 o1.dh).toList.length=32 by rw [Array.length_toList,B8_size];exact HG.out.2.2.2.2.2.1] at e2
     refine range_app ?_ (range_app ?_ ?_)
     · exact World.rangeAt_setCells_apart e1 b 36 _ (.inr (.inl (by rw [hX];exact Nat.le_refl _)))
     · show (V2.setCells b 36 ha.toList).rangeAt b (0+(otX o1).length) (B8 hh).toList
       rw [hX,← HG.out.2.2.2.2.2.2.2.2.1]
       exact World.rangeAt_setCells_same V2 b 36 _ (fun j hj=>by
        rw [Array.length_toList,hvs] at hj
        refine ⟨?_,hL2.free _⟩
        rw [hL2.cell (36+j) (Array.getElem?_eq_getElem (by rw [otC_size o1 HG.out.2.2.2.2.1 HG.out.2.2.2.2.2.1];omega))]
        rfl)
     · show (V2.setCells b 36 ha.toList).rangeAt b (0+(otX o1).length+(B8 hh).toList.length) _
       rw [hX,show (B8 hh).toList.length=32 by rw [Array.length_toList,B8_size];exact hh32]
       exact World.rangeAt_setCells_apart e2 b 36 _ (.inr (.inr (by simp [hvs])))
    have hoc:=only_cells b ha.toList 36 V2
    have hrd3:=hrd2.only hoc (Ne.symm hbg) (Ne.symm hbk)
    have hon3:=(HG.out.2.1.trans0 ho2).trans0N hoc hbW
    have hoas3:OwnAs (V2.setCells b 36 ha.toList) W0.heap.size (.slice o2.v.pa o2.v.l.length o2.v.c) o2.v.l:=by
     rw [ho2e,HG.out.2.2.2.2.2.2.2.2.2]
     exact W.own_only (g:=b) (W.own_only HG.out.2.2.1 ho2 (fun e=>by have:=(W.own_block HG.out.2.2.1 _ e).1;have:=HP.out.2.2;omega) (fun _ _=>by simp)) hoc (fun e=>hfar b e rfl) (fun _ _=>by simp)
    have hlq3:=hoc.lies (ho2.lies HG.out.2.2.2.1 hqg) hqb
    have htl3:o2.ns.length≤100:=by rw [ho2e,HG.out.2.2.2.2.2.2.2.2.2];exact Nat.zero_le _
    have hti3:∀ x ∈ o2.ns,NdIn x:=by rw [ho2e,HG.out.2.2.2.2.2.2.2.2.2];intro x hx;cases hx
    have hok3:∀ a ∈ o2.v.l,AsOk a:=by rw [ho2e,HG.out.2.2.2.2.2.2.2.2.2];exact hok3
    have hll3:o2.v.l.length≤30:=by rw [ho2e,HG.out.2.2.2.2.2.2.2.2.2];exact hll3
    have hcn3:-9223372036854775808≤o2.v.coin∧o2.v.coin < 9223372036854775808:=by rw [ho2e,HG.out.2.2.2.2.2.2.2.2.2];exact hcx
    have hdone3:res=(W.numS xs s3 32).map fun p=>(outV o2,p):=by rw [HG.out.2.2.2.2.2.2.1,ho2e,HG.out.2.2.2.2.2.2.2.2.2,HG.out.2.2.2.2.2.2.2.1];rfl
    obtain ⟨cs,hcs⟩:∃ cs,cs=otC o2:=⟨_,rfl⟩
    have hsz:cs.size=69:=by rw [hcs];exact otC_size o2 hah3 hdh3
    have hone:cs.all (·.oneCell')=true:=by rw [hcs];exact otG_one o2
    have hsc:(storeCells ⟨q,0,none⟩ cs.toList 0).run Tryz.prog (V2.setCells b 36 ha.toList)=.ok () (World.setRow (V2.setCells b 36 ha.toList) q cs):=by
     have:=run_storeCells_from (P:=Tryz.prog) q 35 cs.toList 0 Tryz.zeroCells35 (V2.setCells b 36 ha.toList) hlq3 (by rw [Array.length_toList,hsz];kernel_rfl) (fun v hv=>(Array.all_eq_true_iff_forall_mem.1 hone) v (by simpa using hv))
     simpa using this
    have HL:=Hj (show World.rangeAt (V2.setCells b 36 ha.toList) b 0 cs.toList by rw [hcs];exact hrng3)
    have HI:=Hj (show (Tryz.prog.info? 35).map (·.size)=some cs.size by rw [hsz];exact info_output)
    have HLL:=Hj (show (Tryz.prog.info? 35).map (·.size)=some cs.toList.length by rw [Array.length_toList];exact HI.out)
    have HF:=Hj (Aj (Lies.setRow hlq3 cs) (Aj (show OutG g k xs c w res (.returned (.agg cs)) (World.setRow (V2.setCells b 36 ha.toList) q cs) from ⟨W.only_row ((W.only_below HB.out.2.2.1).trans0 hon3) (k:=q) (by rw [HB.out.2.2.2.2.2];exact Nat.le_succ _) cs,.inl ⟨o2,W.numS xs s3 32,by rw [hcs],hah3,hdh3,ownsRow_weak (own_row hoas3 hqW cs) HB.out.2.2.1.size,ownsRow_weak (own_row hont3 hqW cs) HB.out.2.2.1.size,htl3,hti3,hok3,hll3,hcn3,rst_row hrd3 cs hqg hqk,hdone3⟩⟩) trivial))
    clear hrng3 hrd3 hon3 hoas3 hont3 hlq3 hone hcs htl3 hti3 hdone3
    clear hL2 hoc hrd2 ho2 c35 hcur HC
    go_wp2_with (first
     | (at_builtin;fail)
     | (refine wpList_load_mid rfl 35 _ rfl b 0 rfl cs.toList _ HL.out Tryz.underlying35 rfl HLL.out ?_))
    exact bodyPost_ret (v:=.agg cs) (results_cell_row (p:=2) (ty:=35) (by kernel_rfl) _ _ q 35 cs (0,0) _ rfl HF.out.1 Tryz.underlying35 rfl HI.out) rfl HF.out.2.1
  · by_cases k2:kd=2
    · subst k2
      rw [if_neg k1,if_pos rfl] at hres
      have q1:¬ ((2:Nat):Int)=1:=by decide
      have q2:((2:Nat):Int)=2:=rfl
      have HC:=Hj (getterTerm_any V g k xs c s3 hrd)
      have HG:=Hj (Aj hLb (Aj hon (Aj hoas (Aj hlq (Aj hah1 (Aj hdh1 (Aj hres ho1)))))))
      clear hLb hrd hon hoas hlq hah1 hdh1 hres ho1 U k1
      go_wp2_with fail
      refine HC.out.mono ?_
      rintro e V2 ⟨ho2,hcase⟩
      have hL2:=ho2.lies HG.out.1 hbg
      rcases hcase with ⟨ns,ta,m,tcp,s4,rfl,hown,hlen,hins,hrd2,hdec⟩ | ⟨⟨mm,rfl⟩,hdec,s4,hrd2⟩
      case inr =>
       have HF:=Hj (Aj ((W.only_below HB.out.2.2.1).trans0 (HG.out.2.1.trans0 ho2)) (Aj hrd2 hdec))
       clear hL2 ho2 hrd2 hdec HC
       go_wp2_with fail
       exact ⟨rfl,HF.out.1,.inr ⟨⟨mm,rfl⟩,by rw [HG.out.2.2.2.2.2.2.1,HF.out.2.2];rfl,s4,HF.out.2.1⟩⟩
      have hmn:m=ns.length:=own_n hown
      obtain ⟨o2,ho2e⟩:∃ o:Ot,o={ o1 with tp:=ta,ns:=ns,tc:=tcp }:=⟨_,rfl⟩
      have k68:V2.cell? ⟨b,68,none⟩=some (.slice none 0 0):=by
       have:=(otAt_of (range_lies hL2) HG.out.2.2.2.2.1 HG.out.2.2.2.2.2.1).term
       rw [HG.out.2.2.2.2.2.2.2] at this
       simpa using this
      have f68:V2.frozen? ⟨b,68,none⟩=false:=hL2.free 68
      have hoc:=W.only_set b 68 V2 (.slice ta m tcp)
      have hVW:W0.heap.size≤V.heap.size:=HG.out.2.1.size
      have hont3:T.OwnT (V2.setCell ⟨b,68,none⟩ (.slice ta m tcp)) W0.heap.size (.slice o2.tp o2.ns.length o2.tc) o2.ns:=by
       rw [ho2e]
       show T.OwnT _ _ (.slice ta ns.length tcp) ns
       rw [← hmn]
       exact ownT_weak (W.own_only (g:=b) hown hoc (fun e=>by have:=hown.above e;have:=HG.out.1.lt;omega) (fun _ _=>by simp)) hVW
      have hah3:o2.ah.length=32:=by rw [ho2e];exact HG.out.2.2.2.2.1
      have hdh3:o2.dh.length=32:=by rw [ho2e];exact HG.out.2.2.2.2.2.1
      have hrng3:(V2.setCell ⟨b,68,none⟩ (.slice ta m tcp)).rangeAt b 0 (otC o2).toList:=by
       have h0:=range_lies hL2
       rw [otC_listX o1,← List.append_assoc] at h0
       rw [otC_listX o2,← List.append_assoc,ho2e]
       have hX:=otX_len o1 HG.out.2.2.2.2.1
       have hD:(otX o1 ++ (B8 o1.dh).toList).length=68:=by rw [List.length_append,hX,show (B8 o1.dh).toList.length=32 by rw [Array.length_toList,B8_size];exact HG.out.2.2.2.2.2.1]
       have e1:=range_left h0
       refine range_app ?_ ?_
       · intro j v hj
         have hlt:j < 68:=by rw [← hD];exact (List.getElem?_eq_some_iff.1 hj).1
         rw [World.cell?_setCell_other _ _ _ _ (by intro e;have:=congrArg Addr.off e;simp at this;omega)]
         exact e1 j v hj
       · show (V2.setCell ⟨b,68,none⟩ (.slice ta m tcp)).rangeAt b (0+(otX o1 ++ (B8 o1.dh).toList).length) [.slice ta ns.length tcp]
         rw [hD]
         intro j v hj
         match j,hj with
         | 0,hj =>
           have hv:Value.slice ta ns.length tcp=v:=Option.some.inj hj
           rw [← hv,← hmn]
           exact World.cell?_setCell_same _ _ _ k68
         | j+1,hj=>simp at hj
      have hrd3:=hrd2.only hoc (Ne.symm hbg) (Ne.symm hbk)
      have hon3:=(HG.out.2.1.trans0 ho2).trans0N hoc hbW
      have hoas3:OwnAs (V2.setCell ⟨b,68,none⟩ (.slice ta m tcp)) W0.heap.size (.slice o2.v.pa o2.v.l.length o2.v.c) o2.v.l:=by
       rw [ho2e,HG.out.2.2.2.2.2.2.2]
       exact W.own_only (g:=b) (W.own_only HG.out.2.2.1 ho2 (fun e=>by have:=(W.own_block HG.out.2.2.1 _ e).1;have:=HP.out.2.2;omega) (fun _ _=>by simp)) hoc (fun e=>hfar b e rfl) (fun _ _=>by simp)
      have hlq3:=hoc.lies (ho2.lies HG.out.2.2.2.1 hqg) hqb
      have htl3:o2.ns.length≤100:=by rw [ho2e];exact hlen
      have hti3:∀ x ∈ o2.ns,NdIn x:=by rw [ho2e];exact hins
      have hok3:∀ a ∈ o2.v.l,AsOk a:=by rw [ho2e,HG.out.2.2.2.2.2.2.2];exact hok3
      have hll3:o2.v.l.length≤30:=by rw [ho2e,HG.out.2.2.2.2.2.2.2];exact hll3
      have hcn3:-9223372036854775808≤o2.v.coin∧o2.v.coin < 9223372036854775808:=by rw [ho2e,HG.out.2.2.2.2.2.2.2];exact hcx
      have hdone3:res=s4.map fun p=>(outV o2,p):=by
       rw [HG.out.2.2.2.2.2.2.1,hdec,ho2e,HG.out.2.2.2.2.2.2.2]
       cases s4 <;> rfl
      obtain ⟨cs,hcs⟩:∃ cs,cs=otC o2:=⟨_,rfl⟩
      have hsz:cs.size=69:=by rw [hcs];exact otC_size o2 hah3 hdh3
      have hone:cs.all (·.oneCell')=true:=by rw [hcs];exact otG_one o2
      have hsc:(storeCells ⟨q,0,none⟩ cs.toList 0).run Tryz.prog (V2.setCell ⟨b,68,none⟩ (.slice ta m tcp))=.ok () (World.setRow (V2.setCell ⟨b,68,none⟩ (.slice ta m tcp)) q cs):=by
       have:=run_storeCells_from (P:=Tryz.prog) q 35 cs.toList 0 Tryz.zeroCells35 (V2.setCell ⟨b,68,none⟩ (.slice ta m tcp)) hlq3 (by rw [Array.length_toList,hsz];kernel_rfl) (fun v hv=>(Array.all_eq_true_iff_forall_mem.1 hone) v (by simpa using hv))
       simpa using this
      have HL:=Hj (show World.rangeAt (V2.setCell ⟨b,68,none⟩ (.slice ta m tcp)) b 0 cs.toList by rw [hcs];exact hrng3)
      have HI:=Hj (show (Tryz.prog.info? 35).map (·.size)=some cs.size by rw [hsz];exact info_output)
      have HLL:=Hj (show (Tryz.prog.info? 35).map (·.size)=some cs.toList.length by rw [Array.length_toList];exact HI.out)
      have HF:=Hj (Aj (Lies.setRow hlq3 cs) (Aj (show OutG g k xs c w res (.returned (.agg cs)) (World.setRow (V2.setCell ⟨b,68,none⟩ (.slice ta m tcp)) q cs) from ⟨W.only_row ((W.only_below HB.out.2.2.1).trans0 hon3) (k:=q) (by rw [HB.out.2.2.2.2.2];exact Nat.le_succ _) cs,.inl ⟨o2,s4,by rw [hcs],hah3,hdh3,ownsRow_weak (own_row hoas3 hqW cs) HB.out.2.2.1.size,ownsRow_weak (own_row hont3 hqW cs) HB.out.2.2.1.size,htl3,hti3,hok3,hll3,hcn3,rst_row hrd3 cs hqg hqk,hdone3⟩⟩) trivial))
      clear hrng3 hrd3 hon3 hoas3 hont3 hlq3 hone hcs htl3 hti3 hdone3
      clear hL2 hoc hrd2 ho2 c35 hcur HC hown hlen hins hdec hmn ho2e hVW
      go_wp2_with (first
       | (at_builtin;fail)
       | (refine wpList_load_mid rfl 35 _ rfl b 0 rfl cs.toList _ HL.out Tryz.underlying35 rfl HLL.out ?_))
      exact bodyPost_ret (v:=.agg cs) (results_cell_row (p:=2) (ty:=35) (by kernel_rfl) _ _ q 35 cs (0,0) _ rfl HF.out.1 Tryz.underlying35 rfl HI.out) rfl HF.out.2.1
    · rw [if_neg k1,if_neg k2] at hres
      have q1:¬ (kd:Int)=1:=by omega
      have q2:¬ (kd:Int)=2:=by omega
      have hont3:T.OwnT V W0.heap.size (.slice o1.tp o1.ns.length o1.tc) o1.ns:=by rw [ho1];exact World.ownsRow_nil _ _ _ _
      have hah3:=hah1
      have hdh3:=hdh1
      have hrng3:=range_lies hLb
      have hrd3:=hrd
      have hon3:=hon
      have hoas3:OwnAs V W0.heap.size (.slice o1.v.pa o1.v.l.length o1.v.c) o1.v.l:=by rw [ho1];exact hoas
      have hlq3:=hlq
      have htl3:o1.ns.length≤100:=by rw [ho1];exact Nat.zero_le _
      have hti3:∀ x ∈ o1.ns,NdIn x:=by rw [ho1];intro x hx;cases hx
      have hok3:∀ a ∈ o1.v.l,AsOk a:=by rw [ho1];exact hok3
      have hll3:o1.v.l.length≤30:=by rw [ho1];exact hll3
      have hcn3:-9223372036854775808≤o1.v.coin∧o1.v.coin < 9223372036854775808:=by rw [ho1];exact hcx
      have hdone3:res=s3.map fun p=>(outV o1,p):=by rw [hres,ho1];rfl
      obtain ⟨cs,hcs⟩:∃ cs,cs=otC o1:=⟨_,rfl⟩
      have hsz:cs.size=69:=by rw [hcs];exact otC_size o1 hah3 hdh3
      have hone:cs.all (·.oneCell')=true:=by rw [hcs];exact otG_one o1
      have hsc:(storeCells ⟨q,0,none⟩ cs.toList 0).run Tryz.prog (V)=.ok () (World.setRow (V) q cs):=by
       have:=run_storeCells_from (P:=Tryz.prog) q 35 cs.toList 0 Tryz.zeroCells35 (V) hlq3 (by rw [Array.length_toList,hsz];kernel_rfl) (fun v hv=>(Array.all_eq_true_iff_forall_mem.1 hone) v (by simpa using hv))
       simpa using this
      have HL:=Hj (show World.rangeAt (V) b 0 cs.toList by rw [hcs];exact hrng3)
      have HI:=Hj (show (Tryz.prog.info? 35).map (·.size)=some cs.size by rw [hsz];exact info_output)
      have HLL:=Hj (show (Tryz.prog.info? 35).map (·.size)=some cs.toList.length by rw [Array.length_toList];exact HI.out)
      have HF:=Hj (Aj (Lies.setRow hlq3 cs) (Aj (show OutG g k xs c w res (.returned (.agg cs)) (World.setRow (V) q cs) from ⟨W.only_row ((W.only_below HB.out.2.2.1).trans0 hon3) (k:=q) (by rw [HB.out.2.2.2.2.2];exact Nat.le_succ _) cs,.inl ⟨o1,s3,by rw [hcs],hah3,hdh3,ownsRow_weak (own_row hoas3 hqW cs) HB.out.2.2.1.size,ownsRow_weak (own_row hont3 hqW cs) HB.out.2.2.1.size,htl3,hti3,hok3,hll3,hcn3,rst_row hrd3 cs hqg hqk,hdone3⟩⟩) trivial))
      clear hrng3 hrd3 hon3 hoas3 hont3 hlq3 hone hcs htl3 hti3 hdone3
      clear hLb hrd hon hoas hlq hah1 hdh1 hres ho1 k1 k2
      go_wp2_with (first
       | (at_builtin;fail)
       | (refine wpList_load_mid rfl 35 _ rfl b 0 rfl cs.toList _ HL.out Tryz.underlying35 rfl HLL.out ?_))
      exact bodyPost_ret (v:=.agg cs) (results_cell_row (p:=2) (ty:=35) (by kernel_rfl) _ _ q 35 cs (0,0) _ rfl HF.out.1 Tryz.underlying35 rfl HI.out) rfl HF.out.2.1
 clear hpr hah hs1 hvd hK hx
 refine wp_region_held (S:=fun V=>V.cell? ⟨p,0,none⟩=some (.pointer (some ⟨g,0,none⟩))) (by kernel_rfl) ?_
 change wpAnyH _ _ _ _ _ 10 _ _ (World.drew W0)
 have hd:Below W0.heap.size W0 W0.drew:=(Below.refl _ _).drew
 have hS0:OS W0 W0.drew g k xs c p st:=⟨HB.out.1.cell 0 rfl,H.out.1.below (HB.out.2.2.1.trans (hd.mono HB.out.2.2.1.size)),W.only_below hd⟩
 refine tk 0 (.agg #[.pointer (some ⟨g,0,none⟩)]) 4 rfl rfl hS0.cur ?_ (by intro w' hS';unfold execOp;simp [go_sem,hS'])
 refine tk 2 (.agg #[.pointer (some ⟨g,0,none⟩)]) 6 rfl rfl hS0.cur ?_ (by intro w' hS';unfold execOp;simp [go_sem,hS'])
 refine tk 4 (.pointer (some ⟨p,0,none⟩)) 8 rfl rfl hS0.cur ?_
 refine tk 5 (.pointer (some ⟨g,0,none⟩)) 9 rfl rfl hS0.cur ?_ (by intro w' hS';unfold execOp;simp [go_sem,hS'])
 clear hd
 generalize W0.drew=U0 at hS0 ⊢
 refine held_two (i:=1) (j:=8) (by kernel_rfl) _ _ rfl rfl ?_ ?_
 · skip
   refine wpOp_callG rfl (by rfl) 5 rfl 227 #[.agg #[.pointer (some ⟨g,0,none⟩)]] (by unfold execOp;simp [go_sem]) (fun v w'=>v=.agg (adC pr ah)∧W.RSt w' g k xs c s1∧W.Only g U0 w' none) ((HK.out.1 U0 hS0.rd).mono fun e w' k=>⟨_,k.1,rfl,k.2.1,k.2.2⟩) ?_
   rintro _ U1 ⟨rfl,hr,ho⟩
   have hS1:=hS0.step HP.out.1 HP.out.2.1 ho hr
   refine ⟨hS1.cur,?_⟩
   simp only [Sj]
   refine held_two (i:=3) (j:=8) (by kernel_rfl) _ _ rfl rfl ?_ ?_
   · skip
     refine wpOp_callP rfl (by rfl) 7 rfl 150 #[.agg #[.pointer (some ⟨g,0,none⟩)]] (by unfold execOp;simp [go_sem]) _ _ (valG_forms (HK.out.2.1 U1 hS1.rd)) ?_ ?_
     case refine_2 =>
      rintro ch V ⟨ho,hf,hv,s9,hr⟩
      exact HPN.out ch _ V s9 rfl (hS1.on.trans0 ho) hf hv hr
     rintro _ U2 ⟨ho,x,l,a,n,cp,s2,rfl,hown,hr,hv⟩
     obtain ⟨hlm,hok⟩:=valD_ok (HVD.out.symm.trans hv)
     obtain ⟨a9,c9,he9,hrow⟩:=OwnAs.row hown hok hlm
     obtain ⟨rfl,rfl,rfl⟩:a=a9∧n=l.length∧cp=c9:=by
      injection he9 with h1 h2 h3
      exact ⟨h1,h2,h3⟩
     have hS2:=hS1.step HP.out.1 HP.out.2.1 ho hr
     have hown2:OwnAs U2 W0.heap.size (.slice a l.length cp) l:=ownsRow_weak hown hS1.on.size
     refine ⟨hS2.cur,?_⟩
     simp only [Sj]
     refine held_two (i:=6) (j:=8) (by kernel_rfl) _ _ rfl rfl ?_ ?_
     · skip
       refine wpOp_callG rfl (by rfl) 10 rfl 200 #[.pointer (some ⟨g,0,none⟩)] (by unfold execOp;simp [go_sem]) (fun v w'=>(∃ kd:Nat,v=.int .i64 (kd:Int)∧kd=W.numV xs s2 1)∧W.RSt w' g k xs c (W.numS xs s2 1)∧W.Only g U2 w' none) ((HK.out.2.2 U2 s2 hS2.rd).mono fun e w' k=>⟨_,k.1,⟨_,rfl,rfl⟩,k.2.1,k.2.2⟩) ?_
       rintro _ U3 ⟨⟨kd,rfl,hkd⟩,hr,ho⟩
       have hS3:=hS2.step HP.out.1 HP.out.2.1 ho hr
       have hown3:OwnAs U3 W0.heap.size (.slice a l.length cp) l:=W.own_only hown2 ho (fun e=>by have:=(W.own_block hown2 _ e).1;have:=HP.out.2.2;omega) (fun _ _=>by simp)
       refine ⟨hS3.cur,?_⟩
       simp only [Sj]
       refine tk 7 (.agg (otC ⟨pr,ah,⟨x,a,l,cp⟩,kd,List.replicate 32 0,none,[],0⟩)) 11 rfl rfl hS3.cur ?_ (by intro w' hS';refine exec_build rfl ?_;simpa [Act.eval] using run_build w' 35 _ _ (built_outG pr ah HAH.out x a l cp kd))
       refine held_one (i:=8) (by kernel_rfl) _ rfl ?_
       refine wpOp_valG rfl (by rfl) 3 rfl (exec_allocO rfl) ?_
       have hb3:Below U3.heap.size U3 (U3.alloc (.cells Tryz.zeroCells35 35)):=(Below.refl _ _).alloc (Nat.le_refl _) _
       have hS4:=hS3.alloc HP.out.1 HP.out.2.1 (.cells Tryz.zeroCells35 35)
       have hA4:OA W0 (U3.alloc (.cells Tryz.zeroCells35 35)) U3.heap.size:=⟨Lies.new _ _ _,hS3.on.size⟩
       have hF4:RowFar W0 (U3.alloc (.cells Tryz.zeroCells35 35)) U3.heap.size a l.length cp l:=⟨ownsRow_below hown3 hb3,fun j e=>by have:=(W.own_block hown3 j e).2;omega⟩
       obtain ⟨b,hbe⟩:∃ b,b=U3.heap.size:=⟨_,rfl⟩
       rw [← hbe] at hA4 hF4 ⊢
       clear hbe
       generalize U3.alloc (.cells Tryz.zeroCells35 35)=U4 at hS4 hA4 hF4 ⊢
       refine ⟨hS4.cur,?_⟩
       simp only [Sj]
       refine held_one (i:=9) (by kernel_rfl) _ rfl (wpOp_storeRow rfl rfl rfl 35 (.tmp 3) (.tmp 11) rfl b (otC ⟨pr,ah,⟨x,a,l,cp⟩,kd,List.replicate 32 0,none,[],0⟩) rfl rfl 35 _ hA4.z (otG_info _ HAH.out (by simp)) (otG_size _ HAH.out (by simp)) (otG_one _) ?_)
       refine ⟨by rw [show (U4.setRow b _).cell? ⟨p,0,none⟩=U4.cell? ⟨p,0,none⟩ by simp only [World.cell?];rw [setRow_other _ _ _ _ (by have:=hA4.ge;have:=HP.out.1;omega)]];exact hS4.cur,?_⟩
       refine held_done (by kernel_rfl) ?_
       exact HREST.out b U4 x l a cp kd s2 hS4 hA4 hF4 hkd hv
     · skip
       refine wpOp_valG rfl (by rfl) 3 rfl (exec_allocO rfl) ?_
       have hb2:Below U2.heap.size U2 (U2.alloc (.cells Tryz.zeroCells35 35)):=(Below.refl _ _).alloc (Nat.le_refl _) _
       have hS3:=hS2.alloc HP.out.1 HP.out.2.1 (.cells Tryz.zeroCells35 35)
       have hA3:OA W0 (U2.alloc (.cells Tryz.zeroCells35 35)) U2.heap.size:=⟨Lies.new _ _ _,hS2.on.size⟩
       have hF3:RowFar W0 (U2.alloc (.cells Tryz.zeroCells35 35)) U2.heap.size a l.length cp l:=⟨ownsRow_below hown2 hb2,fun j e=>by have:=(W.own_block hown2 j e).2;omega⟩
       obtain ⟨b,hbe⟩:∃ b,b=U2.heap.size:=⟨_,rfl⟩
       rw [← hbe] at hA3 hF3 ⊢
       clear hbe
       generalize U2.alloc (.cells Tryz.zeroCells35 35)=U3 at hS3 hA3 hF3 ⊢
       refine ⟨hS3.cur,?_⟩
       simp only [Sj]
       refine held_one (i:=6) (by kernel_rfl) _ rfl ?_
       refine wpOp_callG rfl (by rfl) 10 rfl 200 #[.pointer (some ⟨g,0,none⟩)] (by unfold execOp;simp [go_sem]) (fun v w'=>(∃ kd:Nat,v=.int .i64 (kd:Int)∧kd=W.numV xs s2 1)∧W.RSt w' g k xs c (W.numS xs s2 1)∧W.Only g U3 w' none) ((HK.out.2.2 U3 s2 hS3.rd).mono fun e w' k=>⟨_,k.1,⟨_,rfl,rfl⟩,k.2.1,k.2.2⟩) ?_
       rintro _ U4 ⟨⟨kd,rfl,hkd⟩,hr,ho⟩
       have hS4:=hS3.step HP.out.1 HP.out.2.1 ho hr
       have hA4:=hA3.step HP.out.2.2 ho
       have hF4:RowFar W0 U4 b a l.length cp l:=⟨W.own_only hF3.own ho (fun e=>by have:=(W.own_block hF3.own _ e).1;have:=HP.out.2.2;omega) (fun _ _=>by simp),hF3.far⟩
       refine ⟨hS4.cur,?_⟩
       simp only [Sj]
       refine tk 7 (.agg (otC ⟨pr,ah,⟨x,a,l,cp⟩,kd,List.replicate 32 0,none,[],0⟩)) 11 rfl rfl hS4.cur ?_ (by intro w' hS';refine exec_build rfl ?_;simpa [Act.eval] using run_build w' 35 _ _ (built_outG pr ah HAH.out x a l cp kd))
       refine held_one (i:=9) (by kernel_rfl) _ rfl (wpOp_storeRow rfl rfl rfl 35 (.tmp 3) (.tmp 11) rfl b (otC ⟨pr,ah,⟨x,a,l,cp⟩,kd,List.replicate 32 0,none,[],0⟩) rfl rfl 35 _ hA4.z (otG_info _ HAH.out (by simp)) (otG_size _ HAH.out (by simp)) (otG_one _) ?_)
       refine ⟨by rw [show (U4.setRow b _).cell? ⟨p,0,none⟩=U4.cell? ⟨p,0,none⟩ by simp only [World.cell?];rw [setRow_other _ _ _ _ (by have:=hA4.ge;have:=HP.out.1;omega)]];exact hS4.cur,?_⟩
       refine held_done (by kernel_rfl) ?_
       exact HREST.out b U4 x l a cp kd s2 hS4 hA4 hF4 hkd hv
   · skip
     refine wpOp_valG rfl (by rfl) 3 rfl (exec_allocO rfl) ?_
     have hb1:Below U1.heap.size U1 (U1.alloc (.cells Tryz.zeroCells35 35)):=(Below.refl _ _).alloc (Nat.le_refl _) _
     have hS2:=hS1.alloc HP.out.1 HP.out.2.1 (.cells Tryz.zeroCells35 35)
     have hA2:OA W0 (U1.alloc (.cells Tryz.zeroCells35 35)) U1.heap.size:=⟨Lies.new _ _ _,hS1.on.size⟩
     obtain ⟨b,hbe⟩:∃ b,b=U1.heap.size:=⟨_,rfl⟩
     rw [← hbe] at hA2 ⊢
     clear hbe
     generalize U1.alloc (.cells Tryz.zeroCells35 35)=U2 at hS2 hA2 ⊢
     refine ⟨hS2.cur,?_⟩
     simp only [Sj]
     refine held_one (i:=3) (by kernel_rfl) _ rfl ?_
     refine wpOp_callP rfl (by rfl) 7 rfl 150 #[.agg #[.pointer (some ⟨g,0,none⟩)]] (by unfold execOp;simp [go_sem]) _ _ (valG_forms (HK.out.2.1 U2 hS2.rd)) ?_ ?_
     case refine_2 =>
      rintro ch V ⟨ho,hf,hv,s9,hr⟩
      exact HPN.out ch _ V s9 rfl (hS2.on.trans0 ho) hf hv hr
     rintro _ U3 ⟨ho,x,l,a,n,cp,s2,rfl,hown,hr,hv⟩
     obtain ⟨hlm,hok⟩:=valD_ok (HVD.out.symm.trans hv)
     obtain ⟨a9,c9,he9,hrow⟩:=OwnAs.row hown hok hlm
     obtain ⟨rfl,rfl,rfl⟩:a=a9∧n=l.length∧cp=c9:=by
      injection he9 with h1 h2 h3
      exact ⟨h1,h2,h3⟩
     have hS3:=hS2.step HP.out.1 HP.out.2.1 ho hr
     have hA3:=hA2.step HP.out.2.2 ho
     have hF3:RowFar W0 U3 b a l.length cp l:=⟨ownsRow_weak hown hS2.on.size,fun j e=>by have h1:=(W.own_block hown j e).1;have h2:=hA2.z.lt;omega⟩
     refine ⟨hS3.cur,?_⟩
     simp only [Sj]
     refine held_one (i:=6) (by kernel_rfl) _ rfl ?_
     refine wpOp_callG rfl (by rfl) 10 rfl 200 #[.pointer (some ⟨g,0,none⟩)] (by unfold execOp;simp [go_sem]) (fun v w'=>(∃ kd:Nat,v=.int .i64 (kd:Int)∧kd=W.numV xs s2 1)∧W.RSt w' g k xs c (W.numS xs s2 1)∧W.Only g U3 w' none) ((HK.out.2.2 U3 s2 hS3.rd).mono fun e w' k=>⟨_,k.1,⟨_,rfl,rfl⟩,k.2.1,k.2.2⟩) ?_
     rintro _ U4 ⟨⟨kd,rfl,hkd⟩,hr,ho⟩
     have hS4:=hS3.step HP.out.1 HP.out.2.1 ho hr
     have hA4:=hA3.step HP.out.2.2 ho
     have hF4:RowFar W0 U4 b a l.length cp l:=⟨W.own_only hF3.own ho (fun e=>by have:=(W.own_block hF3.own _ e).1;have:=HP.out.2.2;omega) (fun _ _=>by simp),hF3.far⟩
     refine ⟨hS4.cur,?_⟩
     simp only [Sj]
     refine tk 7 (.agg (otC ⟨pr,ah,⟨x,a,l,cp⟩,kd,List.replicate 32 0,none,[],0⟩)) 11 rfl rfl hS4.cur ?_ (by intro w' hS';refine exec_build rfl ?_;simpa [Act.eval] using run_build w' 35 _ _ (built_outG pr ah HAH.out x a l cp kd))
     refine held_one (i:=9) (by kernel_rfl) _ rfl (wpOp_storeRow rfl rfl rfl 35 (.tmp 3) (.tmp 11) rfl b (otC ⟨pr,ah,⟨x,a,l,cp⟩,kd,List.replicate 32 0,none,[],0⟩) rfl rfl 35 _ hA4.z (otG_info _ HAH.out (by simp)) (otG_size _ HAH.out (by simp)) (otG_one _) ?_)
     refine ⟨by rw [show (U4.setRow b _).cell? ⟨p,0,none⟩=U4.cell? ⟨p,0,none⟩ by simp only [World.cell?];rw [setRow_other _ _ _ _ (by have:=hA4.ge;have:=HP.out.1;omega)]];exact hS4.cur,?_⟩
     refine held_done (by kernel_rfl) ?_
     exact HREST.out b U4 x l a cp kd s2 hS4 hA4 hF4 hkd hv
 · skip
   refine wpOp_valG rfl (by rfl) 3 rfl (exec_allocO rfl) ?_
   have hb0:Below U0.heap.size U0 (U0.alloc (.cells Tryz.zeroCells35 35)):=(Below.refl _ _).alloc (Nat.le_refl _) _
   have hS1:=hS0.alloc HP.out.1 HP.out.2.1 (.cells Tryz.zeroCells35 35)
   have hA1:OA W0 (U0.alloc (.cells Tryz.zeroCells35 35)) U0.heap.size:=⟨Lies.new _ _ _,hS0.on.size⟩
   obtain ⟨b,hbe⟩:∃ b,b=U0.heap.size:=⟨_,rfl⟩
   rw [← hbe] at hA1 ⊢
   clear hbe
   generalize U0.alloc (.cells Tryz.zeroCells35 35)=U1 at hS1 hA1 ⊢
   refine ⟨hS1.cur,?_⟩
   simp only [Sj]
   refine held_one (i:=1) (by kernel_rfl) _ rfl ?_
   refine wpOp_callG rfl (by rfl) 5 rfl 227 #[.agg #[.pointer (some ⟨g,0,none⟩)]] (by unfold execOp;simp [go_sem]) (fun v w'=>v=.agg (adC pr ah)∧W.RSt w' g k xs c s1∧W.Only g U1 w' none) ((HK.out.1 U1 hS1.rd).mono fun e w' k=>⟨_,k.1,rfl,k.2.1,k.2.2⟩) ?_
   rintro _ U2 ⟨rfl,hr,ho⟩
   have hS2:=hS1.step HP.out.1 HP.out.2.1 ho hr
   have hA2:=hA1.step HP.out.2.2 ho
   refine ⟨hS2.cur,?_⟩
   simp only [Sj]
   refine held_one (i:=3) (by kernel_rfl) _ rfl ?_
   refine wpOp_callP rfl (by rfl) 7 rfl 150 #[.agg #[.pointer (some ⟨g,0,none⟩)]] (by unfold execOp;simp [go_sem]) _ _ (valG_forms (HK.out.2.1 U2 hS2.rd)) ?_ ?_
   case refine_2 =>
    rintro ch V ⟨ho,hf,hv,s9,hr⟩
    exact HPN.out ch _ V s9 rfl (hS2.on.trans0 ho) hf hv hr
   rintro _ U3 ⟨ho,x,l,a,n,cp,s2,rfl,hown,hr,hv⟩
   obtain ⟨hlm,hok⟩:=valD_ok (HVD.out.symm.trans hv)
   obtain ⟨a9,c9,he9,hrow⟩:=OwnAs.row hown hok hlm
   obtain ⟨rfl,rfl,rfl⟩:a=a9∧n=l.length∧cp=c9:=by
    injection he9 with h1 h2 h3
    exact ⟨h1,h2,h3⟩
   have hS3:=hS2.step HP.out.1 HP.out.2.1 ho hr
   have hA3:=hA2.step HP.out.2.2 ho
   have hF3:RowFar W0 U3 b a l.length cp l:=⟨ownsRow_weak hown hS2.on.size,fun j e=>by have h1:=(W.own_block hown j e).1;have h2:=hA2.z.lt;omega⟩
   refine ⟨hS3.cur,?_⟩
   simp only [Sj]
   refine held_one (i:=6) (by kernel_rfl) _ rfl ?_
   refine wpOp_callG rfl (by rfl) 10 rfl 200 #[.pointer (some ⟨g,0,none⟩)] (by unfold execOp;simp [go_sem]) (fun v w'=>(∃ kd:Nat,v=.int .i64 (kd:Int)∧kd=W.numV xs s2 1)∧W.RSt w' g k xs c (W.numS xs s2 1)∧W.Only g U3 w' none) ((HK.out.2.2 U3 s2 hS3.rd).mono fun e w' k=>⟨_,k.1,⟨_,rfl,rfl⟩,k.2.1,k.2.2⟩) ?_
   rintro _ U4 ⟨⟨kd,rfl,hkd⟩,hr,ho⟩
   have hS4:=hS3.step HP.out.1 HP.out.2.1 ho hr
   have hA4:=hA3.step HP.out.2.2 ho
   have hF4:RowFar W0 U4 b a l.length cp l:=⟨W.own_only hF3.own ho (fun e=>by have:=(W.own_block hF3.own _ e).1;have:=HP.out.2.2;omega) (fun _ _=>by simp),hF3.far⟩
   refine ⟨hS4.cur,?_⟩
   simp only [Sj]
   refine tk 7 (.agg (otC ⟨pr,ah,⟨x,a,l,cp⟩,kd,List.replicate 32 0,none,[],0⟩)) 11 rfl rfl hS4.cur ?_ (by intro w' hS';refine exec_build rfl ?_;simpa [Act.eval] using run_build w' 35 _ _ (built_outG pr ah HAH.out x a l cp kd))
   refine held_one (i:=9) (by kernel_rfl) _ rfl (wpOp_storeRow rfl rfl rfl 35 (.tmp 3) (.tmp 11) rfl b (otC ⟨pr,ah,⟨x,a,l,cp⟩,kd,List.replicate 32 0,none,[],0⟩) rfl rfl 35 _ hA4.z (otG_info _ HAH.out (by simp)) (otG_size _ HAH.out (by simp)) (otG_one _) ?_)
   refine ⟨by rw [show (U4.setRow b _).cell? ⟨p,0,none⟩=U4.cell? ⟨p,0,none⟩ by simp only [World.cell?];rw [setRow_other _ _ _ _ (by have:=hA4.ge;have:=HP.out.1;omega)]];exact hS4.cur,?_⟩
   refine held_done (by kernel_rfl) ?_
   exact HREST.out b U4 x l a cp kd s2 hS4 hA4 hF4 hkd hv
end Go.Proofs.YtilbbemdinpjcaaGreat.P
