/-
  pack: a reader that tells an entry has gone on.
-/
import Derived.Test.YtilbbemdinpjcaaGreatJQz
set_option maxHeartbeats 16000000
namespace Go.Proofs.YtilbbemdinpjcaaGreat.P
set_option maxRecDepth 100000
open Go.RowKit Go.Sort
def OutIn (V:World) (B:Nat) (o:Ot):Prop:=o.ah.length=32∧o.dh.length=32∧OwnAs V B (.slice o.v.pa o.v.l.length o.v.c) o.v.l∧T.OwnT V B (.slice o.tp o.ns.length o.tc) o.ns∧o.ns.length≤100∧(∀ x ∈ o.ns,NdIn x)∧(∀ a ∈ o.v.l,AsOk a)∧o.v.l.length≤30∧(-9223372036854775808≤o.v.coin∧o.v.coin < 9223372036854775808)
def entD (xs:List UInt8) (st:Option Nat):Option ((Rf × OutV) × Nat):=(outD xs (rfE xs st)).map fun y=>((rfV xs st,y.1),y.2)
def EntG (g k:Nat) (xs:List UInt8) (c:Nat) (w:World) (d:Option ((Rf × OutV) × Nat)) (e:Ending) (w':World):Prop :=
 W.Only g w w' none∧((∃ n st,e=.returned (.agg (enC n))∧RfOk n.r∧OutIn w' w.heap.size n.o∧W.RSt w' g k xs c st∧d=st.map fun p=>((n.r,outV n.o),p)) ∨ (Fault e∧d=none∧∃ st,W.RSt w' g k xs c st))
theorem outG_forms {f:FuncId} {args:Array Value} {V w:World} {g k:Nat} {xs:List UInt8} {c:Nat} {d:Option (OutV × Nat)} (h:Calls Tryz.prog f args V (OutG g k xs c w d)) :
  Calls Tryz.prog f args V fun e w'=>(∃ v,e=.returned v∧(W.Only g w w' none∧∃ o st,v=.agg (otC o)∧OutIn w' w.heap.size o∧W.RSt w' g k xs c st∧d=st.map fun p=>(outV o,p))) ∨ (∃ ch,e=.panicked ch∧(W.Only g w w' none∧Fault (.panicked ch)∧d=none∧∃ st,W.RSt w' g k xs c st)) :=
 h.mono fun e w' hr=>by
  rcases hr with ⟨h1,⟨o,st,rfl,a1,a2,a3,a4,a5,a6,a7,a8,a9,h3,h4⟩ | ⟨⟨n,rfl⟩,h2,h3⟩⟩
  ·
   exact .inl ⟨_,rfl,h1,o,st,rfl,⟨a1,a2,a3,a4,a5,a6,a7,a8,a9⟩,h3,h4⟩
  ·
   exact .inr ⟨_,rfl,h1,⟨n,rfl⟩,h2,h3⟩
theorem OutIn.weak {V:World} {B B':Nat} {o:Ot} (h:OutIn V B o) (hb:B'≤B):OutIn V B' o:=⟨h.1,h.2.1,ownsRow_weak h.2.2.1 hb,ownT_weak h.2.2.2.1 hb,h.2.2.2.2⟩
theorem OutIn.row {V:World} {B q:Nat} {o:Ot} (h:OutIn V B o) (hq:q < B) (cs:Array Value):OutIn (V.setRow q cs) B o:=⟨h.1,h.2.1,own_row h.2.2.1 hq cs,own_row h.2.2.2.1 hq cs,h.2.2.2.2⟩
theorem built_enG (p:List UInt8) (hp:p.length=32) (x:Int) (b:Bool) (ah:List UInt8) (h1:ah.length=32) (y:Int) (a:Option Addr) (n cp:Nat) (kd:Int) (dh:List UInt8) (h2:dh.length=32) (ta:Option Addr) (m tc:Nat) :
  Tryz.prog.built 81 [(0,.agg (B8 p ++ #[.int .i64 x])),(1,.agg (#[.bool b] ++ B8 ah ++ #[.int .i64 y,.slice a n cp,.int .i64 kd] ++ B8 dh ++ #[.slice ta m tc]))]=some (B8 p ++ #[.int .i64 x] ++ (#[.bool b] ++ B8 ah ++ #[.int .i64 y,.slice a n cp,.int .i64 kd] ++ B8 dh ++ #[.slice ta m tc])):=by
 obtain ⟨a0,a1,a2,a3,a4,a5,a6,a7,a8,a9,a10,a11,a12,a13,a14,a15,a16,a17,a18,a19,a20,a21,a22,a23,a24,a25,a26,a27,a28,a29,a30,a31,rfl⟩:=list32 p hp
 obtain ⟨b0,b1,b2,b3,b4,b5,b6,b7,b8,b9,b10,b11,b12,b13,b14,b15,b16,b17,b18,b19,b20,b21,b22,b23,b24,b25,b26,b27,b28,b29,b30,b31,rfl⟩:=list32 ah h1
 obtain ⟨c0,c1,c2,c3,c4,c5,c6,c7,c8,c9,c10,c11,c12,c13,c14,c15,c16,c17,c18,c19,c20,c21,c22,c23,c24,c25,c26,c27,c28,c29,c30,c31,rfl⟩:=list32 dh h2
 kernel_rfl
theorem enG_one (r:Rf) (o:Ot):(refC r ++ otC o).all (·.oneCell')=true:=by
 rw [Array.all_append,otG_one]
 unfold refC
 rw [Array.all_append,B8_one]
 simp [Value.oneCell']
theorem getterEntry_any (w:World) (g k:Nat) (xs:List UInt8) (c:Nat) (st:Option Nat) (h:W.RSt w g k xs c st) (hx:xs.length < 1000000) :
  Calls Tryz.prog 232 #[.agg #[.pointer (some ⟨g,0,none⟩)]] w (EntG g k xs c w (entD xs st)):=by
 obtain ⟨res,hres⟩:∃ r,r=entD xs st:=⟨_,rfl⟩
 rw [← hres]
 obtain ⟨r,hrv⟩:∃ r,r=rfV xs st:=⟨_,rfl⟩
 obtain ⟨rc,hrc⟩:∃ x,x=refC r:=⟨_,rfl⟩
 obtain ⟨s1,hs1⟩:∃ s,s=rfE xs st:=⟨_,rfl⟩
 have hr32:RfOk r:=by
  rw [hrv]
  have:=countV_lt xs (W.numS xs st 32)
  exact ⟨hashV_len xs st,by simp only [rfV];omega,by simp only [rfV];omega⟩
 obtain ⟨b1,b2,b3,b4⟩:=box_two w #[.pointer (some ⟨g,0,none⟩)] Tryz.zeroCells81 174 81
 have HN:=Hj (Aj hrv (Aj hs1 (Aj hrc hr32)))
 have HLT:=Hj h.lt
 have H:=Hj (Aj hres (Aj h hx))
 clear h hres hx hrv hs1 hrc hr32
 obtain ⟨W0,HW⟩:∃ W0,(w.alloc (.cells #[.pointer (some ⟨g,0,none⟩)] 174)).alloc (.cells Tryz.zeroCells81 81)=W0:=⟨_,rfl⟩
 go_enter Tryz.func232,Tryz.ntmps232
 go_upto_region 1 with fail
 rw [HW] at b1 b2 b3 b4
 clear HW
 obtain ⟨p,hp⟩:∃ p,p=w.heap.size:=⟨_,rfl⟩
 obtain ⟨q,hq⟩:∃ q,q=w.heap.size+1:=⟨_,rfl⟩
 rw [← hq] at b2 ⊢
 rw [← hp] at b1 ⊢
 have hpg:p≠g:=by have:=HLT.out;omega
 have hqg:q≠g:=by have:=HLT.out;omega
 have HB:=Hj (Aj b1 (Aj b2 (Aj b3 (Aj hp (Aj hq (Aj hpg (Aj hqg b4)))))))
 clear b1 b2 b3 b4 hp hq hpg hqg
 refine wp_region_held (S:=fun V=>V.cell? ⟨p,0,none⟩=some (.pointer (some ⟨g,0,none⟩))) (by kernel_rfl) ?_
 change wpAnyH _ _ _ _ _ 6 _ _ (World.drew W0)
 have hd:Below W0.heap.size W0 W0.drew:=(Below.refl _ _).drew
 have hS0:OS W0 W0.drew g k xs c p st:=⟨HB.out.1.cell 0 rfl,H.out.2.1.below (HB.out.2.2.1.trans (hd.mono HB.out.2.2.1.size)),W.only_below hd⟩
 refine tk 0 (.agg #[.pointer (some ⟨g,0,none⟩)]) 3 rfl rfl hS0.cur ?_ (by intro w' hS';unfold execOp;simp [go_sem,hS'])
 refine tk 2 (.agg #[.pointer (some ⟨g,0,none⟩)]) 5 rfl rfl hS0.cur ?_ (by intro w' hS';unfold execOp;simp [go_sem,hS'])
 clear hd
 generalize W0.drew=U0 at hS0 ⊢
 have hpl:=HB.out.1.lt
 have hgl:g < W0.heap.size:=by have:=HLT.out;have:=HB.out.2.2.1.size;omega
 refine held_one (i:=1) (by kernel_rfl) _ rfl (wpOp_callG rfl (by rfl) 4 rfl 156 #[.agg #[.pointer (some ⟨g,0,none⟩)]] (by unfold execOp;simp [go_sem]) (fun v w'=>v=.agg rc∧W.RSt w' g k xs c s1∧W.Only g U0 w' none) ((getterRef_any U0 g k xs c st hS0.rd).mono fun e w' k=>⟨_,k.1,by rw [HN.out.2.2.1,HN.out.1],by rw [HN.out.2.1];exact k.2.1,k.2.2⟩) ?_)
 rintro _ U1 ⟨rfl,hr1,hn⟩
 have hS1:=hS0.step hpl HB.out.2.2.2.2.2.1 hn hr1
 refine ⟨hS1.cur,?_⟩
 simp only [Sj]
 clear hn hr1 hS0
 have hfin:∀ (o:Ot) (s:Option Nat),outD xs s1=(s.map fun p=>(outV o,p))→res=s.map fun p=>((r,outV o),p):=fun o s e=>by
  rw [H.out.1]
  unfold entD
  rw [← HN.out.2.1,e,HN.out.1]
  cases s <;> rfl
 have hnone:outD xs s1=none→res=none:=fun e=>by
  rw [H.out.1]
  unfold entD
  rw [← HN.out.2.1,e]
  rfl
 refine held_one (i:=3) (by kernel_rfl) _ rfl (wpOp_callP rfl (by rfl) 6 rfl 154 #[.agg #[.pointer (some ⟨g,0,none⟩)]] (by unfold execOp;simp [go_sem]) _ _ (outG_forms (getterOutput_any U1 g k xs c s1 hS1.rd H.out.2.2)) ?_ ?_)
 ·
  rintro _ U2 ⟨hn,o,s2,rfl,hin,hr2,hres⟩
  have hS2:=hS1.step hpl HB.out.2.2.2.2.2.1 hn hr2
  have hA2:=hS2.on.lies HB.out.2.1 HB.out.2.2.2.2.2.2.1
  obtain ⟨oc,hoc⟩:∃ x,x=otC o:=⟨_,rfl⟩
  obtain ⟨cs,hcs⟩:∃ x,x=rc ++ oc:=⟨_,rfl⟩
  have hcs2:cs=enC ⟨r,o⟩:=by rw [hcs,hoc,HN.out.2.2.1];rfl
  have hsz:cs.size=102:=by rw [hcs,Array.size_append,HN.out.2.2.1,refC_size r HN.out.2.2.2.1,hoc,otC_size o hin.1 hin.2.1]
  have hone:cs.all (·.oneCell')=true:=by rw [hcs,HN.out.2.2.1,hoc];exact enG_one r o
  have hI:(Tryz.prog.info? 81).map (·.size)=some cs.size:=by rw [hsz];exact info_entry
  have hbd:∀ W,(Instr.build 81 #[(0,.agg rc),(1,.agg oc)]).run Tryz.prog W=.ok (.agg cs) W:=fun W=>by
   refine run_build W 81 _ _ ?_
   rw [hcs,HN.out.2.2.1,hoc]
   exact built_enG r.tx HN.out.2.2.2.1 r.place o.prog o.ah hin.1 _ _ _ _ _ o.dh hin.2.1 _ _ _
  rw [← hoc]
  refine ⟨hS2.cur,?_⟩
  simp only [Sj]
  refine tk 4 (.agg cs) 7 rfl rfl hS2.cur ?_ (by intro w' hS';refine exec_build rfl ?_;simpa [Act.eval] using hbd w')
  refine held_one (i:=5) (by kernel_rfl) _ rfl (wpOp_storeRow rfl rfl rfl 81 (.tmp 2) (.tmp 7) rfl q cs rfl rfl 81 _ hA2 hI (by rw [hsz];kernel_rfl) hone ?_)
  refine ⟨by rw [show (U2.setRow q cs).cell? ⟨p,0,none⟩=U2.cell? ⟨p,0,none⟩ by simp only [World.cell?];rw [setRow_other _ _ _ _ (by have:=HB.out.2.2.2.1;have:=HB.out.2.2.2.2.1;omega)]];exact hS2.cur,?_⟩
  refine held_done (by kernel_rfl) ?_
  have hqk:q≠k:=by have:=HB.out.2.2.2.2.1;have:=HLT.out;omega
  have hin2:=(hin.weak (B':=W0.heap.size) hS1.on.size).row (q:=q) HB.out.2.1.lt cs
  have HI:=Hj hI
  have HF:=Hj (Aj (hA2.setRow cs) (show EntG g k xs c w res (.returned (.agg cs)) (U2.setRow q cs) from ⟨W.only_row ((W.only_below HB.out.2.2.1).trans0 hS2.on) (k:=q) (by rw [HB.out.2.2.2.2.1];exact Nat.le_succ _) cs,.inl ⟨⟨r,o⟩,s2,by rw [hcs2],HN.out.2.2.2,hin2.weak HB.out.2.2.1.size,rst_row hS2.rd cs HB.out.2.2.2.2.2.2.1 hqk,hfin o s2 hres⟩⟩))
  clear hn hS1 hS2 hr2 hres hfin hnone hin hin2 hA2 hcs hcs2 hoc hsz hone hbd hI
  go_wp2_with fail
  exact bodyPost_ret (v:=.agg cs) (results_cell_row (p:=2) (ty:=81) (by kernel_rfl) _ _ q 81 cs (0,0) _ rfl HF.out.1 Tryz.underlying81 rfl HI.out) rfl HF.out.2
 ·
  rintro ch U2 ⟨hn,hf,hres,s2,hr2⟩
  show bodyPost Tryz.prog Tryz.f232 _ (Exit.panic _) _ _
  exact ⟨rfl,(W.only_below HB.out.2.2.1).trans0 (hS1.on.trans0 hn),.inr ⟨hf,hnone hres,s2,hr2⟩⟩
end Go.Proofs.YtilbbemdinpjcaaGreat.P
namespace Go.Proofs.YtilbbemdinpjcaaGreat.P
set_option maxRecDepth 100000
open Go.RowKit Go.Sort
def rightOV (v:OutV):Bool:=rightOB ⟨v.prog,v.ah,⟨v.coin,none,v.l,0⟩,v.kind,v.dh,none,v.ns,0⟩
theorem rightOV_eq (o:Ot):rightOV (outV o)=rightOB o:=rfl
def getOutOf:Option (OutV × Nat)→Option (OutV × Nat)
 | some (v,p)=>if rightOV v then some (v,p) else none
 | none=>none
def getOut (xs:List UInt8) (st:Option Nat):Option (OutV × Nat):=getOutOf (outD xs st)
def GetOut (g k:Nat) (xs:List UInt8) (c:Nat) (w:World) (d:Option (OutV × Nat)) (e:Ending) (w':World):Prop :=
 W.Only g w w' none∧((∃ o p,d=some (outV o,p)∧e=.returned (.agg (otC o))∧OutIn w' w.heap.size o∧rightOB o=true∧W.RSt w' g k xs c (some p)) ∨ (d=none∧e=.returned (.agg Tryz.zeroCells35)∧W.RSt w' g k xs c none))
theorem OutIn.below {V V':World} {B:Nat} {o:Ot} (h:OutIn V B o) (hb:Below V.heap.size V V'):OutIn V' B o:=⟨h.1,h.2.1,ownsRow_below h.2.2.1 hb,h.2.2.2.1.kept hb,h.2.2.2.2⟩
theorem OutIn.ok {V:World} {B:Nat} {o:Ot} (h:OutIn V B o):OtOk V o:=by
 obtain ⟨h1,h2,h3,h4,h5,h6,h7,h8,h9⟩:=h
 obtain ⟨pa,c,e,hrow⟩:=OwnAs.row h3 h7 (Nat.le_trans h8 (by decide))
 have hpa:o.v.pa=pa:=by injection e
 refine ⟨h1,⟨h9.1,h9.2,by rw [hpa];exact hrow⟩,h2,(h4.tat (by omega) (fun x hx=>by have:=(h6 x hx).kids.2;omega)).1,?_⟩
 rcases h4.form with ⟨e1,e2⟩ | ⟨g,cap,e1,_,e3,_⟩
 ·
  rw [e2];exact Nat.zero_le _
 ·
  have:o.tc=cap:=by injection e1
  rw [this];exact e3
theorem getOutputD_panicking (p g k:Nat) (xs:List UInt8) (c:Nat) (st:Option Nat) (u:TypeId) (pv:Value) (older:List PanicEntry) (w:World) (hp:w.cell? ⟨p,0,none⟩=some (.pointer (some ⟨g,0,none⟩))) (h:W.RSt w g k xs c st) :
  CallsD Tryz.prog 226 #[.pointer (some ⟨p,0,none⟩)] (.panicking ({ v:=.iface u pv,recovered:=false } :: older)) w fun e u' w' =>
   e=.returned (.tuple #[])∧u'=.panicking ({ v:=.iface u pv,recovered:=true } :: older)∧W.RSt w' g k xs c none∧W.Only g w w' none:=by
 have hs:=rSpoil_any w g k xs c st h
 refine callsD_of_wpS Tryz.func226 rfl fun c₀ cs hu => ?_
 apply wpS_seq
 apply wpS_region
 simp [wpOpsS,go_sem,recoverD,hu,Tryz.ntmps226,Exit.thenS]
 refine wpS_cond (t:=true) (by simp [Act.eval,Array.replicate]) ?_
 simp only [if_true]
 refine wpS_of_wp ?_
 go_wp2_with fail
 refine hs.mono ?_
 rintro e w2 ⟨rfl,hr,ho⟩
 go_wp2_with fail
 simp [bodyPostS,results,Tryz.results226]
 exact ⟨hr,ho⟩
theorem getOutputD_idle (p:Addr) (w:World) :
  CallsD Tryz.prog 226 #[.pointer (some p)] .returning w fun e u' w'=>e=.returned (.tuple #[])∧u'=.returning∧w'=w:=by
 refine callsD_of_wpS Tryz.func226 rfl fun c₀ cs hu => ?_
 apply wpS_seq
 apply wpS_region
 simp [wpOpsS,go_sem,recoverD,hu,Tryz.ntmps226,Exit.thenS]
 refine wpS_cond (t:=false) (by simp [Act.eval,Array.replicate]) ?_
 simp only [Bool.false_eq_true,if_false]
 refine wpS_of_wp (wp_skip ?_)
 cases c₀
 simp_all [bodyPostS,results,Tryz.results226]
theorem getOutputG_any (w:World) (g k:Nat) (xs:List UInt8) (c:Nat) (st0:Option Nat) (h:W.RSt w g k xs c st0) (hxl:xs.length < 1000000) :
 Calls Tryz.prog 153 #[.pointer (some ⟨g,0,none⟩),.func (Fn.func 154) #[] #[],.func (Fn.func 13) #[] #[]] w (GetOut g k xs c w (getOut xs st0)):=by
 have hmf:∀ (fn:Fn) (first cap:Array Value) (w:World),(Instr.makeFunc fn first cap).run Tryz.prog w=.ok (.func fn first cap) w:=fun _ _ _ _=>rfl
 have hf1:=T.callK 13 Tryz.f13 Tryz.func13 (by kernel_rfl) (by kernel_rfl)
 have hf2:=T.callK 154 Tryz.f154 Tryz.func154 (by kernel_rfl) (by kernel_rfl)
 obtain ⟨b1,b2,b3,b4,b5⟩:=box_three w #[.pointer (some ⟨g,0,none⟩)] Tryz.zeroCells35 #[.pointer (some ⟨g,0,none⟩)] 56 35 174
 obtain ⟨res,hres⟩:∃ r,r=getOut xs st0:=⟨_,rfl⟩
 rw [← hres]
 obtain ⟨od,hod⟩:∃ r,r=outD xs st0:=⟨_,rfl⟩
 have HLT:=Hj h.lt
 have hC:=getterOutput_any _ g k xs c st0 (h.below b4) hxl
 rw [← hod] at hC
 have HC:=Hj hC
 have hres2:res=getOutOf od:=by rw [hres,hod];rfl
 have HR0:=Hj hres2
 clear h hres hod hC hres2 hxl
 obtain ⟨zc,hzc⟩:∃ z:Array Value,z=Tryz.zeroCells35:=⟨_,rfl⟩
 have HZ:=Hj hzc
 obtain ⟨W0,HW⟩:∃ W0,(((w.alloc (.cells #[.pointer (some ⟨g,0,none⟩)] 56)).alloc (.cells Tryz.zeroCells35 35)).alloc (.cells #[.pointer (some ⟨g,0,none⟩)] 174))=W0:=⟨_,rfl⟩
 rw [HW] at b1 b2 b3 b4 b5 HC
 rw [← hzc] at b2
 clear hzc
 go_enter_defers Tryz.func153,Tryz.ntmps153
 have c2:W0.cell? ⟨w.heap.size+1+1,0,none⟩=some (.pointer (some ⟨g,0,none⟩)):=b3.cell 0 rfl
 have HB:=Hj (Aj b1 (Aj b2 (Aj b3 (Aj b4 b5))))
 clear b1 b2 b3 b4 b5
 go_wp2_with fail
 clear HW
 refine HC.out.mono ?_
 rintro e W1 ⟨ho1,hcase⟩
 have hl1:=ho1.lies HB.out.1 (by have:=HLT.out;omega)
 have hl2:=ho1.lies HB.out.2.1 (by have:=HLT.out;omega)
 have hl3:=ho1.lies HB.out.2.2.1 (by have:=HLT.out;omega)
 have hw1:W.Only g w W1 none:=(W.only_below HB.out.2.2.2.1).trans0 ho1
 rcases hcase with ⟨x,st,rfl,a1,a2,a3,a4,a5,a6,a7,a8,a9,hrd,hdec⟩ | ⟨⟨m,rfl⟩,hdec,st,hrd⟩
 case inr =>
  have H1:=Hj (Aj hrd (Aj hdec (Aj hl1 (Aj hl2 hw1))))
  clear hrd hdec hl1 hl2 hl3 hw1 ho1 c2 HC
  go_wp2_with fail
  refine leaves_cons (f:=226) (args:=#[.pointer (some ⟨w.heap.size,0,none⟩)]) (by simp) (by simp [go_sem]) ?_
  refine (getOutputD_panicking w.heap.size g k xs c st 64 _ [] _ (H1.out.2.2.1.cell 0 rfl) H1.out.1).mono ?_
  rintro e u' w'' ⟨rfl,rfl,hr,ho⟩
  have hl2:=ho.lies H1.out.2.2.2.1 (by have:=HLT.out;omega)
  have HF:=Hj (Aj hr (Aj (H1.out.2.2.2.2.trans0 ho) hl2))
  clear hr ho hl2
  refine ⟨.agg zc,results_cell_row (p:=6) (ty:=35) (by kernel_rfl) _ _ (w.heap.size+1) 35 zc (0,0) _ rfl HF.out.2.2 Tryz.underlying35 rfl (by rw [HZ.out];kernel_rfl),?_⟩
  exact ⟨HF.out.2.1,.inr ⟨by rw [HR0.out,H1.out.2.1];rfl,by rw [HZ.out],HF.out.1⟩⟩
 have hin:OutIn W1 W0.heap.size x:=⟨a1,a2,a3,a4,a5,a6,a7,a8,a9⟩
 clear a3 a4 a5 a6 a7 a8 a9
 obtain ⟨cs,hcs⟩:∃ cs,cs=otC x:=⟨_,rfl⟩
 have hsz:cs.size=69:=by rw [hcs];exact otC_size x a1 a2
 have hone:cs.all (·.oneCell')=true:=by rw [hcs];exact otG_one x
 have H:=Hj (Aj hdec (Aj hcs (Aj hsz hone)))
 have HI:=Hj (show (Tryz.prog.info? 35).map (·.size)=some cs.size by rw [hsz];exact info_output)
 rw [← hcs]
 clear hdec hcs hsz hone a1 a2
 have hb2:Below W1.heap.size W1 (W1.alloc (.cells cs 35)):=(Below.refl _ _).alloc (Nat.le_refl _) _
 have hx2:=Lies.new W1 cs 35
 have hsz0:cs.size=69:=H.out.2.2.1
 have hsc:(storeCells ⟨W1.heap.size,0,none⟩ cs.toList 0).run Tryz.prog (W1.alloc (.cells Tryz.zeroCells35 35))=.ok () (W1.alloc (.cells cs 35)):=run_storeCells_new W1 35 Tryz.zeroCells35 cs HI.out (by rw [hsz0];kernel_rfl) H.out.2.2.2
 obtain ⟨W2,HW2⟩:∃ W2,W1.alloc (.cells cs 35)=W2:=⟨_,rfl⟩
 rw [HW2] at hb2 hx2 hsc
 have hw2:W.Only g w W2 none:=hw1.trans0 (W.only_below hb2)
 have hm1:=hl1.below hb2 hl1.lt
 have hm2:=hl2.below hb2 hl2.lt
 have hm3:=hl3.below hb2 hl3.lt
 have hrd2:=hrd.below hb2
 have hin2:=hin.below hb2
 obtain ⟨y1,hy1⟩:∃ b,b=st.isSome:=⟨_,rfl⟩
 obtain ⟨y2,hy2⟩:∃ b,b=rightOB x:=⟨_,rfl⟩
 obtain ⟨q,hq⟩:∃ q,q=W1.heap.size:=⟨_,rfl⟩
 obtain ⟨sb,hsb⟩:∃ p,p=w.heap.size+1+1:=⟨_,rfl⟩
 obtain ⟨rb,hrb⟩:∃ p,p=w.heap.size+1:=⟨_,rfl⟩
 have hm3:Lies W2 sb #[.pointer (some ⟨g,0,none⟩)] 174:=by rw [hsb];exact hm3
 rw [← hrb] at hm2
 rw [← hq] at hx2
 have K1:Hid (∀ V,Below W2.heap.size W2 V→Calls Tryz.prog 198 #[.agg #[.pointer (some ⟨g,0,none⟩)]] V fun e w'=>e=.returned (.bool y1)∧Below V.heap.size V w'):=Hj fun V hV=>by rw [hy1];exact sound_any V g k xs c st (hrd2.below hV)
 have K2:Hid (∀ V,Below W2.heap.size W2 V→Calls Tryz.prog 13 #[.agg cs] V fun e w'=>e=.returned (.bool y2)∧Below V.heap.size V w'):=Hj fun V hV=>by rw [hy2,H.out.2.1];exact rightOutput_any V x (hin2.below hV).ok
 have HS:Hid (∀ V,Below W2.heap.size W2 V→V.cell? ⟨sb,0,none⟩=some (.pointer (some ⟨g,0,none⟩))∧Lies V q cs 35):=Hj fun V hV=>⟨(hm3.below hV hm3.lt).cell 0 rfl,hx2.below hV hx2.lt⟩
 have HR:=Hj (Aj hm1 (Aj hm2 (Aj hrd2 (Aj hw2 (Aj hy1 (Aj hy2 (Aj hrb (Aj hb2 hin2))))))))
 clear hl1 hl2 hl3 hw1 ho1 c2 HC hb2 hx2 hrd hw2 hm1 hm2 hm3 hrd2 hy1 hy2 hin hin2
 go_upto_region 4 with fail
 rw [← hq,← hsb,← hrb]
 clear HW2 hq hsb hrb hsc hsz0
 have hres2:=res_put (fn:=Tryz.f153) (a:=6) (ty:=35) (by kernel_rfl)
 refine wp_region_held (S:=Below W2.heap.size W2) (by kernel_rfl) ?_
 change wpAnyH _ _ _ _ _ 7 _ _ (World.drew W2)
 have hcur:Below W2.heap.size W2 W2.drew:=(Below.refl _ _).drew
 refine tk 0 (.agg #[.pointer (some ⟨g,0,none⟩)]) 15 rfl rfl hcur ?_ (by intro w' hS';have x0:=(HS.out w' hS').1;unfold execOp;simp [go_sem,x0]) (hQ:=held_put (hres2 15 _ (by decide)))
 refine tk 2 (.func (Fn.func 13) #[] #[]) 17 rfl rfl hcur ?_ (hQ:=held_put (hres2 17 _ (by decide)))
 refine tk 3 (.agg cs) 18 rfl rfl hcur ?_ (by intro w' hS';exact exec_loadRow rfl rfl (HS.out w' hS').2 Tryz.underlying35 rfl HI.out) (hQ:=held_put (hres2 18 _ (by decide)))
 generalize W2.drew=V0 at hcur ⊢
 refine held_one (i:=1) (by kernel_rfl) _ rfl (wpOp_callG rfl (by rfl) 16 rfl 198 #[.agg #[.pointer (some ⟨g,0,none⟩)]] (by unfold execOp;simp [go_sem]) _ (ret_gro (K1.out _ hcur)) ?_)
 rintro _ U1 ⟨rfl,hn⟩
 have hcur:=hcur.trans (hn.mono hcur.size)
 clear hn
 refine ⟨hcur,?_⟩
 simp only [Sj]
 refine held_one (i:=4) (by kernel_rfl) _ rfl (wpOp_callG rfl (by rfl) 19 rfl 13 #[.agg cs] (by unfold execOp;simp [go_sem,hf1]) _ (ret_gro (K2.out _ hcur)) ?_)
 rintro _ U2 ⟨rfl,hn⟩
 have hcur:=hcur.trans (hn.mono hcur.size)
 clear hn
 refine ⟨hcur,?_⟩
 simp only [Sj]
 refine held_one (i:=5) (by kernel_rfl) _ rfl (wpOp_valG rfl (by rfl) 20 rfl (v:=.slice (some ⟨U2.heap.size,0,none⟩) 2 2) (w':=U2.alloc (.cells #[.bool y1,.bool y2] 4)) (by unfold execOp;simp [go_sem]) ⟨hcur.alloc hcur.size _,?_⟩)
 simp only [Sj]
 refine held_one (i:=6) (by kernel_rfl) _ rfl (wpOp_callP rfl (by rfl) 21 rfl 62 #[.slice (some ⟨U2.heap.size,0,none⟩) 2 2] (by unfold execOp;simp [go_sem]) _ _ (must_forms (must2 U2 y1 y2)) ?_ ?_)
 · rintro _ U9 ⟨rfl,hy,hn⟩
   have hb9:Below W2.heap.size W2 U9:=hcur.trans (hn.mono hcur.size)
   refine ⟨hb9,?_⟩
   simp only [Sj]
   refine held_done (by kernel_rfl) ?_
   have hl2:=HR.out.2.1.below hb9 HR.out.2.1.lt
   have hLq:=(HS.out U9 hb9).2
   have hsz0:cs.size=69:=H.out.2.2.1
   have hsc:(storeCells ⟨rb,0,none⟩ cs.toList 0).run Tryz.prog U9=.ok () (U9.setRow rb cs):=by
    have:=run_storeCells_from (P:=Tryz.prog) rb 35 cs.toList 0 zc U9 hl2 (by rw [Array.length_toList,hsz0,HZ.out];kernel_rfl) (fun v hv=>(Array.all_eq_true_iff_forall_mem.1 H.out.2.2.2) v (by simpa using hv))
    simpa using this
   have HL:=Hj (Aj hLq (range_lies hLq))
   have HLL:=Hj (show (Tryz.prog.info? 35).map (·.size)=some cs.toList.length by rw [Array.length_toList];exact HI.out)
   have H9:=Hj (Aj hb9 (Aj hy hl2))
   clear hcur hn hb9 hy hl2 hLq
   go_wp2_with (first
    | (at_builtin;fail)
    | (refine wpList_load_mid rfl 35 _ rfl q 0 rfl cs.toList _ HL.out.2 Tryz.underlying35 rfl HLL.out ?_))
   have hrg:rb≠g:=by rw [HR.out.2.2.2.2.2.2.1];have:=HLT.out;omega
   have hrk:rb≠k:=by rw [HR.out.2.2.2.2.2.2.1];have:=HLT.out;omega
   have hS:=Lies.setRow H9.out.2.2 cs
   have hrd9:=rst_row (HR.out.2.2.1.below H9.out.1) cs hrg hrk
   have hof:=W.only_row (HR.out.2.2.2.1.trans0 (W.only_below H9.out.1)) (k:=rb) (by rw [HR.out.2.2.2.2.2.2.1];omega) cs
   have hin9:=(((HR.out.2.2.2.2.2.2.2.2.below H9.out.1)).row (q:=rb) (by rw [HR.out.2.2.2.2.2.2.1];have:=HB.out.2.2.2.2;omega) cs).weak HB.out.2.2.2.1.size
   have HF:=Hj (Aj hS (Aj hrd9 (Aj hof hin9)))
   clear hS hrg hrk hrd9 hof hin9 hsz0 hsc HL HLL
   generalize U9.setRow rb cs=W9 at HF ⊢
   refine leaves_cons (f:=226) (args:=#[.pointer (some ⟨w.heap.size,0,none⟩)]) (by simp) (by simp [go_sem]) ?_
   refine (getOutputD_idle ⟨w.heap.size,0,none⟩ _).mono ?_
   rintro e u' w'' ⟨rfl,rfl,hw⟩
   subst hw
   refine ⟨.agg cs,results_cell_row (p:=6) (ty:=35) (by kernel_rfl) _ _ rb 35 cs (0,0) _ rfl HF.out.1 Tryz.underlying35 rfl HI.out,?_⟩
   have hyy:=H9.out.2.1
   rw [Bool.and_eq_true] at hyy
   have e1:st.isSome=true:=by rw [← HR.out.2.2.2.2.1];exact hyy.1
   have e2:rightOB x=true:=by rw [← HR.out.2.2.2.2.2.1];exact hyy.2
   have hd:=H.out.1
   have hrd9:=HF.out.2.1
   cases st with
   | none=>cases e1
   | some p =>
     refine ⟨HF.out.2.2.1,.inl ⟨x,p,?_,by rw [← H.out.2.1],HF.out.2.2.2,e2,hrd9⟩⟩
     rw [HR0.out,hd]
     show (if rightOV (outV x)=true then some (outV x,p) else none)=some (outV x,p)
     rw [rightOV_eq,if_pos e2]
 · rintro ch U9 ⟨hy,hf,hn⟩
   have hb9:Below W2.heap.size W2 U9:=hcur.trans (hn.mono hcur.size)
   obtain ⟨m,hm⟩:=hf
   obtain rfl:=Ending.panicked.inj hm
   have hno:res=none:=by
    rw [HR0.out,H.out.1]
    cases st with
    | none=>rfl
    | some p =>
      show (if rightOV (outV x)=true then some (outV x,p) else none)=none
      rw [if_neg]
      intro e
      rw [rightOV_eq] at e
      rw [HR.out.2.2.2.2.1,HR.out.2.2.2.2.2.1,e] at hy
      cases hy
   have hl1:=HR.out.1.below hb9 HR.out.1.lt
   have hl2:=HR.out.2.1.below hb9 HR.out.2.1.lt
   have hr9:=HR.out.2.2.1.below hb9
   have ho9:=HR.out.2.2.2.1.trans0 (W.only_below hb9)
   have H9:=Hj (Aj hl2 (Aj ho9 hno))
   clear hcur hn hb9 hl2 ho9 hno hy hm
   show bodyPostD _ _ _ (Exit.panic _) _ _
   refine leaves_cons (f:=226) (args:=#[.pointer (some ⟨w.heap.size,0,none⟩)]) (by simp) (by simp [go_sem]) ?_
   refine (getOutputD_panicking w.heap.size g k xs c st 64 _ [] _ (hl1.cell 0 rfl) hr9).mono ?_
   rintro e u' w'' ⟨rfl,rfl,hr,ho⟩
   have hl2:=ho.lies H9.out.1 (by rw [HR.out.2.2.2.2.2.2.1];have:=HLT.out;omega)
   have HF:=Hj (Aj hr (Aj (H9.out.2.1.trans0 ho) hl2))
   clear hr ho hl2 hl1 hr9
   refine ⟨.agg zc,results_cell_row (p:=6) (ty:=35) (by kernel_rfl) _ _ rb 35 zc (0,0) _ rfl HF.out.2.2 Tryz.underlying35 rfl (by rw [HZ.out];kernel_rfl),?_⟩
   exact ⟨HF.out.2.1,.inr ⟨H9.out.2.2,by rw [HZ.out],HF.out.1⟩⟩
theorem getOutput_any (w:World) (g k:Nat) (xs:List UInt8) (c:Nat) (st0:Option Nat) (h:W.RSt w g k xs c st0) (hxl:xs.length < 1000000) :
  Calls Tryz.prog 90 #[.pointer (some ⟨g,0,none⟩)] w (GetOut g k xs c w (getOut xs st0)):=by
 have hA:=Lies.new w (Tryz.zeroCells35) 35
 have hb:Below w.heap.size w (w.alloc (.cells (Tryz.zeroCells35) 35)):=(Below.refl _ _).alloc (Nat.le_refl _) _
 obtain ⟨res,hres⟩:∃ r,r=getOut xs st0:=⟨_,rfl⟩
 have HLT:=Hj h.lt
 have hC:=getOutputG_any _ g k xs c st0 (h.below hb) hxl
 rw [← hres] at hC ⊢
 have HC:=Hj hC
 clear h hres hC hxl
 go_enter Tryz.func90,Tryz.ntmps90
 go_upto_region 1 with fail
 generalize w.alloc (.cells (Tryz.zeroCells35) 35)=W0 at hA hb HC ⊢
 obtain ⟨r,hr⟩:∃ r,r=w.heap.size:=⟨_,rfl⟩
 rw [← hr] at hA ⊢
 have HB:=Hj (Aj hA (Aj hb hr))
 clear hA hb hr
 go_wp2_with fail
 refine HC.out.mono ?_
 rintro e W1 ⟨ho,hcase⟩
 have hrg:r≠g:=by rw [HB.out.2.2];have:=HLT.out;omega
 have hrk:r≠k:=by rw [HB.out.2.2];have:=HLT.out;omega
 have hl:=ho.lies HB.out.1 hrg
 have ho1:=(W.only_below HB.out.2.1).trans0 ho
 have hrW:=HB.out.1.lt
 have hzz:(Tryz.zeroCells35).size=69:=by kernel_rfl
 have hzo:(Tryz.zeroCells35).all (·.oneCell')=true:=by kernel_rfl
 obtain ⟨cs,st,hsz0,hone,rfl,hrd,hend⟩:∃ (cs:Array Value) (st:Option Nat),cs.size=69∧cs.all (·.oneCell')=true∧e=.returned (.agg cs)∧W.RSt W1 g k xs c st∧((∃ o p,res=some (outV o,p)∧cs=otC o∧OutIn W1 W0.heap.size o∧rightOB o=true∧st=some p) ∨ (res=none∧cs=(Tryz.zeroCells35)∧st=none)):=by
  rcases hcase with ⟨o,p,h1,h2,h3,h4,h5⟩ | ⟨h1,h2,h3⟩
  ·
   exact ⟨otC o,some p,otC_size o h3.1 h3.2.1,otG_one o,h2,h5,.inl ⟨o,p,h1,rfl,h3,h4,rfl⟩⟩
  ·
   exact ⟨(Tryz.zeroCells35),none,hzz,hzo,h2,h3,.inr ⟨h1,rfl,rfl⟩⟩
 have HI:=Hj (show (Tryz.prog.info? 35).map (·.size)=some cs.size by rw [hsz0];exact info_output)
 have hsc:(storeCells ⟨r,0,none⟩ cs.toList 0).run Tryz.prog W1=.ok () (W1.setRow r cs):=by
  have:=run_storeCells_from (P:=Tryz.prog) r 35 cs.toList 0 (Tryz.zeroCells35) W1 hl (by rw [Array.length_toList,hsz0,hzz]) (fun v hv=>(Array.all_eq_true_iff_forall_mem.1 hone) v (by simpa using hv))
  simpa using this
 have hS:=Lies.setRow hl cs
 have hrd9:=rst_row hrd cs hrg hrk
 have hof:=W.only_row ho1 (k:=r) (by rw [HB.out.2.2];exact Nat.le_refl _) cs
 have HF:=Hj (Aj hS (Aj hrd9 (Aj hof (Aj hend hrW))))
 clear hS hrd9 hof hend hone hrd ho ho1 hl hrg hrk HC hzz hzo hrW
 go_wp2_with fail
 refine bodyPost_ret (v:=.agg cs) (results_cell_row (p:=2) (ty:=35) (by kernel_rfl) _ _ r 35 cs (0,0) _ rfl HF.out.1 Tryz.underlying35 rfl HI.out) rfl ?_
 refine ⟨HF.out.2.2.1,?_⟩
 rcases HF.out.2.2.2.1 with ⟨o,p,h1,h2,h3,h4,h5⟩ | ⟨h1,h2,h3⟩
 ·
  refine .inl ⟨o,p,h1,by rw [h2],(h3.row (q:=r) HF.out.2.2.2.2 cs).weak HB.out.2.1.size,h4,?_⟩
  rw [← h5]
  exact HF.out.2.1
 ·
  refine .inr ⟨h1,by rw [h2],?_⟩
  rw [← h3]
  exact HF.out.2.1
end Go.Proofs.YtilbbemdinpjcaaGreat.P
namespace Go.Proofs.YtilbbemdinpjcaaGreat.P
set_option maxRecDepth 100000
open Go.RowKit Go.Sort
theorem flagS_some {xs:List UInt8} {st:Option Nat} {p:Nat} (h:W.flagS xs st=some p):∃ a,st=some a∧a≤p:=by
 cases st with
 | none=>cases h
 | some a =>
   simp only [W.flagS] at h
   split at h
   · have:=Option.some.inj h
     exact ⟨a,rfl,by omega⟩
   · cases h
theorem countS_some {xs:List UInt8} {st:Option Nat} {m:Int} {p:Nat} (h:W.countS xs st m=some p):∃ a,st=some a∧a≤p:=by
 cases st with
 | none=>cases h
 | some a =>
   simp only [W.countS] at h
   split at h
   · have:=Option.some.inj h
     exact ⟨a,rfl,by omega⟩
   · cases h
theorem rowD_ge {α:Type} {one:Option Nat→α} {nx:Option Nat→Option Nat} (hn:∀ st p,nx st=some p→∃ a,st=some a∧a+1≤p):∀ (n:Nat) (acc:List α) (st:Option Nat) (l:List α) (p:Nat),rowD one nx n acc st=some (l,some p)→∃ a,st=some a∧a≤p
 | 0,acc,st,l,p,e=>by
   have h1:st=some p:=congrArg Prod.snd (Option.some.inj e)
   exact ⟨p,h1,Nat.le_refl _⟩
 | n+1,acc,st,l,p,e=>by
   unfold rowD at e
   split at e
   · obtain ⟨b,h1,h2⟩:=rowD_ge hn n _ _ l p e
     obtain ⟨a,h3,h4⟩:=hn st b h1
     exact ⟨a,h3,by omega⟩
   · cases e
theorem ndP_some {xs:List UInt8} {st:Option Nat} {kd:Int} {p:Nat} (h:ndP xs st kd=some p):∃ a,st=some a∧a≤p:=by
 unfold ndP at h
 split at h
 ·
  obtain ⟨a,h1,h2⟩:=numS_some h
  exact ⟨a,h1,by omega⟩
 split at h
 ·
  obtain ⟨a,h1,h2⟩:=textS_some h
  exact ⟨a,h1,by omega⟩
 split at h
 ·
  obtain ⟨a,h1,h2⟩:=numS_some h
  exact ⟨a,h1,by omega⟩
 split at h
 ·
  obtain ⟨b,h1,h2⟩:=numS_some h
  obtain ⟨a,h3,h4⟩:=numS_some h1
  exact ⟨a,h3,by omega⟩
 ·
  obtain ⟨a,h1,h2⟩:=numS_some h
  exact ⟨a,h1,by omega⟩
theorem decT_ge (xs:List UInt8):∀ (f l:Nat) (acc:List T.Nd) (st:Option Nat) (ns:List T.Nd) (p:Nat),decT xs f l acc st=some (ns,p)→∃ a,st=some a∧a≤p
 | f,0,acc,st,ns,p,e=>by
   rw [decT_end] at e
   cases st with
   | none=>cases e
   | some a =>
     have:a=p:=congrArg Prod.snd (Option.some.inj e)
     exact ⟨a,rfl,by omega⟩
 | 0,l+1,acc,st,ns,p,e=>by cases e
 | f+1,l+1,acc,st,ns,p,e=>by
   unfold decT at e
   split at e
   · obtain ⟨b,h1,h2⟩:=decT_ge xs f _ _ _ ns p e
     obtain ⟨d,h3,h4⟩:=ndP_some h1
     obtain ⟨a,h5,h6⟩:=numS_some h3
     exact ⟨a,h5,by omega⟩
   · cases e
theorem valD_ge {xs:List UInt8} {st:Option Nat} {y:Int × List As} {p:Nat} (h:valD xs st=some (y,some p)):∃ a,st=some a∧a≤p:=by
 unfold valD at h
 cases hd:assetsD xs (W.numS xs st 8) with
 | none=>rw [hd] at h;cases h
 | some z =>
   rw [hd] at h
   have h1:z.2=some p:=congrArg Prod.snd (Option.some.inj h)
   obtain ⟨b,h2,h3⟩:=rowD_ge (fun st p h=>asE_some h) _ _ _ z.1 p (show rowD (asV xs) (asE xs) _ [] _=some (z.1,some p) by rw [← h1];exact hd)
   obtain ⟨d,h4,h5⟩:=countS_some h2
   obtain ⟨a,h6,h7⟩:=numS_some h4
   exact ⟨a,h6,by omega⟩
theorem outD_ge {xs:List UInt8} {st:Option Nat} {y:OutV} {p:Nat} (h:outD xs st=some (y,p)):∃ a,st=some a∧a≤p:=by
 have back:∀ (u:Int × List As) (s2:Option Nat) (b:Nat),valD xs (adE xs st)=some (u,s2)→W.numS xs s2 1=some b→b≤p→∃ a,st=some a∧a≤p:=fun u s2 b hv hb hbp=>by
  obtain ⟨d,h1,h2⟩:=numS_some hb
  rw [h1] at hv
  obtain ⟨e,h3,h4⟩:=valD_ge hv
  obtain ⟨f,h5,h6⟩:=numS_some h3
  obtain ⟨a,h7,h8⟩:=flagS_some h5
  exact ⟨a,h7,by omega⟩
 unfold outD at h
 split at h
 · cases h
 · rename_i x l s2 hv
   split at h
   · cases h3:W.numS xs (W.numS xs s2 1) 32 with
     | none=>rw [h3] at h;cases h
     | some b =>
       rw [h3] at h
       have hb:b=p:=congrArg Prod.snd (Option.some.inj h)
       obtain ⟨d,h4,h5⟩:=numS_some h3
       exact back _ s2 d hv h4 (by omega)
   split at h
   · cases h3:decT xs 100 1 [] (W.numS xs s2 1) with
     | none=>rw [h3] at h;cases h
     | some z =>
       rw [h3] at h
       have hb:z.2=p:=congrArg Prod.snd (Option.some.inj h)
       obtain ⟨d,h4,h5⟩:=decT_ge xs 100 1 [] _ z.1 z.2 h3
       exact back _ s2 d hv h4 (by omega)
   · cases h3:W.numS xs s2 1 with
     | none=>rw [h3] at h;cases h
     | some b =>
       rw [h3] at h
       have hb:b=p:=congrArg Prod.snd (Option.some.inj h)
       exact back _ s2 b hv h3 (by omega)
theorem entD_some {xs:List UInt8} {st:Option Nat} {y:Rf × OutV} {p:Nat} (h:entD xs st=some (y,p)):∃ a,st=some a∧a+1≤p:=by
 unfold entD at h
 cases hd:outD xs (rfE xs st) with
 | none=>rw [hd] at h;cases h
 | some z =>
   rw [hd] at h
   have hb:z.2=p:=congrArg Prod.snd (Option.some.inj h)
   obtain ⟨b,h1,h2⟩:=outD_ge (y:=z.1) (p:=z.2) hd
   obtain ⟨d,h3,h4⟩:=countS_some h1
   obtain ⟨a,h5,h6⟩:=numS_some h3
   exact ⟨a,h5,by omega⟩
end Go.Proofs.YtilbbemdinpjcaaGreat.P
