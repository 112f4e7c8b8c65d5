/-
  pack: apart: no ref stands in both of two rows.
-/
import Derived.Test.YtilbbemdinpjcaaGreatJQa
import Derived.Test.YtilbbemdinpjcaaGreatJPi
import Derived.Test.YtilbbemdinpjcaaGreatJPf
import Derived.Test.YtilbbemdinpjcaaGreatJPz
set_option maxHeartbeats 16000000
namespace Go.Proofs.YtilbbemdinpjcaaGreat.P
set_option maxRecDepth 100000
open Go.RowKit Go.Sort
theorem rSpoil_any (w:World) (g k:Nat) (xs:List UInt8) (c:Nat) (st:Option Nat) (h:W.RSt w g k xs c st) :
 Calls Tryz.prog 197 #[.pointer (some ⟨g,0,none⟩)] w fun e w'=>e=.returned (.tuple #[])∧W.RSt w' g k xs c none∧W.Only g w w' none:=by
 cases st with
 | none =>
   obtain ⟨a,h⟩:=h
   refine (W.rspoil_idle w _ h.idle).mono ?_
   rintro e w' ⟨rfl,rfl⟩
   exact ⟨rfl,⟨a,h⟩,W.Only.refl _ _ _⟩
 | some a =>
   have ht:=W.tells_self w g false (h.2.1.cell 0 rfl) (h.2.1.cell 1 rfl)
   have hsp:=W.spoil_any w g (.bool false) (h.2.1.cell 1 rfl) (h.2.1.free 1) rfl
   have HM:=Hj h.2.spoil
   have HS:=Hj hsp
   clear hsp h
   go_enter Tryz.func197,Tryz.ntmps197
   go_wp2_with fail
   refine ht.mono ?_
   rintro e w1 ⟨rfl,rfl⟩
   clear ht
   go_wp2_with fail
   refine HS.out.mono ?_
   rintro e w2 ⟨rfl,rfl⟩
   clear HS
   go_wp2_with fail
   go_end0
   exact ⟨rfl,⟨a,HM.out⟩,W.only_set g 1 w _⟩
theorem getTermD_panicking (p g k:Nat) (xs:List UInt8) (c:Nat) (st:Option Nat) (u:TypeId) (pv:Value) (older:List PanicEntry) (w:World) (hp:w.cell? ⟨p,0,none⟩=some (.pointer (some ⟨g,0,none⟩))) (h:W.RSt w g k xs c st) :
  CallsD Tryz.prog 196 #[.pointer (some ⟨p,0,none⟩)] (.panicking ({ v:=.iface u pv,recovered:=false } :: older)) w fun e u' w' =>
   e=.returned (.tuple #[])∧u'=.panicking ({ v:=.iface u pv,recovered:=true } :: older)∧W.RSt w' g k xs c none∧W.Only g w w' none:=by
 have hs:=rSpoil_any w g k xs c st h
 refine callsD_of_wpS Tryz.func196 rfl fun c₀ cs hu => ?_
 apply wpS_seq
 apply wpS_region
 simp [wpOpsS,go_sem,recoverD,hu,Tryz.ntmps196,Exit.thenS]
 refine wpS_cond (t:=true) (by simp [Act.eval,Array.replicate]) ?_
 simp only [if_true]
 refine wpS_of_wp ?_
 go_wp2_with fail
 refine hs.mono ?_
 rintro e w2 ⟨rfl,hr,ho⟩
 go_wp2_with fail
 simp [bodyPostS,results,Tryz.results196]
 exact ⟨hr,ho⟩
theorem getTermD_idle (p:Addr) (w:World) :
  CallsD Tryz.prog 196 #[.pointer (some p)] .returning w fun e u' w'=>e=.returned (.tuple #[])∧u'=.returning∧w'=w:=by
 refine callsD_of_wpS Tryz.func196 rfl fun c₀ cs hu => ?_
 apply wpS_seq
 apply wpS_region
 simp [wpOpsS,go_sem,recoverD,hu,Tryz.ntmps196,Exit.thenS]
 refine wpS_cond (t:=false) (by simp [Act.eval,Array.replicate]) ?_
 simp only [Bool.false_eq_true,if_false]
 refine wpS_of_wp (wp_skip ?_)
 cases c₀
 simp_all [bodyPostS,results,Tryz.results196]
theorem leaves_tmps {P:Program} {fn:Func} {t1 t2:Array Value} {R:Ending→World→Prop} (h:results fn t1=results fn t2):∀ (ds:List Deferred) (u:FrameMode) (w:World),Leaves P fn t1 R ds u w→Leaves P fn t2 R ds u w
 | [],.returning,_,⟨v,hv,hr⟩=>⟨v,by rw [← h];exact hv,hr⟩
 | [],.panicking _,_,hr=>hr
 | [],.run,_,hr=>hr.elim
 | _ :: ds,_,_,⟨hu,fv,cap,f,args,ht,hi,hc⟩=>⟨hu,fv,cap,f,args,ht,hi,hc.mono fun e u' w' k=>by
     cases e with
     | returned v=>exact leaves_tmps h ds _ _ k
     | panicked c=>exact leaves_tmps h ds _ _ k
     | outgrown=>exact k⟩
theorem held_put {P:Program} {fn:Func} {R:Ending→World→Prop} {K:Act→World→Prop} {d:Tmp} {v:Value} (h:∀ t:Array Value,results fn (t.setIfInBounds d v)=results fn t) (c:List PanicEntry) (a:Act) (w:World) (hq:Exit.then K (bodyPostD P fn R) (.panic c) (a.put (some d) v) w):Exit.then K (bodyPostD P fn R) (.panic c) a w :=
 leaves_tmps (h a.tmps) _ _ _ hq
theorem res_put {fn:Func} {a:Nat} {ty:TypeId} (hf:fn.results=#[.cell a ty]) (d:Tmp) (v:Value) (hd:d≠a) (t:Array Value):results fn (t.setIfInBounds d v)=results fn t:=by
 have e:(t.setIfInBounds d v).getD a undef=t.getD a undef:=by
  simp only [Array.getD_eq_getD_getElem?,Array.getElem?_setIfInBounds]
  rw [if_neg hd]
 unfold results
 rw [hf]
 simp only [List.mapM_toArray,List.mapM_cons,List.mapM_nil,e]
def getT (xs:List UInt8) (st:Option Nat):Option (List T.Nd × Nat):=match decT xs 100 1 [] st with
 | some (ns,p)=>if T.rightB ns then some (ns,p) else none
 | none=>none
def GetT (g k:Nat) (xs:List UInt8) (c:Nat) (w:World) (o:Option (List T.Nd × Nat)) (e:Ending) (w':World):Prop :=
 W.Only g w w' none∧((∃ ns p a cp,o=some (ns,p)∧e=.returned (.agg #[.slice a ns.length cp])∧T.OwnT w' w.heap.size (.slice a ns.length cp) ns∧ns.length≤100∧(∀ x ∈ ns,NdIn x)∧W.RSt w' g k xs c (some p)) ∨ (o=none∧e=.returned (.agg #[.slice none 0 0])∧W.RSt w' g k xs c none))
theorem getTermG_any (w:World) (g k:Nat) (xs:List UInt8) (c:Nat) (st0:Option Nat) (h:W.RSt w g k xs c st0) :
 Calls Tryz.prog 120 #[.pointer (some ⟨g,0,none⟩),.func (Fn.func 121) #[] #[],.func (Fn.func 118) #[] #[]] w (GetT g k xs c w (getT xs st0)):=by
 have hmf:∀ (fn:Fn) (first cap:Array Value) (w:World),(Instr.makeFunc fn first cap).run Tryz.prog w=.ok (.func fn first cap) w:=fun _ _ _ _=>rfl
 have hf1:=T.callK 118 Tryz.f118 Tryz.func118 (by kernel_rfl) (by kernel_rfl)
 have hf2:=T.callK 121 Tryz.f121 Tryz.func121 (by kernel_rfl) (by kernel_rfl)
 obtain ⟨b1,b2,b3,b4,b5⟩:=box_three w #[.pointer (some ⟨g,0,none⟩)] #[.slice none 0 0] #[.pointer (some ⟨g,0,none⟩)] 56 24 174
 obtain ⟨res,hres⟩:∃ r,r=getT xs st0:=⟨_,rfl⟩
 rw [← hres]
 have HLT:=Hj h.lt
 have HC:=Hj (getterTerm_any _ g k xs c st0 (h.below b4))
 have H:=Hj hres
 clear h hres
 obtain ⟨W0,HW⟩:∃ W0,(((w.alloc (.cells #[.pointer (some ⟨g,0,none⟩)] 56)).alloc (.cells #[.slice none 0 0] 24)).alloc (.cells #[.pointer (some ⟨g,0,none⟩)] 174))=W0:=⟨_,rfl⟩
 rw [HW] at b1 b2 b3 b4 b5 HC
 go_enter_defers Tryz.func120,Tryz.ntmps120
 have c2:W0.cell? ⟨w.heap.size+1+1,0,none⟩=some (.pointer (some ⟨g,0,none⟩)):=b3.cell 0 rfl
 have HB:=Hj (Aj b1 (Aj b2 (Aj b3 (Aj b4 b5))))
 clear b1 b2 b3 b4 b5
 go_wp2_with fail
 clear HW
 refine HC.out.mono ?_
 rintro e W1 ⟨ho1,hcase⟩
 have hl1:=ho1.lies HB.out.1 (by have:=HLT.out;omega)
 have hl2:=ho1.lies HB.out.2.1 (by have:=HLT.out;omega)
 have hl3:=ho1.lies HB.out.2.2.1 (by have:=HLT.out;omega)
 have hw1:W.Only g w W1 none:=(W.only_below HB.out.2.2.2.1).trans0 ho1
 have HO:=Hj (Aj hl1 (Aj hl2 (Aj hl3 hw1)))
 clear hl1 hl2 hl3 hw1 ho1 c2 HC
 rcases hcase with ⟨ns,a,n,cp,st,rfl,hown,hlen,hins,hrd,hdec⟩ | ⟨⟨m,rfl⟩,hdec,st,hrd⟩
 · obtain rfl:n=ns.length:=own_n hown
   have hb2:Below W1.heap.size W1 (W1.alloc (.cells #[.slice a ns.length cp] 24)):=(Below.refl _ _).alloc (Nat.le_refl _) _
   have hx2:=Lies.new W1 #[.slice a ns.length cp] 24
   obtain ⟨n,hn⟩:∃ n,n=ns.length:=⟨_,rfl⟩
   rw [← hn] at hb2 hx2 ⊢
   obtain ⟨W2,HW2⟩:∃ W2,W1.alloc (.cells #[.slice a n cp] 24)=W2:=⟨_,rfl⟩
   rw [HW2] at hb2 hx2
   have hw2:W.Only g w W2 none:=HO.out.2.2.2.trans0 (W.only_below hb2)
   have hl1:=HO.out.1.below hb2 HO.out.1.lt
   have hl2:=HO.out.2.1.below hb2 HO.out.2.1.lt
   have hl3:=HO.out.2.2.1.below hb2 HO.out.2.2.1.lt
   have hown2:=hown.kept hb2
   have hrd2:=hrd.below hb2
   have htat:=(hown2.tat (by rw [← hn] at hlen ⊢;omega) (fun x hx=>by have:=(hins x hx).kids.2;omega))
   obtain ⟨y1,hy1⟩:∃ b,b=st.isSome:=⟨_,rfl⟩
   obtain ⟨y2,hy2⟩:∃ b,b=T.rightB ns:=⟨_,rfl⟩
   obtain ⟨q,hq⟩:∃ q,q=W1.heap.size:=⟨_,rfl⟩
   obtain ⟨sb,hsb⟩:∃ p,p=w.heap.size+1+1:=⟨_,rfl⟩
   obtain ⟨rb,hrb⟩:∃ p,p=w.heap.size+1:=⟨_,rfl⟩
   have hl3:Lies W2 sb #[.pointer (some ⟨g,0,none⟩)] 174:=by rw [hsb];exact hl3
   rw [← hrb] at hl2
   rw [← hq] at hx2
   have K1:Hid (∀ V,Below W2.heap.size W2 V→Calls Tryz.prog 198 #[.agg #[.pointer (some ⟨g,0,none⟩)]] V fun e w'=>e=.returned (.bool y1)∧Below V.heap.size V w'):=Hj fun V hV=>by rw [hy1];exact sound_any V g k xs c st (hrd2.below hV)
   have K2:Hid (∀ V,Below W2.heap.size W2 V→Calls Tryz.prog 118 #[.agg #[.slice a n cp]] V fun e w'=>e=.returned (.bool y2)∧Below V.heap.size V w'):=Hj fun V hV=>by rw [hy2,hn];exact T.rightT_any V a cp ns (htat.1.below hV (Nat.le_refl _)) htat.2.2
   have HS:Hid (∀ V,Below W2.heap.size W2 V→V.cell? ⟨sb,0,none⟩=some (.pointer (some ⟨g,0,none⟩))∧V.cell? ⟨q,0,none⟩=some (.slice a n cp)):=Hj fun V hV=>⟨(hl3.below hV hl3.lt).cell 0 rfl,(hx2.below hV hx2.lt).cell 0 rfl⟩
   have HR:=Hj (Aj hl1 (Aj hl2 (Aj hown2 (Aj hrd2 (Aj hw2 (Aj hlen (Aj hins (Aj hn (Aj hy1 (Aj hy2 (Aj hdec (Aj hrb (Aj hb2 hq)))))))))))))
   clear hl1 hl2 hl3 hown2 hrd2 hw2 hlen hins hy1 hy2 hdec hown hrd hb2 hx2 htat hn
   go_upto_region 4 with fail
   rw [← hq,← hsb,← hrb]
   clear HW2 hq hsb hrb
   have hres2:=res_put (fn:=Tryz.f120) (a:=6) (ty:=24) (by kernel_rfl)
   refine wp_region_held (S:=Below W2.heap.size W2) (by kernel_rfl) ?_
   change wpAnyH _ _ _ _ _ 7 _ _ (World.drew W2)
   have hcur:Below W2.heap.size W2 W2.drew:=(Below.refl _ _).drew
   refine tk 0 (.agg #[.pointer (some ⟨g,0,none⟩)]) 15 rfl rfl hcur ?_ (by intro w' hS';have x0:=(HS.out w' hS').1;unfold execOp;simp [go_sem,x0]) (hQ:=held_put (hres2 15 _ (by decide)))
   refine tk 2 (.func (Fn.func 118) #[] #[]) 17 rfl rfl hcur ?_ (hQ:=held_put (hres2 17 _ (by decide)))
   refine tk 3 (.agg #[.slice a n cp]) 18 rfl rfl hcur ?_ (by intro w' hS';have x0:=(HS.out w' hS').2;unfold execOp;simp [go_sem,x0]) (hQ:=held_put (hres2 18 _ (by decide)))
   generalize W2.drew=V0 at hcur ⊢
   refine held_one (i:=1) (by kernel_rfl) _ rfl (wpOp_callG rfl (by rfl) 16 rfl 198 #[.agg #[.pointer (some ⟨g,0,none⟩)]] (by unfold execOp;simp [go_sem]) _ (ret_gro (K1.out _ hcur)) ?_)
   rintro _ U1 ⟨rfl,hn⟩
   have hcur:=hcur.trans (hn.mono hcur.size)
   clear hn
   refine ⟨hcur,?_⟩
   simp only [Sj]
   refine held_one (i:=4) (by kernel_rfl) _ rfl (wpOp_callG rfl (by rfl) 19 rfl 118 #[.agg #[.slice a n cp]] (by unfold execOp;simp [go_sem,hf1]) _ (ret_gro (K2.out _ hcur)) ?_)
   rintro _ U2 ⟨rfl,hn⟩
   have hcur:=hcur.trans (hn.mono hcur.size)
   clear hn
   refine ⟨hcur,?_⟩
   simp only [Sj]
   refine held_one (i:=5) (by kernel_rfl) _ rfl (wpOp_valG rfl (by rfl) 20 rfl (v:=.slice (some ⟨U2.heap.size,0,none⟩) 2 2) (w':=U2.alloc (.cells #[.bool y1,.bool y2] 4)) (by unfold execOp;simp [go_sem]) ⟨hcur.alloc hcur.size _,?_⟩)
   simp only [Sj]
   refine held_one (i:=6) (by kernel_rfl) _ rfl (wpOp_callP rfl (by rfl) 21 rfl 62 #[.slice (some ⟨U2.heap.size,0,none⟩) 2 2] (by unfold execOp;simp [go_sem]) _ _ (must_forms (must2 U2 y1 y2)) ?_ ?_)
   · rintro _ U9 ⟨rfl,hy,hn⟩
     have hb9:Below W2.heap.size W2 U9:=hcur.trans (hn.mono hcur.size)
     refine ⟨hb9,?_⟩
     simp only [Sj]
     refine held_done (by kernel_rfl) ?_
     have cq:=(HS.out U9 hb9).2
     have hl2:=HR.out.2.1.below hb9 HR.out.2.1.lt
     have k2:=hl2.cell 0 (v:=.slice none 0 0) rfl
     have f2:=hl2.free 0
     have H9:=Hj (Aj hb9 (Aj hy hl2))
     clear hcur hn hb9 hy hl2
     go_wp2_with fail
     have hS:=H9.out.2.2.set 0 (.slice a n cp)
     have hT0:T.OwnT (U9.setCell ⟨rb,0,none⟩ (.slice a n cp)) w.heap.size (.slice a n cp) ns:=by
      have h1:T.OwnT U9 W0.heap.size (.slice a n cp) ns:=by
       have:=HR.out.2.2.1.kept H9.out.1
       rw [← HR.out.2.2.2.2.2.2.2.1] at this
       exact this
      have hr0:rb < W0.heap.size:=by rw [HR.out.2.2.2.2.2.2.2.2.2.2.2.1];have:=HB.out.2.2.2.2;omega
      exact ownT_weak (W.own_only (g:=rb) h1 (W.only_set rb 0 U9 _) (fun e=>by have:=h1.above e;omega) (fun _ _=>by simp)) HB.out.2.2.2.1.size
     have hrg:rb≠g:=by rw [HR.out.2.2.2.2.2.2.2.2.2.2.2.1];have:=HLT.out;omega
     have hrk:k≠rb:=by rw [HR.out.2.2.2.2.2.2.2.2.2.2.2.1];have:=HLT.out;omega
     have hrd9:W.RSt (U9.setCell ⟨rb,0,none⟩ (.slice a n cp)) g k xs c st:=(HR.out.2.2.2.1.below H9.out.1).only (W.only_set rb 0 U9 _) (Ne.symm hrg) hrk
     have hof:W.Only g w (U9.setCell ⟨rb,0,none⟩ (.slice a n cp)) none:=by
      have h1:=HR.out.2.2.2.2.1.trans0 (W.only_below H9.out.1)
      have h2:=W.only_set rb 0 U9 (.slice a n cp)
      refine ⟨h2.os.trans h1.os,h2.tape.trans h1.tape,h2.output.trans h1.output,Nat.le_trans h1.size h2.size,fun j hj hg hn => ?_⟩
      rw [heap_setCell_other U9 ⟨rb,0,none⟩ j _ (by show j≠rb;rw [HR.out.2.2.2.2.2.2.2.2.2.2.2.1];omega)]
      exact h1.block j hj hg hn
     have n0:=hS.cell 0 (v:=.slice a n cp) rfl
     have HF:=Hj (Aj hT0 (Aj hrd9 hof))
     clear hS hT0 hrg hrk hrd9 hof cq k2 f2
     generalize U9.setCell ⟨rb,0,none⟩ (.slice a n cp)=W9 at n0 HF ⊢
     refine leaves_cons (f:=196) (args:=#[.pointer (some ⟨w.heap.size,0,none⟩)]) (by simp) (by simp [go_sem]) ?_
     refine (getTermD_idle ⟨w.heap.size,0,none⟩ _).mono ?_
     rintro e u' w'' ⟨rfl,rfl,hw⟩
     subst hw
     simp [Leaves,settle,results,Tryz.results120,go_sem,n0]
     have hyy:=H9.out.2.1
     rw [Bool.and_eq_true] at hyy
     have hd:=HR.out.2.2.2.2.2.2.2.2.2.2.1
     have e1:st.isSome=true:=by rw [← HR.out.2.2.2.2.2.2.2.2.1];exact hyy.1
     have e2:T.rightB ns=true:=by rw [← HR.out.2.2.2.2.2.2.2.2.2.1];exact hyy.2
     have hrd9:=HF.out.2.1
     have hT9:=HF.out.1
     rw [HR.out.2.2.2.2.2.2.2.1] at hT9 ⊢
     cases st with
     | none=>cases e1
     | some p =>
       refine ⟨HF.out.2.2,.inl ⟨ns,p,a,cp,?_,rfl,hT9,HR.out.2.2.2.2.2.1,HR.out.2.2.2.2.2.2.1,hrd9⟩⟩
       rw [H.out]
       unfold getT
       rw [hd]
       show (if T.rightB ns=true then some (ns,p) else none)=some (ns,p)
       rw [if_pos e2]
   · rintro ch U9 ⟨hy,hf,hn⟩
     have hb9:Below W2.heap.size W2 U9:=hcur.trans (hn.mono hcur.size)
     obtain ⟨m,hm⟩:=hf
     obtain rfl:=Ending.panicked.inj hm
     have hno:res=none:=by
      have hd:=HR.out.2.2.2.2.2.2.2.2.2.2.1
      rw [H.out]
      unfold getT
      rw [hd]
      cases st with
      | none=>rfl
      | some p =>
        show (if T.rightB ns=true then some (ns,p) else none)=none
        rw [if_neg]
        intro e
        rw [HR.out.2.2.2.2.2.2.2.2.1,HR.out.2.2.2.2.2.2.2.2.2.1,e] at hy
        cases hy
     have hl1:=HR.out.1.below hb9 HR.out.1.lt
     have hl2:=HR.out.2.1.below hb9 HR.out.2.1.lt
     have hr9:=HR.out.2.2.2.1.below hb9
     have ho9:=HR.out.2.2.2.2.1.trans0 (W.only_below hb9)
     have H9:=Hj (Aj hl2 (Aj ho9 hno))
     clear hcur hn hb9 hl2 ho9 hno hy hm
     show bodyPostD _ _ _ (Exit.panic _) _ _
     refine leaves_cons (f:=196) (args:=#[.pointer (some ⟨w.heap.size,0,none⟩)]) (by simp) (by simp [go_sem]) ?_
     refine (getTermD_panicking w.heap.size g k xs c st 64 _ [] _ (hl1.cell 0 rfl) hr9).mono ?_
     rintro e u' w'' ⟨rfl,rfl,hr,ho⟩
     have hl2:=ho.lies H9.out.1 (by rw [HR.out.2.2.2.2.2.2.2.2.2.2.2.1];have:=HLT.out;omega)
     have n0:=hl2.cell 0 (v:=.slice none 0 0) rfl
     have HF:=Hj (Aj hr (H9.out.2.1.trans0 ho))
     clear hr ho hl2 hl1 hr9
     simp [Leaves,settle,results,Tryz.results120,go_sem,n0]
     exact ⟨HF.out.2,.inr ⟨H9.out.2.2,rfl,HF.out.1⟩⟩
 · have H1:=Hj (Aj hrd hdec)
   clear hrd hdec
   go_wp2_with fail
   refine leaves_cons (f:=196) (args:=#[.pointer (some ⟨w.heap.size,0,none⟩)]) (by simp) (by simp [go_sem]) ?_
   refine (getTermD_panicking w.heap.size g k xs c st 64 _ [] _ (HO.out.1.cell 0 rfl) H1.out.1).mono ?_
   rintro e u' w'' ⟨rfl,rfl,hr,ho⟩
   have hl2:=ho.lies HO.out.2.1 (by have:=HLT.out;omega)
   have n0:=hl2.cell 0 (v:=.slice none 0 0) rfl
   have HF:=Hj (Aj hr (HO.out.2.2.2.trans0 ho))
   clear hr ho hl2
   simp [Leaves,settle,results,Tryz.results120,go_sem,n0]
   refine ⟨HF.out.2,.inr ⟨?_,rfl,HF.out.1⟩⟩
   rw [H.out]
   unfold getT
   rw [H1.out.2]
end Go.Proofs.YtilbbemdinpjcaaGreat.P
namespace Go.Proofs.YtilbbemdinpjcaaGreat.P
set_option maxRecDepth 100000
open Go.RowKit Go.Sort
theorem setNew_only {g r:Nat} {w V:World} {v:Value} (h:W.Only g w V none) (hr:w.heap.size≤r):W.Only g w (V.setCell ⟨r,0,none⟩ v) none:=by
 have h2:=W.only_set r 0 V v
 refine ⟨h2.os.trans h.os,h2.tape.trans h.tape,h2.output.trans h.output,Nat.le_trans h.size h2.size,fun j hj hg hn => ?_⟩
 rw [heap_setCell_other V ⟨r,0,none⟩ j _ (by show j≠r;omega)]
 exact h.block j hj hg hn
theorem getTerm_any (w:World) (g k:Nat) (xs:List UInt8) (c:Nat) (st0:Option Nat) (h:W.RSt w g k xs c st0) :
  Calls Tryz.prog 49 #[.pointer (some ⟨g,0,none⟩)] w (GetT g k xs c w (getT xs st0)):=by
 obtain ⟨hA,hb⟩:=box_one w (.slice none 0 0) 24
 obtain ⟨res,hres⟩:∃ r,r=getT xs st0:=⟨_,rfl⟩
 have HLT:=Hj h.lt
 have hC:=getTermG_any _ g k xs c st0 (h.below hb)
 rw [← hres] at hC ⊢
 have HC:=Hj hC
 clear h hres hC
 go_enter Tryz.func49,Tryz.ntmps49
 go_upto_region 1 with fail
 generalize w.alloc (.cells #[.slice none 0 0] 24)=W0 at hA hb HC ⊢
 obtain ⟨r,hr⟩:∃ r,r=w.heap.size:=⟨_,rfl⟩
 rw [← hr] at hA ⊢
 have HB:=Hj (Aj hA (Aj hb hr))
 clear hA hb hr
 go_wp2_with fail
 refine HC.out.mono ?_
 rintro e W1 ⟨ho,hcase⟩
 have hrg:r≠g:=by rw [HB.out.2.2];have:=HLT.out;omega
 have hrk:k≠r:=by rw [HB.out.2.2];have:=HLT.out;omega
 have hl:=ho.lies HB.out.1 hrg
 have c0:=hl.cell 0 (v:=.slice none 0 0) rfl
 have f0:=hl.free 0
 have ho1:=(W.only_below HB.out.2.1).trans0 ho
 rcases hcase with ⟨ns,p,a,cp,hres,rfl,hown,hlen,hins,hrd⟩ | ⟨hres,rfl,hrd⟩
 ·
  have h1:T.OwnT (W1.setCell ⟨r,0,none⟩ (.slice a ns.length cp)) w.heap.size (.slice a ns.length cp) ns:=ownT_weak (W.own_only (g:=r) hown (W.only_set r 0 W1 _) (fun e=>by have:=hown.above e;have:=HB.out.1.lt;omega) (fun _ _=>by simp)) HB.out.2.1.size
  have h2:W.RSt (W1.setCell ⟨r,0,none⟩ (.slice a ns.length cp)) g k xs c (some p):=hrd.only (W.only_set r 0 W1 _) (Ne.symm hrg) hrk
  have h3:W.Only g w (W1.setCell ⟨r,0,none⟩ (.slice a ns.length cp)) none:=setNew_only ho1 (by rw [HB.out.2.2];exact Nat.le_refl _)
  have HS:=Hj (hl.set 0 (.slice a ns.length cp))
  have HF:=Hj (Aj h1 (Aj h2 (Aj h3 (Aj hlen (Aj hins hres)))))
  clear h1 h2 h3 hl ho ho1 hown hlen hins hrd hrg hrk hres HC
  go_wp2_with fail
  refine bodyPost_ret (v:=.agg #[.slice a ns.length cp]) (results_cell_row (p:=2) (ty:=24) (by kernel_rfl) _ _ r 24 #[.slice a ns.length cp] (0,0) _ rfl HS.out Tryz.underlying24 rfl (by kernel_rfl)) rfl ?_
  exact ⟨HF.out.2.2.1,.inl ⟨ns,p,a,cp,HF.out.2.2.2.2.2,rfl,HF.out.1,HF.out.2.2.2.1,HF.out.2.2.2.2.1,HF.out.2.1⟩⟩
 ·
  have h2:W.RSt (W1.setCell ⟨r,0,none⟩ (.slice none 0 0)) g k xs c none:=hrd.only (W.only_set r 0 W1 _) (Ne.symm hrg) hrk
  have h3:W.Only g w (W1.setCell ⟨r,0,none⟩ (.slice none 0 0)) none:=setNew_only ho1 (by rw [HB.out.2.2];exact Nat.le_refl _)
  have HS:=Hj (hl.set 0 (.slice none 0 0))
  have HF:=Hj (Aj h2 (Aj h3 hres))
  clear h2 h3 hl ho ho1 hrd hrg hrk hres HC
  go_wp2_with fail
  refine bodyPost_ret (v:=.agg #[.slice none 0 0]) (results_cell_row (p:=2) (ty:=24) (by kernel_rfl) _ _ r 24 #[.slice none 0 0] (0,0) _ rfl HS.out Tryz.underlying24 rfl (by kernel_rfl)) rfl ?_
  exact ⟨HF.out.2.1,.inr ⟨HF.out.2.2,rfl,HF.out.1⟩⟩
end Go.Proofs.YtilbbemdinpjcaaGreat.P
namespace Go.Proofs.YtilbbemdinpjcaaGreat.P
set_option maxRecDepth 100000
open Go.RowKit Go.Sort
def apartR:List En→List En→Bool
 | [],_=>true
 | _ :: _,[]=>true
 | a :: l,b :: k=>if lessR a.r b.r then apartR l (b :: k) else if lessR b.r a.r then apartR (a :: l) k else false
termination_by s m=>s.length+m.length
def lenOf:Value→Nat
 | .slice _ n _=>n
 | _=>0
theorem RowE.tail {w:World} {g off:Nat} {e:En} {es:List En} (h:RowE w (some ⟨g,off,none⟩) (e :: es)):RowE w (some ⟨g,off+102,none⟩) es:=by
 refine ⟨by have:=h.1;simp only [List.length_cons] at this;omega,fun _ => ?_⟩
 obtain ⟨g',off',e1,hg,hh⟩:=h.2 (by simp)
 have e2:(⟨g,off,none⟩:Addr)=⟨g',off',none⟩:=Option.some.inj e1
 cases e2
 refine ⟨g,off+102,rfl,hg,fun i x hi => ?_⟩
 have:=hh (i+1) x (by simpa using hi)
 rw [show off+(i+1) * 102=off+102+i * 102 by omega] at this
 exact this
def zRf:Array Value:=Array.replicate 32 (.int .u8 0) ++ #[.int .i64 0]
theorem alloc_ref (w:World):(Instr.alloc 37 true (.tuple #[])).run Tryz.prog w=.ok (.pointer (some ⟨w.heap.size,0,none⟩)) (w.alloc (.cells zRf 37)):=by kernel_rfl
theorem apart_any (w:World) (pa pb:Option Addr) (es ms:List En) (ca cb:Nat) (ha:RowE w pa es) (hb:RowE w pb ms) (hca:es.length≤ca) (hcb:ms.length≤cb) :
 Calls Tryz.prog 72 #[.slice pa es.length ca,.slice pb ms.length cb] w fun e w'=>e=.returned (.bool (apartR es ms))∧Below w.heap.size w w':=by
 obtain ⟨res,hres⟩:∃ r,r=apartR es ms:=⟨_,rfl⟩
 rw [← hres]
 have H:=Hj (Aj ha (Aj hb (Aj hca (Aj hcb hres))))
 have hal:=alloc_ref
 clear ha hb hca hcb hres
 go_enter Tryz.func72,Tryz.ntmps72
 go_upto_region 1 with fail
 go_loopw [0,1] (fun a b V=>∃ (pa pb:Option Addr) (es ms:List En) (ca cb:Nat),a=.slice pa es.length ca∧b=.slice pb ms.length cb∧RowE V pa es∧RowE V pb ms∧es.length≤ca∧ms.length≤cb∧res=apartR es ms∧Below w.heap.size w V) (fun a b _=>lenOf a+lenOf b)
 case atStart=>exact ⟨pa,pb,es,ms,ca,cb,rfl,rfl,H.out.1,H.out.2.1,H.out.2.2.1,H.out.2.2.2.1,H.out.2.2.2.2,Below.refl _ _⟩
 case round =>
  obtain ⟨qa,qb,xs,ys,da,db,rfl,rfl,hxa,hyb,hda,hdb,hr,hbw⟩:=hrel
  cases xs with
  | nil =>
    have HB:=Hj (Aj hbw (show res=true by rw [hr];cases ys <;> simp [apartR]))
    clear hbw hr hxa hyb
    simp only [List.length_nil]
    go_wp2_with fail
    go_ret
    exact ⟨by rw [HB.out.2];rfl,HB.out.1⟩
  | cons x xs =>
    cases ys with
    | nil =>
      have HB:=Hj (Aj hbw (show res=true by rw [hr];simp [apartR]))
      have m1:(0:Int) < ((x :: xs).length:Int):=by simp only [List.length_cons];omega
      clear hbw hr hxa hyb
      obtain ⟨n,hn⟩:∃ n,n=(x :: xs).length:=⟨_,rfl⟩
      rw [← hn] at m1 ⊢
      clear hn
      simp only [List.length_nil]
      go_wp2_with fail
      go_ret
      exact ⟨by rw [HB.out.2];rfl,HB.out.1⟩
    | cons y ys =>
      obtain ⟨gx,ox,rfl,hgx,hhx⟩:=hxa.2 (by simp)
      obtain ⟨gy,oy,rfl,hgy,hhy⟩:=hyb.2 (by simp)
      have hX:=hhx 0 x rfl
      have hY:=hhy 0 y rfl
      rw [Nat.zero_mul,Nat.add_zero] at hX hY
      obtain ⟨n,hn⟩:∃ n,n=(x :: xs).length:=⟨_,rfl⟩
      obtain ⟨m,hm⟩:∃ m,m=(y :: ys).length:=⟨_,rfl⟩
      obtain ⟨av,hav⟩:∃ v,v=refC x.r:=⟨_,rfl⟩
      obtain ⟨bv,hbv⟩:∃ v,v=refC y.r:=⟨_,rfl⟩
      have m1:(0:Int) < (n:Int):=by rw [hn];simp only [List.length_cons];omega
      have m2:(0:Int) < (m:Int):=by rw [hm];simp only [List.length_cons];omega
      have n1:n≠0:=by omega
      have n2:m≠0:=by omega
      have HI:=Hj (Aj (show (Tryz.prog.info? 37).map (·.size)=some av.size by rw [hav,refC_size _ hX.2.r.1];exact info_ref) (show (Tryz.prog.info? 37).map (·.size)=some bv.size by rw [hbv,refC_size _ hY.2.r.1];exact info_ref))
      have HS:Hid (∀ V,Below wr.heap.size wr V→V.rangeAt gx ox av.toList∧V.rangeAt gy oy bv.toList):=Hj fun V hV=>⟨fun j v hj=>(hV.cell (p:=⟨gx,ox+j,none⟩) hgx).trans (hX.1 j v (enC_ref hX.2 j v (by rw [← hav];exact hj))),fun j v hj=>(hV.cell (p:=⟨gy,oy+j,none⟩) hgy).trans (hY.1 j v (enC_ref hY.2 j v (by rw [← hbv];exact hj)))⟩
      rw [← hn,← hm]
      go_upto_region 2 with fail
      refine wp_region_held (S:=Below wr.heap.size wr) (by kernel_rfl) ?_
      change wpAnyH _ _ _ _ _ 12 _ _ (World.drew wr)
      have hcur:Below wr.heap.size wr wr.drew:=(Below.refl _ _).drew
      refine tk 0 (.slice (some ⟨gx,ox,none⟩) n da) 15 rfl rfl hcur ?_
      refine tk 1 (.pointer (some ⟨gx,ox,none⟩)) 16 rfl rfl hcur ?_ (by intro w' hS';unfold execOp;simp [go_sem,n1])
      refine tk 2 (.pointer (some ⟨gx,ox,none⟩)) 17 rfl rfl hcur ?_
      refine tk 3 (.agg av) 18 rfl rfl hcur ?_ (by intro w' hS';exact exec_loadM 37 (.tmp 17) rfl gx ox rfl av ((HS.out w' hS').1) Tryz.underlying37 rfl HI.out.1)
      refine tk 4 (.slice (some ⟨gy,oy,none⟩) m db) 19 rfl rfl hcur ?_
      refine tk 5 (.pointer (some ⟨gy,oy,none⟩)) 20 rfl rfl hcur ?_ (by intro w' hS';unfold execOp;simp [go_sem,n2])
      refine tk 6 (.pointer (some ⟨gy,oy,none⟩)) 21 rfl rfl hcur ?_
      refine tk 7 (.agg bv) 22 rfl rfl hcur ?_ (by intro w' hS';exact exec_loadM 37 (.tmp 21) rfl gy oy rfl bv ((HS.out w' hS').2) Tryz.underlying37 rfl HI.out.2)
      generalize wr.drew=V0 at hcur ⊢
      have hone1:av.all (·.oneCell')=true:=by rw [hav];exact refC_one _
      have hone2:bv.all (·.oneCell')=true:=by rw [hbv];exact refC_one _
      have hz1:zRf.size=av.size:=by rw [hav,refC_size _ hX.2.r.1];rfl
      have hz2:zRf.size=bv.size:=by rw [hbv,refC_size _ hY.2.r.1];rfl
      have HZ:=Hj (Aj hone1 (Aj hone2 (Aj hz1 hz2)))
      have HP:=Hj (Aj hxa (Aj hyb (Aj hda (Aj hdb (Aj hr (Aj hbw (Aj hX (Aj hY (Aj hn (Aj hm (Aj hav hbv)))))))))))
      clear hxa hyb hda hdb hr hbw hX hY hn hm hav hbv hgx hgy hhx hhy hone1 hone2 hz1 hz2
      refine (show (∀ (bx by_:Nat) (V:World),Lies V bx av 37→Lies V by_ bv 37→Below wr.heap.size wr V→(?X:Nat→Nat→World→Prop) bx by_ V)→_ from fun hcont => ?arms) ?cont
      case arms =>
       refine wpAnyH_all (rs:=[8,9]) (by kernel_rfl) (by simp) ?_
       intro jj hjj
       have hjj':jj=8 ∨ jj=9:=by simpa using hjj
       clear hjj
       rcases hjj' with rfl | rfl
       case inl =>
        obtain ⟨bx,hbx⟩:∃ b,b=V0.heap.size:=⟨_,rfl⟩
        have hlbx:=Lies.new V0 zRf 37
        have hqbx:wr.heap.size≤bx:=by rw [hbx];exact hcur.size
        have hc1:=hcur.alloc hcur.size (.cells zRf 37)
        refine (wpOp_valG (v:=.pointer (some ⟨V0.heap.size,0,none⟩)) (w':=V0.alloc (.cells zRf 37)) rfl (by rfl) 5 rfl (by unfold execOp;simp [go_sem];rfl) ?_)
        rw [← hbx] at hlbx ⊢
        clear hbx
        generalize V0.alloc (.cells zRf 37)=V1 at hlbx hc1 ⊢
        refine ⟨hc1,?_⟩
        simp only [Sj]
        obtain ⟨by_,hby_⟩:∃ b,b=V1.heap.size:=⟨_,rfl⟩
        have hlby_:=Lies.new V1 zRf 37
        have hqby_:wr.heap.size≤by_:=by rw [hby_];exact hc1.size
        have hc2:=hc1.alloc hc1.size (.cells zRf 37)
        have hne:bx≠by_:=by have:=hlbx.lt;omega
        have hlbx:=hlbx.alloc (.cells zRf 37)
        refine held_one (i:=9) (by kernel_rfl) _ rfl (wpOp_valG (v:=.pointer (some ⟨V1.heap.size,0,none⟩)) (w':=V1.alloc (.cells zRf 37)) rfl (by rfl) 6 rfl (by unfold execOp;simp [go_sem];rfl) ?_)
        rw [← hby_] at hlby_ ⊢
        clear hby_
        generalize V1.alloc (.cells zRf 37)=V2 at hlby_ hc2 hlbx ⊢
        refine ⟨hc2,?_⟩
        simp only [Sj]
        refine held_one (i:=10) (by kernel_rfl) _ rfl (wpOp_storeRow rfl rfl rfl 37 (.tmp 5) (.tmp 18) rfl bx av rfl rfl 37 zRf hlbx HI.out.1 HZ.out.2.2.1 HZ.out.1 ?_)
        have hc3:=below_setRow hc2 bx av hqbx
        have hlbx:=hlbx.setRow av
        have hlby_:=hlby_.setRowOther bx av (Ne.symm hne)
        generalize V2.setRow bx av=V3 at hlbx hc3 hlby_ ⊢
        refine ⟨hc3,?_⟩
        refine held_one (i:=11) (by kernel_rfl) _ rfl (wpOp_storeRow rfl rfl rfl 37 (.tmp 6) (.tmp 22) rfl by_ bv rfl rfl 37 zRf hlby_ HI.out.2 HZ.out.2.2.2 HZ.out.2.1 ?_)
        have hc4:=below_setRow hc3 by_ bv hqby_
        have hlby_:=hlby_.setRow bv
        have hlbx:=hlbx.setRowOther by_ bv hne
        generalize V3.setRow by_ bv=V4 at hlby_ hc4 hlbx ⊢
        refine ⟨hc4,?_⟩
        refine held_done (by kernel_rfl) ?_
        exact hcont bx by_ V4 hlbx hlby_ hc4
       case inr =>
        obtain ⟨by_,hby_⟩:∃ b,b=V0.heap.size:=⟨_,rfl⟩
        have hlby_:=Lies.new V0 zRf 37
        have hqby_:wr.heap.size≤by_:=by rw [hby_];exact hcur.size
        have hc1:=hcur.alloc hcur.size (.cells zRf 37)
        refine (wpOp_valG (v:=.pointer (some ⟨V0.heap.size,0,none⟩)) (w':=V0.alloc (.cells zRf 37)) rfl (by rfl) 6 rfl (by unfold execOp;simp [go_sem];rfl) ?_)
        rw [← hby_] at hlby_ ⊢
        clear hby_
        generalize V0.alloc (.cells zRf 37)=V1 at hlby_ hc1 ⊢
        refine ⟨hc1,?_⟩
        simp only [Sj]
        obtain ⟨bx,hbx⟩:∃ b,b=V1.heap.size:=⟨_,rfl⟩
        have hlbx:=Lies.new V1 zRf 37
        have hqbx:wr.heap.size≤bx:=by rw [hbx];exact hc1.size
        have hc2:=hc1.alloc hc1.size (.cells zRf 37)
        have hne:by_≠bx:=by have:=hlby_.lt;omega
        have hlby_:=hlby_.alloc (.cells zRf 37)
        refine held_one (i:=8) (by kernel_rfl) _ rfl (wpOp_valG (v:=.pointer (some ⟨V1.heap.size,0,none⟩)) (w':=V1.alloc (.cells zRf 37)) rfl (by rfl) 5 rfl (by unfold execOp;simp [go_sem];rfl) ?_)
        rw [← hbx] at hlbx ⊢
        clear hbx
        generalize V1.alloc (.cells zRf 37)=V2 at hlbx hc2 hlby_ ⊢
        refine ⟨hc2,?_⟩
        simp only [Sj]
        refine held_one (i:=10) (by kernel_rfl) _ rfl (wpOp_storeRow rfl rfl rfl 37 (.tmp 5) (.tmp 18) rfl bx av rfl rfl 37 zRf hlbx HI.out.1 HZ.out.2.2.1 HZ.out.1 ?_)
        have hc3:=below_setRow hc2 bx av hqbx
        have hlbx:=hlbx.setRow av
        have hlby_:=hlby_.setRowOther bx av hne
        generalize V2.setRow bx av=V3 at hlbx hc3 hlby_ ⊢
        refine ⟨hc3,?_⟩
        refine held_one (i:=11) (by kernel_rfl) _ rfl (wpOp_storeRow rfl rfl rfl 37 (.tmp 6) (.tmp 22) rfl by_ bv rfl rfl 37 zRf hlby_ HI.out.2 HZ.out.2.2.2 HZ.out.2.1 ?_)
        have hc4:=below_setRow hc3 by_ bv hqby_
        have hlby_:=hlby_.setRow bv
        have hlbx:=hlbx.setRowOther by_ bv (Ne.symm hne)
        generalize V3.setRow by_ bv=V4 at hlby_ hc4 hlbx ⊢
        refine ⟨hc4,?_⟩
        refine held_done (by kernel_rfl) ?_
        exact hcont bx by_ V4 hlbx hlby_ hc4
      case cont =>
       intro bx by_ V hlx hly hbV
       obtain ⟨ab,hab⟩:∃ z,z=lessR x.r y.r:=⟨_,rfl⟩
       obtain ⟨ba,hba⟩:∃ z,z=lessR y.r x.r:=⟨_,rfl⟩
       have KL:Hid (∀ U,Calls Tryz.prog 21 #[.agg av,.agg bv] U (fun e w'=>e=.returned (.bool ab)∧Below U.heap.size U w')∧Calls Tryz.prog 21 #[.agg bv,.agg av] U (fun e w'=>e=.returned (.bool ba)∧Below U.heap.size U w')):=Hj fun U=>by
        rw [HP.out.2.2.2.2.2.2.2.2.2.2.1,HP.out.2.2.2.2.2.2.2.2.2.2.2,hab,hba]
        exact ⟨less_any U x.r y.r HP.out.2.2.2.2.2.2.1.2.r.1 HP.out.2.2.2.2.2.2.2.1.2.r.1,less_any U y.r x.r HP.out.2.2.2.2.2.2.2.1.2.r.1 HP.out.2.2.2.2.2.2.1.2.r.1⟩
       have hbw:=HP.out.2.2.2.2.2.1.trans (hbV.mono HP.out.2.2.2.2.2.1.size)
       have HV:=Hj (Aj hlx (Aj hly (Aj hbw (Aj hbV (Aj hab hba)))))
       clear hlx hly hbw hbV hab hba
       go_wp2_with (first
        | (refine wpList_load_row rfl 37 _ rfl bx rfl 37 av (0,0) _ HV.out.1 Tryz.underlying37 rfl HI.out.1 ?_)
        | (refine wpList_load_row rfl 37 _ rfl by_ rfl 37 bv (0,0) _ HV.out.2.1 Tryz.underlying37 rfl HI.out.2 ?_))
       refine (KL.out _).1.mono ?_
       rintro e U1 ⟨rfl,hb1⟩
       have H1:=Hj hb1
       clear hb1
       cases ab with
       | true =>
         go_wp2_with fail
         have hbU:=HV.out.2.2.2.1.trans (H1.out.mono HV.out.2.2.2.1.size)
         have hxU:=HP.out.1.below hbU (Nat.le_refl _)
         have hyU:=HP.out.2.1.below hbU (Nat.le_refl _)
         have hnn:=HP.out.2.2.2.2.2.2.2.2.1
         have hmm:=HP.out.2.2.2.2.2.2.2.2.2.1
         have h3:=HP.out.2.2.1
         rw [List.length_cons] at hnn h3
         refine ⟨⟨(if da=1 then some ⟨gx,ox,none⟩ else some ⟨gx,ox+102,none⟩),some ⟨gy,oy,none⟩,xs,y :: ys,da - 1,db,?_,?_,?_,hyU,by omega,HP.out.2.2.2.1,?_,HV.out.2.2.1.trans (H1.out.mono HV.out.2.2.1.size)⟩,?_⟩
         · rw [show n - 1=xs.length by omega]
         · rw [hmm]
         · by_cases h1:da=1
           · rw [if_pos h1]
             have hx0:xs=[]:=List.eq_nil_of_length_eq_zero (by omega)
             rw [hx0]
             exact ⟨Nat.zero_le _,fun h=>absurd h (by simp)⟩
           · rw [if_neg h1]
             exact hxU.tail
         · rw [HP.out.2.2.2.2.1,apartR,if_pos HV.out.2.2.2.2.1.symm]
         · simp only [lenOf]
           omega
       | false =>
         go_wp2_with (first
          | (refine wpList_load_row rfl 37 _ rfl bx rfl 37 av (0,0) _ (HV.out.1.below H1.out HV.out.1.lt) Tryz.underlying37 rfl HI.out.1 ?_)
          | (refine wpList_load_row rfl 37 _ rfl by_ rfl 37 bv (0,0) _ (HV.out.2.1.below H1.out HV.out.2.1.lt) Tryz.underlying37 rfl HI.out.2 ?_))
         refine (KL.out _).2.mono ?_
         rintro e U2 ⟨rfl,hb2⟩
         have H2:=Hj (H1.out.trans (hb2.mono H1.out.size))
         clear hb2
         cases ba with
         | true =>
           go_wp2_with fail
           have hbU:=HV.out.2.2.2.1.trans (H2.out.mono HV.out.2.2.2.1.size)
           have hxU:=HP.out.1.below hbU (Nat.le_refl _)
           have hyU:=HP.out.2.1.below hbU (Nat.le_refl _)
           have hnn:=HP.out.2.2.2.2.2.2.2.2.1
           have hmm:=HP.out.2.2.2.2.2.2.2.2.2.1
           have h3:=HP.out.2.2.2.1
           rw [List.length_cons] at hmm h3
           refine ⟨⟨some ⟨gx,ox,none⟩,(if db=1 then some ⟨gy,oy,none⟩ else some ⟨gy,oy+102,none⟩),x :: xs,ys,da,db - 1,?_,?_,hxU,?_,HP.out.2.2.1,by omega,?_,HV.out.2.2.1.trans (H2.out.mono HV.out.2.2.1.size)⟩,?_⟩
           · rw [hnn]
           · rw [show m - 1=ys.length by omega]
           · by_cases h1:db=1
             · rw [if_pos h1]
               have hx0:ys=[]:=List.eq_nil_of_length_eq_zero (by omega)
               rw [hx0]
               exact ⟨Nat.zero_le _,fun h=>absurd h (by simp)⟩
             · rw [if_neg h1]
               exact hyU.tail
           · rw [HP.out.2.2.2.2.1,apartR,if_neg (by rw [← HV.out.2.2.2.2.1];simp),if_pos HV.out.2.2.2.2.2.symm]
           · simp only [lenOf]
             omega
         | false =>
           have hz:res=false:=by
            rw [HP.out.2.2.2.2.1,apartR,if_neg (by rw [← HV.out.2.2.2.2.1];simp),if_neg (by rw [← HV.out.2.2.2.2.2];simp)]
           have HR:=Hj hz
           clear hz
           go_wp2_with fail
           go_ret
           exact ⟨by rw [HR.out];rfl,HV.out.2.2.1.trans (H2.out.mono HV.out.2.2.1.size)⟩
end Go.Proofs.YtilbbemdinpjcaaGreat.P
