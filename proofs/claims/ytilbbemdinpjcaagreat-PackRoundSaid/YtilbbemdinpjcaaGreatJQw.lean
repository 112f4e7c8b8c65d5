/-
  pack: GetValue.
-/
import Derived.Test.YtilbbemdinpjcaaGreatJQv
set_option maxHeartbeats 16000000
namespace Go.Proofs.YtilbbemdinpjcaaGreat.P
set_option maxRecDepth 100000
open Go.RowKit Go.Sort
def getVal (xs:List UInt8) (st:Option Nat):Option ((Int × List As) × Nat):=match valD xs st with
 | some ((x,l),some p)=>if rightB x l then some ((x,l),p) else none
 | _=>none
def GetVal (g k:Nat) (xs:List UInt8) (c:Nat) (w:World) (o:Option ((Int × List As) × Nat)) (e:Ending) (w':World):Prop :=
 W.Only g w w' none∧((∃ x ns p a cp,o=some ((x,ns),p)∧e=.returned (.agg #[.int .i64 x,.slice a ns.length cp])∧OwnAs w' w.heap.size (.slice a ns.length cp) ns∧W.RSt w' g k xs c (some p)) ∨ (o=none∧e=.returned (.agg #[.int .i64 0,.slice none 0 0])∧W.RSt w' g k xs c none))
theorem valD_ok {xs:List UInt8} {st0:Option Nat} {x:Int} {l:List As} {st:Option Nat} (h:valD xs st0=some ((x,l),st)):l.length≤maxLen∧∀ a,a ∈ l→AsOk a:=by
 unfold valD at h
 cases hd:assetsD xs (W.numS xs st0 8) with
 | none=>rw [hd] at h;cases h
 | some y =>
   rw [hd] at h
   have h1:=Option.some.inj h
   have h2:y.1=l:=congrArg (fun z=>z.1.2) h1
   rw [← h2]
   exact rowAssets_ok (st0:=W.numS xs st0 8) rfl y.1 y.2 hd
theorem getValueD_panicking (p g k:Nat) (xs:List UInt8) (c:Nat) (st:Option Nat) (u:TypeId) (pv:Value) (older:List PanicEntry) (w:World) (hp:w.cell? ⟨p,0,none⟩=some (.pointer (some ⟨g,0,none⟩))) (h:W.RSt w g k xs c st) :
  CallsD Tryz.prog 220 #[.pointer (some ⟨p,0,none⟩)] (.panicking ({ v:=.iface u pv,recovered:=false } :: older)) w fun e u' w' =>
   e=.returned (.tuple #[])∧u'=.panicking ({ v:=.iface u pv,recovered:=true } :: older)∧W.RSt w' g k xs c none∧W.Only g w w' none:=by
 have hs:=rSpoil_any w g k xs c st h
 refine callsD_of_wpS Tryz.func220 rfl fun c₀ cs hu => ?_
 apply wpS_seq
 apply wpS_region
 simp [wpOpsS,go_sem,recoverD,hu,Tryz.ntmps220,Exit.thenS]
 refine wpS_cond (t:=true) (by simp [Act.eval,Array.replicate]) ?_
 simp only [if_true]
 refine wpS_of_wp ?_
 go_wp2_with fail
 refine hs.mono ?_
 rintro e w2 ⟨rfl,hr,ho⟩
 go_wp2_with fail
 simp [bodyPostS,results,Tryz.results220]
 exact ⟨hr,ho⟩
theorem getValueD_idle (p:Addr) (w:World) :
  CallsD Tryz.prog 220 #[.pointer (some p)] .returning w fun e u' w'=>e=.returned (.tuple #[])∧u'=.returning∧w'=w:=by
 refine callsD_of_wpS Tryz.func220 rfl fun c₀ cs hu => ?_
 apply wpS_seq
 apply wpS_region
 simp [wpOpsS,go_sem,recoverD,hu,Tryz.ntmps220,Exit.thenS]
 refine wpS_cond (t:=false) (by simp [Act.eval,Array.replicate]) ?_
 simp only [Bool.false_eq_true,if_false]
 refine wpS_of_wp (wp_skip ?_)
 cases c₀
 simp_all [bodyPostS,results,Tryz.results220]
theorem getValueG_any (w:World) (g k:Nat) (xs:List UInt8) (c:Nat) (st0:Option Nat) (h:W.RSt w g k xs c st0) (hxl:xs.length < 1000000) :
 Calls Tryz.prog 149 #[.pointer (some ⟨g,0,none⟩),.func (Fn.func 150) #[] #[],.func (Fn.func 63) #[] #[]] w (GetVal g k xs c w (getVal xs st0)):=by
 have hmf:∀ (fn:Fn) (first cap:Array Value) (w:World),(Instr.makeFunc fn first cap).run Tryz.prog w=.ok (.func fn first cap) w:=fun _ _ _ _=>rfl
 have hf1:=T.callK 63 Tryz.f63 Tryz.func63 (by kernel_rfl) (by kernel_rfl)
 have hf2:=T.callK 150 Tryz.f150 Tryz.func150 (by kernel_rfl) (by kernel_rfl)
 obtain ⟨b1,b2,b3,b4,b5⟩:=box_three w #[.pointer (some ⟨g,0,none⟩)] #[.int .i64 0,.slice none 0 0] #[.pointer (some ⟨g,0,none⟩)] 56 27 174
 obtain ⟨res,hres⟩:∃ r,r=getVal xs st0:=⟨_,rfl⟩
 rw [← hres]
 have HLT:=Hj h.lt
 have HC:=Hj (getterValue_any _ g k xs c st0 (h.below b4) hxl)
 have H:=Hj hres
 clear h hres
 obtain ⟨W0,HW⟩:∃ W0,(((w.alloc (.cells #[.pointer (some ⟨g,0,none⟩)] 56)).alloc (.cells #[.int .i64 0,.slice none 0 0] 27)).alloc (.cells #[.pointer (some ⟨g,0,none⟩)] 174))=W0:=⟨_,rfl⟩
 rw [HW] at b1 b2 b3 b4 b5 HC
 go_enter_defers Tryz.func149,Tryz.ntmps149
 have c2:W0.cell? ⟨w.heap.size+1+1,0,none⟩=some (.pointer (some ⟨g,0,none⟩)):=b3.cell 0 rfl
 have HB:=Hj (Aj b1 (Aj b2 (Aj b3 (Aj b4 b5))))
 clear b1 b2 b3 b4 b5
 go_wp2_with fail
 clear HW
 refine HC.out.mono ?_
 rintro e W1 ⟨ho1,hcase⟩
 have hl1:=ho1.lies HB.out.1 (by have:=HLT.out;omega)
 have hl2:=ho1.lies HB.out.2.1 (by have:=HLT.out;omega)
 have hl3:=ho1.lies HB.out.2.2.1 (by have:=HLT.out;omega)
 have hw1:W.Only g w W1 none:=(W.only_below HB.out.2.2.2.1).trans0 ho1
 have HO:=Hj (Aj hl1 (Aj hl2 (Aj hl3 hw1)))
 clear hl1 hl2 hl3 hw1 ho1 c2 HC
 rcases hcase with ⟨x,ns,a,n,cp,st,rfl,hown,hrd,hdec⟩ | ⟨⟨m,rfl⟩,hdec,st,hrd⟩
 · obtain ⟨hlm,hok⟩:=valD_ok hdec
   obtain ⟨a9,c9,he9,hrow⟩:=OwnAs.row hown hok hlm
   obtain ⟨rfl,rfl,rfl⟩:a=a9∧n=ns.length∧cp=c9:=by
    injection he9 with h1 h2 h3
    exact ⟨h1,h2,h3⟩
   clear he9
   have hb2:Below W1.heap.size W1 (W1.alloc (.cells #[.int .i64 x,.slice a ns.length cp] 27)):=(Below.refl _ _).alloc (Nat.le_refl _) _
   have hx2:=Lies.new W1 #[.int .i64 x,.slice a ns.length cp] 27
   obtain ⟨n,hn⟩:∃ n,n=ns.length:=⟨_,rfl⟩
   rw [← hn] at hb2 hx2 ⊢
   obtain ⟨W2,HW2⟩:∃ W2,W1.alloc (.cells #[.int .i64 x,.slice a n cp] 27)=W2:=⟨_,rfl⟩
   rw [HW2] at hb2 hx2
   have hw2:W.Only g w W2 none:=HO.out.2.2.2.trans0 (W.only_below hb2)
   have hl1:=HO.out.1.below hb2 HO.out.1.lt
   have hl2:=HO.out.2.1.below hb2 HO.out.2.1.lt
   have hl3:=HO.out.2.2.1.below hb2 HO.out.2.2.1.lt
   have hown2:=ownsRow_below hown hb2
   have hrd2:=hrd.below hb2
   have htat:=hrow.below hb2 (Nat.le_refl _)
   obtain ⟨y1,hy1⟩:∃ b,b=st.isSome:=⟨_,rfl⟩
   obtain ⟨y2,hy2⟩:∃ b,b=rightB x ns:=⟨_,rfl⟩
   obtain ⟨q,hq⟩:∃ q,q=W1.heap.size:=⟨_,rfl⟩
   obtain ⟨sb,hsb⟩:∃ p,p=w.heap.size+1+1:=⟨_,rfl⟩
   obtain ⟨rb,hrb⟩:∃ p,p=w.heap.size+1:=⟨_,rfl⟩
   have hl3:Lies W2 sb #[.pointer (some ⟨g,0,none⟩)] 174:=by rw [hsb];exact hl3
   rw [← hrb] at hl2
   rw [← hq] at hx2
   have K1:Hid (∀ V,Below W2.heap.size W2 V→Calls Tryz.prog 198 #[.agg #[.pointer (some ⟨g,0,none⟩)]] V fun e w'=>e=.returned (.bool y1)∧Below V.heap.size V w'):=Hj fun V hV=>by rw [hy1];exact sound_any V g k xs c st (hrd2.below hV)
   have K2:Hid (∀ V,Below W2.heap.size W2 V→Calls Tryz.prog 63 #[.agg #[.int .i64 x,.slice a n cp]] V fun e w'=>e=.returned (.bool y2)∧Below V.heap.size V w'):=Hj fun V hV=>by rw [hy2,hn];exact right_any V x a ns cp (htat.below hV (Nat.le_refl _))
   have HS:Hid (∀ V,Below W2.heap.size W2 V→V.cell? ⟨sb,0,none⟩=some (.pointer (some ⟨g,0,none⟩))∧V.cell? ⟨q,0,none⟩=some (.int .i64 x)∧V.cell? ⟨q,1,none⟩=some (.slice a n cp)):=Hj fun V hV=>⟨(hl3.below hV hl3.lt).cell 0 rfl,(hx2.below hV hx2.lt).cell 0 rfl,(hx2.below hV hx2.lt).cell 1 rfl⟩
   have HR:=Hj (Aj hl1 (Aj hl2 (Aj hown2 (Aj hrd2 (Aj hw2 (Aj hlm (Aj hok (Aj hn (Aj hy1 (Aj hy2 (Aj hdec (Aj hrb (Aj hb2 hq)))))))))))))
   clear hl1 hl2 hl3 hown2 hrd2 hw2 hlm hok hrow hy1 hy2 hdec hown hrd hb2 hx2 htat hn
   go_upto_region 4 with fail
   rw [← hq,← hsb,← hrb]
   clear HW2 hq hsb hrb
   have hres2:=res_put (fn:=Tryz.f149) (a:=6) (ty:=27) (by kernel_rfl)
   refine wp_region_held (S:=Below W2.heap.size W2) (by kernel_rfl) ?_
   change wpAnyH _ _ _ _ _ 7 _ _ (World.drew W2)
   have hcur:Below W2.heap.size W2 W2.drew:=(Below.refl _ _).drew
   refine tk 0 (.agg #[.pointer (some ⟨g,0,none⟩)]) 15 rfl rfl hcur ?_ (by intro w' hS';have x0:=(HS.out w' hS').1;unfold execOp;simp [go_sem,x0]) (hQ:=held_put (hres2 15 _ (by decide)))
   refine tk 2 (.func (Fn.func 63) #[] #[]) 17 rfl rfl hcur ?_ (hQ:=held_put (hres2 17 _ (by decide)))
   refine tk 3 (.agg #[.int .i64 x,.slice a n cp]) 18 rfl rfl hcur ?_ (by intro w' hS';have x0:=(HS.out w' hS').2.1;have x1:=(HS.out w' hS').2.2;unfold execOp;simp [go_sem,x0,x1]) (hQ:=held_put (hres2 18 _ (by decide)))
   generalize W2.drew=V0 at hcur ⊢
   refine held_one (i:=1) (by kernel_rfl) _ rfl (wpOp_callG rfl (by rfl) 16 rfl 198 #[.agg #[.pointer (some ⟨g,0,none⟩)]] (by unfold execOp;simp [go_sem]) _ (ret_gro (K1.out _ hcur)) ?_)
   rintro _ U1 ⟨rfl,hn⟩
   have hcur:=hcur.trans (hn.mono hcur.size)
   clear hn
   refine ⟨hcur,?_⟩
   simp only [Sj]
   refine held_one (i:=4) (by kernel_rfl) _ rfl (wpOp_callG rfl (by rfl) 19 rfl 63 #[.agg #[.int .i64 x,.slice a n cp]] (by unfold execOp;simp [go_sem,hf1]) _ (ret_gro (K2.out _ hcur)) ?_)
   rintro _ U2 ⟨rfl,hn⟩
   have hcur:=hcur.trans (hn.mono hcur.size)
   clear hn
   refine ⟨hcur,?_⟩
   simp only [Sj]
   refine held_one (i:=5) (by kernel_rfl) _ rfl (wpOp_valG rfl (by rfl) 20 rfl (v:=.slice (some ⟨U2.heap.size,0,none⟩) 2 2) (w':=U2.alloc (.cells #[.bool y1,.bool y2] 4)) (by unfold execOp;simp [go_sem]) ⟨hcur.alloc hcur.size _,?_⟩)
   simp only [Sj]
   refine held_one (i:=6) (by kernel_rfl) _ rfl (wpOp_callP rfl (by rfl) 21 rfl 62 #[.slice (some ⟨U2.heap.size,0,none⟩) 2 2] (by unfold execOp;simp [go_sem]) _ _ (must_forms (must2 U2 y1 y2)) ?_ ?_)
   · rintro _ U9 ⟨rfl,hy,hn⟩
     have hb9:Below W2.heap.size W2 U9:=hcur.trans (hn.mono hcur.size)
     refine ⟨hb9,?_⟩
     simp only [Sj]
     refine held_done (by kernel_rfl) ?_
     have cq:=(HS.out U9 hb9).2.1
     have cq1:=(HS.out U9 hb9).2.2
     have hl2:=HR.out.2.1.below hb9 HR.out.2.1.lt
     have k2:=hl2.cell 0 (v:=.int .i64 0) rfl
     have k3:=hl2.cell 1 (v:=.slice none 0 0) rfl
     have f2:=hl2.free 0
     have f3:=hl2.free 1
     have H9:=Hj (Aj hb9 (Aj hy hl2))
     clear hcur hn hb9 hy hl2
     go_wp2_with fail
     have hS:=(H9.out.2.2.set 0 (.int .i64 x)).set 1 (.slice a n cp)
     have hst2:W.Only rb U9 ((U9.setCell ⟨rb,0,none⟩ (.int .i64 x)).setCell ⟨rb,1,none⟩ (.slice a n cp)) none:=(W.only_set rb 0 U9 (.int .i64 x)).trans0 (W.only_set rb 1 _ (.slice a n cp))
     have hT0:OwnAs ((U9.setCell ⟨rb,0,none⟩ (.int .i64 x)).setCell ⟨rb,1,none⟩ (.slice a n cp)) w.heap.size (.slice a n cp) ns:=by
      have h1:OwnAs U9 W0.heap.size (.slice a n cp) ns:=by
       have this:OwnAs U9 W0.heap.size (.slice a ns.length cp) ns:=ownsRow_below HR.out.2.2.1 H9.out.1
       rw [← HR.out.2.2.2.2.2.2.2.1] at this
       exact this
      have hr0:rb < W0.heap.size:=by rw [HR.out.2.2.2.2.2.2.2.2.2.2.2.1];have:=HB.out.2.2.2.2;omega
      exact ownsRow_weak (W.own_only (g:=rb) h1 hst2 (fun e=>by have:=(W.own_block h1 _ e).1;omega) (fun _ _=>by simp)) HB.out.2.2.2.1.size
     have hrg:rb≠g:=by rw [HR.out.2.2.2.2.2.2.2.2.2.2.2.1];have:=HLT.out;omega
     have hrk:k≠rb:=by rw [HR.out.2.2.2.2.2.2.2.2.2.2.2.1];have:=HLT.out;omega
     have hrd9:W.RSt ((U9.setCell ⟨rb,0,none⟩ (.int .i64 x)).setCell ⟨rb,1,none⟩ (.slice a n cp)) g k xs c st:=(HR.out.2.2.2.1.below H9.out.1).only hst2 (Ne.symm hrg) hrk
     have hof:W.Only g w ((U9.setCell ⟨rb,0,none⟩ (.int .i64 x)).setCell ⟨rb,1,none⟩ (.slice a n cp)) none:=by
      have h1:=HR.out.2.2.2.2.1.trans0 (W.only_below H9.out.1)
      have h2:=hst2
      refine ⟨h2.os.trans h1.os,h2.tape.trans h1.tape,h2.output.trans h1.output,Nat.le_trans h1.size h2.size,fun j hj hg hn => ?_⟩
      exact (h2.block j (Nat.lt_of_lt_of_le hj h1.size) (by rw [HR.out.2.2.2.2.2.2.2.2.2.2.2.1];omega) hn).trans (h1.block j hj hg hn)
     have n0:=hS.cell 0 (v:=.int .i64 x) rfl
     have n1:=hS.cell 1 (v:=.slice a n cp) rfl
     have HF:=Hj (Aj hT0 (Aj hrd9 hof))
     clear hS hT0 hrg hrk hrd9 hof cq k2 f2 cq1 k3 f3 hst2
     generalize (U9.setCell ⟨rb,0,none⟩ (.int .i64 x)).setCell ⟨rb,1,none⟩ (.slice a n cp)=W9 at n0 n1 HF ⊢
     refine leaves_cons (f:=220) (args:=#[.pointer (some ⟨w.heap.size,0,none⟩)]) (by simp) (by simp [go_sem]) ?_
     refine (getValueD_idle ⟨w.heap.size,0,none⟩ _).mono ?_
     rintro e u' w'' ⟨rfl,rfl,hw⟩
     subst hw
     simp [Leaves,settle,results,Tryz.results149,go_sem,n0,n1]
     have hyy:=H9.out.2.1
     rw [Bool.and_eq_true] at hyy
     have hd:=HR.out.2.2.2.2.2.2.2.2.2.2.1
     have e1:st.isSome=true:=by rw [← HR.out.2.2.2.2.2.2.2.2.1];exact hyy.1
     have e2:rightB x ns=true:=by rw [← HR.out.2.2.2.2.2.2.2.2.2.1];exact hyy.2
     have hrd9:=HF.out.2.1
     have hT9:=HF.out.1
     rw [HR.out.2.2.2.2.2.2.2.1] at hT9 ⊢
     cases st with
     | none=>cases e1
     | some p =>
       refine ⟨HF.out.2.2,.inl ⟨x,ns,p,a,cp,?_,rfl,hT9,hrd9⟩⟩
       rw [H.out]
       unfold getVal
       rw [hd]
       show (if rightB x ns=true then some ((x,ns),p) else none)=some ((x,ns),p)
       rw [if_pos e2]
   · rintro ch U9 ⟨hy,hf,hn⟩
     have hb9:Below W2.heap.size W2 U9:=hcur.trans (hn.mono hcur.size)
     obtain ⟨m,hm⟩:=hf
     obtain rfl:=Ending.panicked.inj hm
     have hno:res=none:=by
      have hd:=HR.out.2.2.2.2.2.2.2.2.2.2.1
      rw [H.out]
      unfold getVal
      rw [hd]
      cases st with
      | none=>rfl
      | some p =>
        show (if rightB x ns=true then some ((x,ns),p) else none)=none
        rw [if_neg]
        intro e
        rw [HR.out.2.2.2.2.2.2.2.2.1,HR.out.2.2.2.2.2.2.2.2.2.1,e] at hy
        cases hy
     have hl1:=HR.out.1.below hb9 HR.out.1.lt
     have hl2:=HR.out.2.1.below hb9 HR.out.2.1.lt
     have hr9:=HR.out.2.2.2.1.below hb9
     have ho9:=HR.out.2.2.2.2.1.trans0 (W.only_below hb9)
     have H9:=Hj (Aj hl2 (Aj ho9 hno))
     clear hcur hn hb9 hl2 ho9 hno hy hm
     show bodyPostD _ _ _ (Exit.panic _) _ _
     refine leaves_cons (f:=220) (args:=#[.pointer (some ⟨w.heap.size,0,none⟩)]) (by simp) (by simp [go_sem]) ?_
     refine (getValueD_panicking w.heap.size g k xs c st 64 _ [] _ (hl1.cell 0 rfl) hr9).mono ?_
     rintro e u' w'' ⟨rfl,rfl,hr,ho⟩
     have hl2:=ho.lies H9.out.1 (by rw [HR.out.2.2.2.2.2.2.2.2.2.2.2.1];have:=HLT.out;omega)
     have n0:=hl2.cell 0 (v:=.int .i64 0) rfl
     have n1:=hl2.cell 1 (v:=.slice none 0 0) rfl
     have HF:=Hj (Aj hr (H9.out.2.1.trans0 ho))
     clear hr ho hl2 hl1 hr9
     simp [Leaves,settle,results,Tryz.results149,go_sem,n0,n1]
     exact ⟨HF.out.2,.inr ⟨H9.out.2.2,rfl,HF.out.1⟩⟩
 · have H1:=Hj (Aj hrd hdec)
   clear hrd hdec
   go_wp2_with fail
   refine leaves_cons (f:=220) (args:=#[.pointer (some ⟨w.heap.size,0,none⟩)]) (by simp) (by simp [go_sem]) ?_
   refine (getValueD_panicking w.heap.size g k xs c st 64 _ [] _ (HO.out.1.cell 0 rfl) H1.out.1).mono ?_
   rintro e u' w'' ⟨rfl,rfl,hr,ho⟩
   have hl2:=ho.lies HO.out.2.1 (by have:=HLT.out;omega)
   have n0:=hl2.cell 0 (v:=.int .i64 0) rfl
   have n1:=hl2.cell 1 (v:=.slice none 0 0) rfl
   have HF:=Hj (Aj hr (HO.out.2.2.2.trans0 ho))
   clear hr ho hl2
   simp [Leaves,settle,results,Tryz.results149,go_sem,n0,n1]
   refine ⟨HF.out.2,.inr ⟨?_,rfl,HF.out.1⟩⟩
   rw [H.out]
   unfold getVal
   rw [H1.out.2]
theorem setNew_only1 {g r o:Nat} {w V:World} {v:Value} (h:W.Only g w V none) (hr:w.heap.size≤r):W.Only g w (V.setCell ⟨r,o,none⟩ v) none:=by
 have h2:=W.only_set r o V v
 refine ⟨h2.os.trans h.os,h2.tape.trans h.tape,h2.output.trans h.output,Nat.le_trans h.size h2.size,fun j hj hg hn => ?_⟩
 rw [heap_setCell_other V ⟨r,o,none⟩ j _ (by show j≠r;omega)]
 exact h.block j hj hg hn
theorem getValue_any (w:World) (g k:Nat) (xs:List UInt8) (c:Nat) (st0:Option Nat) (h:W.RSt w g k xs c st0) (hxl:xs.length < 1000000) :
  Calls Tryz.prog 88 #[.pointer (some ⟨g,0,none⟩)] w (GetVal g k xs c w (getVal xs st0)):=by
 have hA:=Lies.new w #[.int .i64 0,.slice none 0 0] 27
 have hb:Below w.heap.size w (w.alloc (.cells #[.int .i64 0,.slice none 0 0] 27)):=(Below.refl _ _).alloc (Nat.le_refl _) _
 obtain ⟨res,hres⟩:∃ r,r=getVal xs st0:=⟨_,rfl⟩
 have HLT:=Hj h.lt
 have hC:=getValueG_any _ g k xs c st0 (h.below hb) hxl
 rw [← hres] at hC ⊢
 have HC:=Hj hC
 clear h hres hC
 go_enter Tryz.func88,Tryz.ntmps88
 go_upto_region 1 with fail
 generalize w.alloc (.cells #[.int .i64 0,.slice none 0 0] 27)=W0 at hA hb HC ⊢
 obtain ⟨r,hr⟩:∃ r,r=w.heap.size:=⟨_,rfl⟩
 rw [← hr] at hA ⊢
 have HB:=Hj (Aj hA (Aj hb hr))
 clear hA hb hr
 go_wp2_with fail
 refine HC.out.mono ?_
 rintro e W1 ⟨ho,hcase⟩
 have hrg:r≠g:=by rw [HB.out.2.2];have:=HLT.out;omega
 have hrk:k≠r:=by rw [HB.out.2.2];have:=HLT.out;omega
 have hl:=ho.lies HB.out.1 hrg
 have c0:=hl.cell 0 (v:=.int .i64 0) rfl
 have c1:=hl.cell 1 (v:=.slice none 0 0) rfl
 have f0:=hl.free 0
 have f1:=hl.free 1
 have ho1:=(W.only_below HB.out.2.1).trans0 ho
 have key:∀ (x:Int) (v:Value),W.Only r W1 ((W1.setCell ⟨r,0,none⟩ (.int .i64 x)).setCell ⟨r,1,none⟩ v) none:=fun x v=>(W.only_set r 0 W1 (.int .i64 x)).trans0 (W.only_set r 1 _ v)
 have keyo:∀ (x:Int) (v:Value),W.Only g w ((W1.setCell ⟨r,0,none⟩ (.int .i64 x)).setCell ⟨r,1,none⟩ v) none:=fun x v=>setNew_only1 (setNew_only ho1 (Nat.le_of_eq HB.out.2.2.symm)) (Nat.le_of_eq HB.out.2.2.symm)
 rcases hcase with ⟨x,ns,p,a,cp,hres,rfl,hown,hrd⟩ | ⟨hres,rfl,hrd⟩
 ·
  obtain ⟨n,hn⟩:∃ n,n=ns.length:=⟨_,rfl⟩
  have h1:OwnAs ((W1.setCell ⟨r,0,none⟩ (.int .i64 x)).setCell ⟨r,1,none⟩ (.slice a n cp)) w.heap.size (.slice a ns.length cp) ns:=ownsRow_weak (W.own_only (g:=r) hown (key x _) (fun e=>by have:=(W.own_block hown _ e).1;have:=HB.out.1.lt;omega) (fun _ _=>by simp)) HB.out.2.1.size
  have h2:W.RSt ((W1.setCell ⟨r,0,none⟩ (.int .i64 x)).setCell ⟨r,1,none⟩ (.slice a n cp)) g k xs c (some p):=hrd.only (key x _) (Ne.symm hrg) hrk
  have h3:=keyo x (.slice a n cp)
  have HS:=Hj ((hl.set 0 (.int .i64 x)).set 1 (.slice a n cp))
  have HF:=Hj (Aj h1 (Aj h2 (Aj h3 (Aj hres hn))))
  rw [← hn]
  clear h1 h2 h3 hl ho ho1 hown hrd hrg hrk hres HC key keyo hn
  go_wp2_with fail
  refine bodyPost_ret (v:=.agg #[.int .i64 x,.slice a n cp]) (results_cell_row (p:=2) (ty:=27) (by kernel_rfl) _ _ r 27 #[.int .i64 x,.slice a n cp] (0,0) _ rfl HS.out Tryz.underlying27 rfl (by kernel_rfl)) rfl ?_
  exact ⟨HF.out.2.2.1,.inl ⟨x,ns,p,a,cp,HF.out.2.2.2.1,by rw [HF.out.2.2.2.2],HF.out.1,HF.out.2.1⟩⟩
 ·
  have h2:W.RSt ((W1.setCell ⟨r,0,none⟩ (.int .i64 0)).setCell ⟨r,1,none⟩ (.slice none 0 0)) g k xs c none:=hrd.only (key 0 _) (Ne.symm hrg) hrk
  have h3:=keyo 0 (.slice none 0 0)
  have HS:=Hj ((hl.set 0 (.int .i64 0)).set 1 (.slice none 0 0))
  have HF:=Hj (Aj h2 (Aj h3 hres))
  clear h2 h3 hl ho ho1 hrd hrg hrk hres HC key keyo
  go_wp2_with fail
  refine bodyPost_ret (v:=.agg #[.int .i64 0,.slice none 0 0]) (results_cell_row (p:=2) (ty:=27) (by kernel_rfl) _ _ r 27 #[.int .i64 0,.slice none 0 0] (0,0) _ rfl HS.out Tryz.underlying27 rfl (by kernel_rfl)) rfl ?_
  exact ⟨HF.out.2.1,.inr ⟨HF.out.2.2,rfl,HF.out.1⟩⟩
end Go.Proofs.YtilbbemdinpjcaaGreat.P
