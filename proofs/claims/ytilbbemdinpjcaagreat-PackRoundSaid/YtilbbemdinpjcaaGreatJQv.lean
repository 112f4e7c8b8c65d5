/-
  pack: GetAssets, GetTotals (the walks written by tools/gen_getr.py).
-/
import Derived.Test.YtilbbemdinpjcaaGreatJQu
set_option maxHeartbeats 16000000
namespace Go.Proofs.YtilbbemdinpjcaaGreat.P
set_option maxRecDepth 100000
open Go.RowKit Go.Sort
def getR {α:Type} (ok:List α→Bool):Option (List α × Option Nat)→Option (List α × Nat)
 | some (l,some p)=>if ok l then some (l,p) else none
 | _=>none
def GetR {α:Type} (ty:TypeId) (sz:Nat) (f:α→Array Value) (g k:Nat) (xs:List UInt8) (c:Nat) (w:World) (o:Option (List α × Nat)) (e:Ending) (w':World):Prop :=
 W.Only g w w' none∧((∃ l p v,o=some (l,p)∧e=.returned v∧w'.ownsRow w.heap.size ty sz v l.length (cellsF f l)∧W.RSt w' g k xs c (some p)) ∨ (o=none∧e=.returned (.slice none 0 0)∧W.RSt w' g k xs c none))
theorem rowD_all {α:Type} {one:Option Nat→α} {nx:Option Nat→Option Nat} (Q:α→Prop) (h:∀ st,Q (one st)):∀ (n:Nat) (acc:List α) (st:Option Nat) (l:List α) (s:Option Nat),rowD one nx n acc st=some (l,s)→(∀ a ∈ acc,Q a)→l.length≤acc.length+n∧∀ a ∈ l,Q a
 | 0,acc,st,l,s,e,ha=>by
   have:=Option.some.inj e
   have h1:acc=l:=congrArg Prod.fst this
   rw [← h1]
   exact ⟨Nat.le_refl _,ha⟩
 | n+1,acc,st,l,s,e,ha=>by
   unfold rowD at e
   split at e
   · have:=rowD_all Q h n (acc ++ [one st]) (nx st) l s e (fun a hm=>by
      rcases List.mem_append.1 hm with h1 | h1
      · exact ha a h1
      · rw [List.mem_singleton] at h1
        rw [h1]
        exact h st)
     rw [List.length_append,List.length_singleton] at this
     exact ⟨by omega,this.2⟩
   · cases e
theorem asV_ok (xs:List UInt8) (st:Option Nat):AsOk (asV xs st):=by
 have h1:=hashV_len xs st
 have h2:=textV_len xs (W.numS xs st 32) 32
 refine ⟨h1,Nat.le_trans h2 (by decide),?_⟩
 show -9223372036854775808≤IntKind.i64.wrap _∧IntKind.i64.wrap _ < 9223372036854775808
 rw [IntKind.wrap_i64]
 omega
theorem toV_ok (xs:List UInt8) (st:Option Nat):ToOk (toV xs st):=⟨hashV_len xs st,Nat.le_trans (textV_len xs (W.numS xs st 32) 32) (by decide)⟩
theorem rowAssets_ok {xs:List UInt8} {st0:Option Nat} {dr:Option (List As × Option Nat)} (hd:dr=assetsD xs st0) (l:List As) (st:Option Nat) (h:dr=some (l,st)):l.length≤maxLen∧∀ a,a ∈ l→AsOk a:=by
 rw [hd] at h
 have h1:=rowD_all AsOk (asV_ok xs) _ _ _ _ _ h (fun a ha=>by cases ha)
 have:=countV_lt xs st0
 simp only [List.length_nil] at h1
 exact ⟨Nat.le_trans (by omega:l.length≤30) (by decide),h1.2⟩
theorem rowTotals_ok {xs:List UInt8} {st0:Option Nat} {dr:Option (List To × Option Nat)} (hd:dr=totalsD xs st0) (l:List To) (st:Option Nat) (h:dr=some (l,st)):l.length≤maxLen∧∀ a,a ∈ l→ToOk a:=by
 rw [hd] at h
 have h1:=rowD_all ToOk (toV_ok xs) _ _ _ _ _ h (fun a ha=>by cases ha)
 have:=numV_four xs st0
 simp only [List.length_nil] at h1
 exact ⟨Nat.le_trans (by omega:l.length≤4294967296) (by decide),h1.2⟩
theorem getAssetsD_panicking (p g k:Nat) (xs:List UInt8) (c:Nat) (st:Option Nat) (u:TypeId) (pv:Value) (older:List PanicEntry) (w:World) (hp:w.cell? ⟨p,0,none⟩=some (.pointer (some ⟨g,0,none⟩))) (h:W.RSt w g k xs c st) :
  CallsD Tryz.prog 215 #[.pointer (some ⟨p,0,none⟩)] (.panicking ({ v:=.iface u pv,recovered:=false } :: older)) w fun e u' w' =>
   e=.returned (.tuple #[])∧u'=.panicking ({ v:=.iface u pv,recovered:=true } :: older)∧W.RSt w' g k xs c none∧W.Only g w w' none:=by
 have hs:=rSpoil_any w g k xs c st h
 refine callsD_of_wpS Tryz.func215 rfl fun c₀ cs hu => ?_
 apply wpS_seq
 apply wpS_region
 simp [wpOpsS,go_sem,recoverD,hu,Tryz.ntmps215,Exit.thenS]
 refine wpS_cond (t:=true) (by simp [Act.eval,Array.replicate]) ?_
 simp only [if_true]
 refine wpS_of_wp ?_
 go_wp2_with fail
 refine hs.mono ?_
 rintro e w2 ⟨rfl,hr,ho⟩
 go_wp2_with fail
 simp [bodyPostS,results,Tryz.results215]
 exact ⟨hr,ho⟩
theorem getAssetsD_idle (p:Addr) (w:World) :
  CallsD Tryz.prog 215 #[.pointer (some p)] .returning w fun e u' w'=>e=.returned (.tuple #[])∧u'=.returning∧w'=w:=by
 refine callsD_of_wpS Tryz.func215 rfl fun c₀ cs hu => ?_
 apply wpS_seq
 apply wpS_region
 simp [wpOpsS,go_sem,recoverD,hu,Tryz.ntmps215,Exit.thenS]
 refine wpS_cond (t:=false) (by simp [Act.eval,Array.replicate]) ?_
 simp only [Bool.false_eq_true,if_false]
 refine wpS_of_wp (wp_skip ?_)
 cases c₀
 simp_all [bodyPostS,results,Tryz.results215]
theorem getAssetsG_any (w:World) (g k:Nat) (xs:List UInt8) (c:Nat) (st0:Option Nat) (h:W.RSt w g k xs c st0) (hx:xs.length < 1000000) :
 Calls Tryz.prog 146 #[.pointer (some ⟨g,0,none⟩),.func (Fn.func 147) #[] #[],.func (Fn.func 148) #[] #[]] w (GetR 146 34 asC g k xs c w (getR mintB (assetsD xs st0))):=by
 have hmf:∀ (fn:Fn) (first cap:Array Value) (w:World),(Instr.makeFunc fn first cap).run Tryz.prog w=.ok (.func fn first cap) w:=fun _ _ _ _=>rfl
 have hf1:=T.callK 148 Tryz.f148 Tryz.func148 (by kernel_rfl) (by kernel_rfl)
 have hf2:=T.callK 147 Tryz.f147 Tryz.func147 (by kernel_rfl) (by kernel_rfl)
 obtain ⟨b1,b2,b3,b4⟩:=box_two w #[.pointer (some ⟨g,0,none⟩)] #[.pointer (some ⟨g,0,none⟩)] 56 174
 obtain ⟨dr,hdr⟩:∃ r,r=assetsD xs st0:=⟨_,rfl⟩
 have HLT:=Hj h.lt
 have hC:=getterAssets_any _ g k xs c st0 (h.below b3) hx
 rw [← hdr] at hC ⊢
 have HC:=Hj hC
 have HD:=Hj (rowAssets_ok hdr)
 clear h hdr hC hx
 obtain ⟨W0,HW⟩:∃ W0,((w.alloc (.cells #[.pointer (some ⟨g,0,none⟩)] 56)).alloc (.cells #[.pointer (some ⟨g,0,none⟩)] 174))=W0:=⟨_,rfl⟩
 rw [HW] at b1 b2 b3 b4 HC
 go_enter_defers Tryz.func146,Tryz.ntmps146
 have c2:W0.cell? ⟨w.heap.size+1,0,none⟩=some (.pointer (some ⟨g,0,none⟩)):=b2.cell 0 rfl
 have HB:=Hj (Aj b1 (Aj b2 (Aj b3 b4)))
 clear b1 b2 b3 b4
 go_wp2_with fail
 clear HW
 refine HC.out.mono ?_
 rintro e W1 ⟨ho1,hcase⟩
 have hl1:=ho1.lies HB.out.1 (by have:=HLT.out;omega)
 have hl2:=ho1.lies HB.out.2.1 (by have:=HLT.out;omega)
 have hw1:W.Only g w W1 none:=(W.only_below HB.out.2.2.1).trans0 ho1
 have HO:=Hj (Aj hl1 (Aj hl2 hw1))
 clear hl1 hl2 hw1 ho1 c2 HC
 rcases hcase with ⟨l,v,st,rfl,hown,hrd,hdec⟩ | ⟨⟨m,rfl⟩,hdec,st,hrd⟩
 · obtain ⟨hlm,hok⟩:=HD.out l st hdec
   obtain ⟨pa,cp,rfl,hrow⟩:=OwnAs.row hown hok hlm
   have c2:=HO.out.2.1.cell 0 (v:=.pointer (some ⟨g,0,none⟩)) rfl
   obtain ⟨y1,hy1⟩:∃ b,b=st.isSome:=⟨_,rfl⟩
   obtain ⟨y2,hy2⟩:∃ b,b=mintB l:=⟨_,rfl⟩
   obtain ⟨n,hn⟩:∃ n,n=l.length:=⟨_,rfl⟩
   have HS:=Hj (show Calls Tryz.prog 198 #[.agg #[.pointer (some ⟨g,0,none⟩)]] W1 fun e w'=>e=.returned (.bool y1)∧Below W1.heap.size W1 w' by rw [hy1];exact sound_any W1 g k xs c st hrd)
   have HM:Hid (∀ V,Below W1.heap.size W1 V→Calls Tryz.prog 148 #[.slice pa n cp] V fun e w'=>e=.returned (.bool y2)∧Below V.heap.size V w'):=Hj fun V hV=>by rw [hy2,hn];exact mints_any V pa l cp (hrow.below hV (Nat.le_refl _))
   have HR:=Hj (Aj hown (Aj hrd (Aj hdec (Aj hy1 (Aj hy2 hn)))))
   rw [← hn]
   clear hown hrd hdec hy1 hy2 hn hrow hlm hok
   go_wp2_with fail
   refine HS.out.mono ?_
   rintro e W2 ⟨rfl,hb2⟩
   have H2:=Hj hb2
   clear hb2 HS c2
   go_wp2_with fail
   refine (HM.out _ H2.out).mono ?_
   rintro e W3 ⟨rfl,hb3⟩
   have H3:=Hj (H2.out.trans (hb3.mono H2.out.size))
   clear hb3 HM
   go_wp2_with fail
   refine (must2 _ _ _).mono ?_
   rintro e W4 ⟨hm,hb4⟩
   have hb:=H3.out.trans (hb4.mono H3.out.size)
   have h1:=(HO.out.1).below hb HO.out.1.lt
   have h2:=HR.out.2.1.below hb
   have h3:=HO.out.2.2.trans0 (W.only_below hb)
   have h4:=ownsRow_weak (ownsRow_below HR.out.1 hb) HB.out.2.2.1.size
   have H4:=Hj (Aj h1 (Aj h2 (Aj h3 h4)))
   clear hb4 hb h1 h2 h3 h4
   rcases hm with ⟨hyy,rfl⟩ | ⟨hyy,m,rfl⟩
   · have HY:=Hj hyy
     clear hyy
     go_wp2_with fail
     refine leaves_cons (f:=215) (args:=#[.pointer (some ⟨w.heap.size,0,none⟩)]) (by simp) (by simp [go_sem]) ?_
     refine (getAssetsD_idle ⟨w.heap.size,0,none⟩ _).mono ?_
     rintro e u' w'' ⟨rfl,rfl,hw⟩
     subst hw
     simp [Leaves,settle,results,Tryz.results146,go_sem]
     have hyy:=HY.out
     rw [Bool.and_eq_true] at hyy
     have e1:st.isSome=true:=by rw [← HR.out.2.2.2.1];exact hyy.1
     have e2:mintB l=true:=by rw [← HR.out.2.2.2.2.1];exact hyy.2
     have hd:=HR.out.2.2.1
     have hr:=H4.out.2.1
     have ho:=H4.out.2.2.2
     rw [← HR.out.2.2.2.2.2] at ho
     cases st with
     | none=>cases e1
     | some p =>
       refine ⟨H4.out.2.2.1,.inl ⟨l,p,_,?_,rfl,by rw [← HR.out.2.2.2.2.2];exact ho,hr⟩⟩
       rw [hd]
       show (if mintB l=true then some (l,p) else none)=some (l,p)
       rw [if_pos e2]
   · have HY:=Hj hyy
     clear hyy
     go_wp2_with fail
     refine leaves_cons (f:=215) (args:=#[.pointer (some ⟨w.heap.size,0,none⟩)]) (by simp) (by simp [go_sem]) ?_
     refine (getAssetsD_panicking w.heap.size g k xs c st 64 _ [] _ (H4.out.1.cell 0 rfl) H4.out.2.1).mono ?_
     rintro e u' w'' ⟨rfl,rfl,hr,ho⟩
     simp [Leaves,settle,results,Tryz.results146,go_sem]
     refine ⟨H4.out.2.2.1.trans0 ho,.inr ⟨?_,rfl,hr⟩⟩
     rw [HR.out.2.2.1]
     cases st with
     | none=>rfl
     | some p =>
       show (if mintB l=true then some (l,p) else none)=none
       rw [if_neg]
       intro e
       have hyy:=HY.out
       rw [HR.out.2.2.2.1,HR.out.2.2.2.2.1,e] at hyy
       cases hyy
 · have H1:=Hj (Aj hrd hdec)
   clear hrd hdec
   go_wp2_with fail
   refine leaves_cons (f:=215) (args:=#[.pointer (some ⟨w.heap.size,0,none⟩)]) (by simp) (by simp [go_sem]) ?_
   refine (getAssetsD_panicking w.heap.size g k xs c st 64 _ [] _ (HO.out.1.cell 0 rfl) H1.out.1).mono ?_
   rintro e u' w'' ⟨rfl,rfl,hr,ho⟩
   simp [Leaves,settle,results,Tryz.results146,go_sem]
   refine ⟨HO.out.2.2.trans0 ho,.inr ⟨?_,rfl,hr⟩⟩
   rw [H1.out.2]
   rfl
theorem getAssets_any (w:World) (g k:Nat) (xs:List UInt8) (c:Nat) (st0:Option Nat) (h:W.RSt w g k xs c st0) (hx:xs.length < 1000000) :
  Calls Tryz.prog 87 #[.pointer (some ⟨g,0,none⟩)] w (GetR 146 34 asC g k xs c w (getR mintB (assetsD xs st0))):=by
 have HC:=Hj (getAssetsG_any w g k xs c st0 h hx)
 clear h hx
 obtain ⟨o,ho⟩:∃ o,o=getR mintB (assetsD xs st0):=⟨_,rfl⟩
 rw [← ho] at HC ⊢
 clear ho
 go_enter Tryz.func87,Tryz.ntmps87
 go_wp2_with fail
 refine HC.out.mono ?_
 rintro e W1 ⟨ho,hcase⟩
 have HO:=Hj ho
 clear ho HC
 rcases hcase with ⟨l,p,v,h1,rfl,h2,h3⟩ | ⟨h1,rfl,h3⟩
 ·
  have H:=Hj (Aj h1 (Aj h2 h3))
  clear h1 h2 h3
  go_wp2_with fail
  go_ret
  exact ⟨HO.out,.inl ⟨l,p,v,H.out.1,rfl,H.out.2.1,H.out.2.2⟩⟩
 ·
  have H:=Hj (Aj h1 h3)
  clear h1 h3
  go_wp2_with fail
  go_ret
  exact ⟨HO.out,.inr ⟨H.out.1,rfl,H.out.2⟩⟩
theorem getTotalsD_panicking (p g k:Nat) (xs:List UInt8) (c:Nat) (st:Option Nat) (u:TypeId) (pv:Value) (older:List PanicEntry) (w:World) (hp:w.cell? ⟨p,0,none⟩=some (.pointer (some ⟨g,0,none⟩))) (h:W.RSt w g k xs c st) :
  CallsD Tryz.prog 222 #[.pointer (some ⟨p,0,none⟩)] (.panicking ({ v:=.iface u pv,recovered:=false } :: older)) w fun e u' w' =>
   e=.returned (.tuple #[])∧u'=.panicking ({ v:=.iface u pv,recovered:=true } :: older)∧W.RSt w' g k xs c none∧W.Only g w w' none:=by
 have hs:=rSpoil_any w g k xs c st h
 refine callsD_of_wpS Tryz.func222 rfl fun c₀ cs hu => ?_
 apply wpS_seq
 apply wpS_region
 simp [wpOpsS,go_sem,recoverD,hu,Tryz.ntmps222,Exit.thenS]
 refine wpS_cond (t:=true) (by simp [Act.eval,Array.replicate]) ?_
 simp only [if_true]
 refine wpS_of_wp ?_
 go_wp2_with fail
 refine hs.mono ?_
 rintro e w2 ⟨rfl,hr,ho⟩
 go_wp2_with fail
 simp [bodyPostS,results,Tryz.results222]
 exact ⟨hr,ho⟩
theorem getTotalsD_idle (p:Addr) (w:World) :
  CallsD Tryz.prog 222 #[.pointer (some p)] .returning w fun e u' w'=>e=.returned (.tuple #[])∧u'=.returning∧w'=w:=by
 refine callsD_of_wpS Tryz.func222 rfl fun c₀ cs hu => ?_
 apply wpS_seq
 apply wpS_region
 simp [wpOpsS,go_sem,recoverD,hu,Tryz.ntmps222,Exit.thenS]
 refine wpS_cond (t:=false) (by simp [Act.eval,Array.replicate]) ?_
 simp only [Bool.false_eq_true,if_false]
 refine wpS_of_wp (wp_skip ?_)
 cases c₀
 simp_all [bodyPostS,results,Tryz.results222]
theorem getTotalsG_any (w:World) (g k:Nat) (xs:List UInt8) (c:Nat) (st0:Option Nat) (h:W.RSt w g k xs c st0) (hx:xs.length < 1000000) :
 Calls Tryz.prog 151 #[.pointer (some ⟨g,0,none⟩),.func (Fn.func 152) #[] #[],.func (Fn.func 71) #[] #[]] w (GetR 150 35 toC g k xs c w (getR (wellT nzT) (totalsD xs st0))):=by
 have hmf:∀ (fn:Fn) (first cap:Array Value) (w:World),(Instr.makeFunc fn first cap).run Tryz.prog w=.ok (.func fn first cap) w:=fun _ _ _ _=>rfl
 have hf1:=T.callK 71 Tryz.f71 Tryz.func71 (by kernel_rfl) (by kernel_rfl)
 have hf2:=T.callK 152 Tryz.f152 Tryz.func152 (by kernel_rfl) (by kernel_rfl)
 obtain ⟨b1,b2,b3,b4⟩:=box_two w #[.pointer (some ⟨g,0,none⟩)] #[.pointer (some ⟨g,0,none⟩)] 56 174
 obtain ⟨dr,hdr⟩:∃ r,r=totalsD xs st0:=⟨_,rfl⟩
 have HLT:=Hj h.lt
 have hC:=getterTotals_any _ g k xs c st0 (h.below b3) hx
 rw [← hdr] at hC ⊢
 have HC:=Hj hC
 have HD:=Hj (rowTotals_ok hdr)
 clear h hdr hC hx
 obtain ⟨W0,HW⟩:∃ W0,((w.alloc (.cells #[.pointer (some ⟨g,0,none⟩)] 56)).alloc (.cells #[.pointer (some ⟨g,0,none⟩)] 174))=W0:=⟨_,rfl⟩
 rw [HW] at b1 b2 b3 b4 HC
 go_enter_defers Tryz.func151,Tryz.ntmps151
 have c2:W0.cell? ⟨w.heap.size+1,0,none⟩=some (.pointer (some ⟨g,0,none⟩)):=b2.cell 0 rfl
 have HB:=Hj (Aj b1 (Aj b2 (Aj b3 b4)))
 clear b1 b2 b3 b4
 go_wp2_with fail
 clear HW
 refine HC.out.mono ?_
 rintro e W1 ⟨ho1,hcase⟩
 have hl1:=ho1.lies HB.out.1 (by have:=HLT.out;omega)
 have hl2:=ho1.lies HB.out.2.1 (by have:=HLT.out;omega)
 have hw1:W.Only g w W1 none:=(W.only_below HB.out.2.2.1).trans0 ho1
 have HO:=Hj (Aj hl1 (Aj hl2 hw1))
 clear hl1 hl2 hw1 ho1 c2 HC
 rcases hcase with ⟨l,v,st,rfl,hown,hrd,hdec⟩ | ⟨⟨m,rfl⟩,hdec,st,hrd⟩
 · obtain ⟨hlm,hok⟩:=HD.out l st hdec
   obtain ⟨pa,cp,rfl,hrow⟩:=OwnTo.row hown hok hlm
   have c2:=HO.out.2.1.cell 0 (v:=.pointer (some ⟨g,0,none⟩)) rfl
   obtain ⟨y1,hy1⟩:∃ b,b=st.isSome:=⟨_,rfl⟩
   obtain ⟨y2,hy2⟩:∃ b,b=(wellT nzT) l:=⟨_,rfl⟩
   obtain ⟨n,hn⟩:∃ n,n=l.length:=⟨_,rfl⟩
   have HS:=Hj (show Calls Tryz.prog 198 #[.agg #[.pointer (some ⟨g,0,none⟩)]] W1 fun e w'=>e=.returned (.bool y1)∧Below W1.heap.size W1 w' by rw [hy1];exact sound_any W1 g k xs c st hrd)
   have HM:Hid (∀ V,Below W1.heap.size W1 V→Calls Tryz.prog 71 #[.slice pa n cp] V fun e w'=>e=.returned (.bool y2)∧Below V.heap.size V w'):=Hj fun V hV=>by rw [hy2,hn];exact totalsW_any V pa l cp (hrow.below hV (Nat.le_refl _))
   have HR:=Hj (Aj hown (Aj hrd (Aj hdec (Aj hy1 (Aj hy2 hn)))))
   rw [← hn]
   clear hown hrd hdec hy1 hy2 hn hrow hlm hok
   go_wp2_with fail
   refine HS.out.mono ?_
   rintro e W2 ⟨rfl,hb2⟩
   have H2:=Hj hb2
   clear hb2 HS c2
   go_wp2_with fail
   refine (HM.out _ H2.out).mono ?_
   rintro e W3 ⟨rfl,hb3⟩
   have H3:=Hj (H2.out.trans (hb3.mono H2.out.size))
   clear hb3 HM
   go_wp2_with fail
   refine (must2 _ _ _).mono ?_
   rintro e W4 ⟨hm,hb4⟩
   have hb:=H3.out.trans (hb4.mono H3.out.size)
   have h1:=(HO.out.1).below hb HO.out.1.lt
   have h2:=HR.out.2.1.below hb
   have h3:=HO.out.2.2.trans0 (W.only_below hb)
   have h4:=ownsRow_weak (ownsRow_below HR.out.1 hb) HB.out.2.2.1.size
   have H4:=Hj (Aj h1 (Aj h2 (Aj h3 h4)))
   clear hb4 hb h1 h2 h3 h4
   rcases hm with ⟨hyy,rfl⟩ | ⟨hyy,m,rfl⟩
   · have HY:=Hj hyy
     clear hyy
     go_wp2_with fail
     refine leaves_cons (f:=222) (args:=#[.pointer (some ⟨w.heap.size,0,none⟩)]) (by simp) (by simp [go_sem]) ?_
     refine (getTotalsD_idle ⟨w.heap.size,0,none⟩ _).mono ?_
     rintro e u' w'' ⟨rfl,rfl,hw⟩
     subst hw
     simp [Leaves,settle,results,Tryz.results151,go_sem]
     have hyy:=HY.out
     rw [Bool.and_eq_true] at hyy
     have e1:st.isSome=true:=by rw [← HR.out.2.2.2.1];exact hyy.1
     have e2:(wellT nzT) l=true:=by rw [← HR.out.2.2.2.2.1];exact hyy.2
     have hd:=HR.out.2.2.1
     have hr:=H4.out.2.1
     have ho:=H4.out.2.2.2
     rw [← HR.out.2.2.2.2.2] at ho
     cases st with
     | none=>cases e1
     | some p =>
       refine ⟨H4.out.2.2.1,.inl ⟨l,p,_,?_,rfl,by rw [← HR.out.2.2.2.2.2];exact ho,hr⟩⟩
       rw [hd]
       show (if (wellT nzT) l=true then some (l,p) else none)=some (l,p)
       rw [if_pos e2]
   · have HY:=Hj hyy
     clear hyy
     go_wp2_with fail
     refine leaves_cons (f:=222) (args:=#[.pointer (some ⟨w.heap.size,0,none⟩)]) (by simp) (by simp [go_sem]) ?_
     refine (getTotalsD_panicking w.heap.size g k xs c st 64 _ [] _ (H4.out.1.cell 0 rfl) H4.out.2.1).mono ?_
     rintro e u' w'' ⟨rfl,rfl,hr,ho⟩
     simp [Leaves,settle,results,Tryz.results151,go_sem]
     refine ⟨H4.out.2.2.1.trans0 ho,.inr ⟨?_,rfl,hr⟩⟩
     rw [HR.out.2.2.1]
     cases st with
     | none=>rfl
     | some p =>
       show (if (wellT nzT) l=true then some (l,p) else none)=none
       rw [if_neg]
       intro e
       have hyy:=HY.out
       rw [HR.out.2.2.2.1,HR.out.2.2.2.2.1,e] at hyy
       cases hyy
 · have H1:=Hj (Aj hrd hdec)
   clear hrd hdec
   go_wp2_with fail
   refine leaves_cons (f:=222) (args:=#[.pointer (some ⟨w.heap.size,0,none⟩)]) (by simp) (by simp [go_sem]) ?_
   refine (getTotalsD_panicking w.heap.size g k xs c st 64 _ [] _ (HO.out.1.cell 0 rfl) H1.out.1).mono ?_
   rintro e u' w'' ⟨rfl,rfl,hr,ho⟩
   simp [Leaves,settle,results,Tryz.results151,go_sem]
   refine ⟨HO.out.2.2.trans0 ho,.inr ⟨?_,rfl,hr⟩⟩
   rw [H1.out.2]
   rfl
theorem getTotals_any (w:World) (g k:Nat) (xs:List UInt8) (c:Nat) (st0:Option Nat) (h:W.RSt w g k xs c st0) (hx:xs.length < 1000000) :
  Calls Tryz.prog 89 #[.pointer (some ⟨g,0,none⟩)] w (GetR 150 35 toC g k xs c w (getR (wellT nzT) (totalsD xs st0))):=by
 have HC:=Hj (getTotalsG_any w g k xs c st0 h hx)
 clear h hx
 obtain ⟨o,ho⟩:∃ o,o=getR (wellT nzT) (totalsD xs st0):=⟨_,rfl⟩
 rw [← ho] at HC ⊢
 clear ho
 go_enter Tryz.func89,Tryz.ntmps89
 go_wp2_with fail
 refine HC.out.mono ?_
 rintro e W1 ⟨ho,hcase⟩
 have HO:=Hj ho
 clear ho HC
 rcases hcase with ⟨l,p,v,h1,rfl,h2,h3⟩ | ⟨h1,rfl,h3⟩
 ·
  have H:=Hj (Aj h1 (Aj h2 h3))
  clear h1 h2 h3
  go_wp2_with fail
  go_ret
  exact ⟨HO.out,.inl ⟨l,p,v,H.out.1,rfl,H.out.2.1,H.out.2.2⟩⟩
 ·
  have H:=Hj (Aj h1 h3)
  clear h1 h3
  go_wp2_with fail
  go_ret
  exact ⟨HO.out,.inr ⟨H.out.1,rfl,H.out.2⟩⟩
end Go.Proofs.YtilbbemdinpjcaaGreat.P
