/-
  pack: get[Diff] and GetDiff (written by tools/gen_getdi.py).
-/
import Derived.Test.YtilbbemdinpjcaaGreatJYf
set_option maxHeartbeats 16000000
namespace Go.Proofs.YtilbbemdinpjcaaGreat.P
set_option maxRecDepth 100000
open Go.RowKit Go.Sort
def enOf (y:Rf × OutV):En:=⟨y.1,⟨y.2.prog,y.2.ah,⟨y.2.coin,none,y.2.l,0⟩,y.2.kind,y.2.dh,none,y.2.ns,0⟩⟩
def rightEV (l:List (Rf × OutV)):Bool:=rightEB (l.map enOf)
theorem entB_map (f:En→En) (hr:∀ e,(f e).r=e.r) (ho:∀ e,rightOB (f e).o=rightOB e.o) (es:List En) (i:Nat):entB (es.map f) i=entB es i:=by
 unfold entB
 rw [List.getElem?_map]
 cases es[i]? with
 | none=>rfl
 | some e =>
   simp only [Option.map_some,hr,ho]
   cases i with
   | zero=>rfl
   | succ j =>
     simp only [List.getElem?_map]
     cases es[j]? with
     | none=>rfl
     | some d=>simp only [Option.map_some,hr]
theorem rightEB_map (f:En→En) (hr:∀ e,(f e).r=e.r) (ho:∀ e,rightOB (f e).o=rightOB e.o) (es:List En):rightEB (es.map f)=rightEB es:=by
 unfold rightEB
 rw [List.length_map,show entB (es.map f)=entB es from funext fun i=>entB_map f hr ho es i]
theorem rightEV_eq (l:List En):rightEV (l.map enV)=rightEB l:=by
 unfold rightEV
 rw [List.map_map]
 exact rightEB_map (enOf ∘ enV) (fun _=>rfl) (fun _=>rfl) l
def getEsOf:Option (List (Rf × OutV) × Option Nat)→Option (List (Rf × OutV) × Nat)
 | some (l,some p)=>if rightEV l=true then some (l,p) else none
 | _=>none
def getEs (xs:List UInt8) (st:Option Nat):Option (List (Rf × OutV) × Nat):=getEsOf (entriesD xs st)
def GetEs (g k:Nat) (xs:List UInt8) (c:Nat) (w:World) (o:Option (List (Rf × OutV) × Nat)) (e:Ending) (w':World):Prop :=
 W.Only g w w' none∧((∃ l p v,o=some (l.map enV,p)∧e=.returned v∧OwnEs w' w.heap.size v l∧rightEB l=true∧W.RSt w' g k xs c (some p)) ∨ (o=none∧e=.returned (.slice none 0 0)∧W.RSt w' g k xs c none))
theorem getEntriesD_panicking (p g k:Nat) (xs:List UInt8) (c:Nat) (st:Option Nat) (u:TypeId) (pv:Value) (older:List PanicEntry) (w:World) (hp:w.cell? ⟨p,0,none⟩=some (.pointer (some ⟨g,0,none⟩))) (h:W.RSt w g k xs c st) :
  CallsD Tryz.prog 230 #[.pointer (some ⟨p,0,none⟩)] (.panicking ({ v:=.iface u pv,recovered:=false } :: older)) w fun e u' w' =>
   e=.returned (.tuple #[])∧u'=.panicking ({ v:=.iface u pv,recovered:=true } :: older)∧W.RSt w' g k xs c none∧W.Only g w w' none:=by
 have hs:=rSpoil_any w g k xs c st h
 refine callsD_of_wpS Tryz.func230 rfl fun c₀ cs hu => ?_
 apply wpS_seq
 apply wpS_region
 simp [wpOpsS,go_sem,recoverD,hu,Tryz.ntmps230,Exit.thenS]
 refine wpS_cond (t:=true) (by simp [Act.eval,Array.replicate]) ?_
 simp only [if_true]
 refine wpS_of_wp ?_
 go_wp2_with fail
 refine hs.mono ?_
 rintro e w2 ⟨rfl,hr,ho⟩
 go_wp2_with fail
 simp [bodyPostS,results,Tryz.results230]
 exact ⟨hr,ho⟩
theorem getEntriesD_idle (p:Addr) (w:World) :
  CallsD Tryz.prog 230 #[.pointer (some p)] .returning w fun e u' w'=>e=.returned (.tuple #[])∧u'=.returning∧w'=w:=by
 refine callsD_of_wpS Tryz.func230 rfl fun c₀ cs hu => ?_
 apply wpS_seq
 apply wpS_region
 simp [wpOpsS,go_sem,recoverD,hu,Tryz.ntmps230,Exit.thenS]
 refine wpS_cond (t:=false) (by simp [Act.eval,Array.replicate]) ?_
 simp only [Bool.false_eq_true,if_false]
 refine wpS_of_wp (wp_skip ?_)
 cases c₀
 simp_all [bodyPostS,results,Tryz.results230]
theorem getEntriesG_any (w:World) (g k:Nat) (xs:List UInt8) (c:Nat) (st0:Option Nat) (h:W.RSt w g k xs c st0) (hx:xs.length < 1000000) :
 Calls Tryz.prog 157 #[.pointer (some ⟨g,0,none⟩),.func (Fn.func 158) #[] #[],.func (Fn.func 15) #[] #[]] w (GetEs g k xs c w (getEs xs st0)):=by
 have hmf:∀ (fn:Fn) (first cap:Array Value) (w:World),(Instr.makeFunc fn first cap).run Tryz.prog w=.ok (.func fn first cap) w:=fun _ _ _ _=>rfl
 have hf1:=T.callK 15 Tryz.f15 Tryz.func15 (by kernel_rfl) (by kernel_rfl)
 have hf2:=T.callK 158 Tryz.f158 Tryz.func158 (by kernel_rfl) (by kernel_rfl)
 obtain ⟨b1,b2,b3,b4⟩:=box_two w #[.pointer (some ⟨g,0,none⟩)] #[.pointer (some ⟨g,0,none⟩)] 56 174
 obtain ⟨dr,hdr⟩:∃ r,r=entriesD xs st0:=⟨_,rfl⟩
 have HLT:=Hj h.lt
 have hC:=getterEntries_any _ g k xs c st0 (h.below b3) hx
 rw [← hdr] at hC
 rw [show getEs xs st0=getEsOf dr by rw [hdr];rfl]
 have HC:=Hj hC
 clear h hdr hC hx
 obtain ⟨W0,HW⟩:∃ W0,((w.alloc (.cells #[.pointer (some ⟨g,0,none⟩)] 56)).alloc (.cells #[.pointer (some ⟨g,0,none⟩)] 174))=W0:=⟨_,rfl⟩
 rw [HW] at b1 b2 b3 b4 HC
 go_enter_defers Tryz.func157,Tryz.ntmps157
 have c2:W0.cell? ⟨w.heap.size+1,0,none⟩=some (.pointer (some ⟨g,0,none⟩)):=b2.cell 0 rfl
 have HB:=Hj (Aj b1 (Aj b2 (Aj b3 b4)))
 clear b1 b2 b3 b4
 go_wp2_with fail
 clear HW
 refine HC.out.mono ?_
 rintro e W1 ⟨ho1,hcase⟩
 have hl1:=ho1.lies HB.out.1 (by have:=HLT.out;omega)
 have hl2:=ho1.lies HB.out.2.1 (by have:=HLT.out;omega)
 have hw1:W.Only g w W1 none:=(W.only_below HB.out.2.2.1).trans0 ho1
 have HO:=Hj (Aj hl1 (Aj hl2 hw1))
 clear hl1 hl2 hw1 ho1 c2 HC
 rcases hcase with ⟨l,v,st,rfl,hown0,hea,hrd,hdec⟩ | ⟨⟨m,rfl⟩,hdec,st,hrd⟩
 · have hown:OwnEs W1 _ v l:=⟨hown0,hea⟩
   obtain ⟨pa,cp,rfl,_,hrow⟩:=hown.rowE
   clear hown0 hea
   have c2:=HO.out.2.1.cell 0 (v:=.pointer (some ⟨g,0,none⟩)) rfl
   obtain ⟨y1,hy1⟩:∃ b,b=st.isSome:=⟨_,rfl⟩
   obtain ⟨y2,hy2⟩:∃ b,b=rightEB l:=⟨_,rfl⟩
   obtain ⟨n,hn⟩:∃ n,n=l.length:=⟨_,rfl⟩
   have HS:=Hj (show Calls Tryz.prog 198 #[.agg #[.pointer (some ⟨g,0,none⟩)]] W1 fun e w'=>e=.returned (.bool y1)∧Below W1.heap.size W1 w' by rw [hy1];exact sound_any W1 g k xs c st hrd)
   have HM:Hid (∀ V,Below W1.heap.size W1 V→Calls Tryz.prog 15 #[.slice pa n cp] V fun e w'=>e=.returned (.bool y2)∧Below V.heap.size V w'):=Hj fun V hV=>by rw [hy2,hn];exact rightEntries_any V pa l cp (hrow.below hV (Nat.le_refl _))
   have HR:=Hj (Aj hown (Aj hrd (Aj hdec (Aj hy1 (Aj hy2 hn)))))
   rw [← hn]
   clear hown hrd hdec hy1 hy2 hn hrow
   go_wp2_with fail
   refine HS.out.mono ?_
   rintro e W2 ⟨rfl,hb2⟩
   have H2:=Hj hb2
   clear hb2 HS c2
   go_wp2_with fail
   refine (HM.out _ H2.out).mono ?_
   rintro e W3 ⟨rfl,hb3⟩
   have H3:=Hj (H2.out.trans (hb3.mono H2.out.size))
   clear hb3 HM
   go_wp2_with fail
   refine (must2 _ _ _).mono ?_
   rintro e W4 ⟨hm,hb4⟩
   have hb:=H3.out.trans (hb4.mono H3.out.size)
   have h1:=(HO.out.1).below hb HO.out.1.lt
   have h2:=HR.out.2.1.below hb
   have h3:=HO.out.2.2.trans0 (W.only_below hb)
   have h4:=(HR.out.1.below hb).weak HB.out.2.2.1.size
   have H4:=Hj (Aj h1 (Aj h2 (Aj h3 h4)))
   clear hb4 hb h1 h2 h3 h4
   rcases hm with ⟨hyy,rfl⟩ | ⟨hyy,m,rfl⟩
   · have HY:=Hj hyy
     clear hyy
     go_wp2_with fail
     refine leaves_cons (f:=230) (args:=#[.pointer (some ⟨w.heap.size,0,none⟩)]) (by simp) (by simp [go_sem]) ?_
     refine (getEntriesD_idle ⟨w.heap.size,0,none⟩ _).mono ?_
     rintro e u' w'' ⟨rfl,rfl,hw⟩
     subst hw
     simp [Leaves,settle,results,Tryz.results157,go_sem]
     have hyy:=HY.out
     rw [Bool.and_eq_true] at hyy
     have e1:st.isSome=true:=by rw [← HR.out.2.2.2.1];exact hyy.1
     have e2:rightEB l=true:=by rw [← HR.out.2.2.2.2.1];exact hyy.2
     have hd:=HR.out.2.2.1
     have hr:=H4.out.2.1
     have ho:=H4.out.2.2.2
     rw [← HR.out.2.2.2.2.2] at ho
     cases st with
     | none=>cases e1
     | some p =>
       refine ⟨H4.out.2.2.1,.inl ⟨l,p,_,?_,rfl,ho,e2,hr⟩⟩
       rw [hd]
       show (if rightEV (l.map enV)=true then some (l.map enV,p) else none)=some (l.map enV,p)
       rw [rightEV_eq,if_pos e2]
   · have HY:=Hj hyy
     clear hyy
     go_wp2_with fail
     refine leaves_cons (f:=230) (args:=#[.pointer (some ⟨w.heap.size,0,none⟩)]) (by simp) (by simp [go_sem]) ?_
     refine (getEntriesD_panicking w.heap.size g k xs c st 64 _ [] _ (H4.out.1.cell 0 rfl) H4.out.2.1).mono ?_
     rintro e u' w'' ⟨rfl,rfl,hr,ho⟩
     simp [Leaves,settle,results,Tryz.results157,go_sem]
     refine ⟨H4.out.2.2.1.trans0 ho,.inr ⟨?_,rfl,hr⟩⟩
     rw [HR.out.2.2.1]
     cases st with
     | none=>rfl
     | some p =>
       show (if rightEV (l.map enV)=true then some (l.map enV,p) else none)=none
       rw [rightEV_eq,if_neg]
       intro e
       have hyy:=HY.out
       rw [HR.out.2.2.2.1,HR.out.2.2.2.2.1,e] at hyy
       cases hyy
 · have H1:=Hj (Aj hrd hdec)
   clear hrd hdec
   go_wp2_with fail
   refine leaves_cons (f:=230) (args:=#[.pointer (some ⟨w.heap.size,0,none⟩)]) (by simp) (by simp [go_sem]) ?_
   refine (getEntriesD_panicking w.heap.size g k xs c st 64 _ [] _ (HO.out.1.cell 0 rfl) H1.out.1).mono ?_
   rintro e u' w'' ⟨rfl,rfl,hr,ho⟩
   simp [Leaves,settle,results,Tryz.results157,go_sem]
   refine ⟨HO.out.2.2.trans0 ho,.inr ⟨?_,rfl,hr⟩⟩
   rw [H1.out.2]
   rfl
theorem getEntries_any (w:World) (g k:Nat) (xs:List UInt8) (c:Nat) (st0:Option Nat) (h:W.RSt w g k xs c st0) (hx:xs.length < 1000000) :
  Calls Tryz.prog 92 #[.pointer (some ⟨g,0,none⟩)] w (GetEs g k xs c w (getEs xs st0)):=by
 have HC:=Hj (getEntriesG_any w g k xs c st0 h hx)
 clear h hx
 obtain ⟨o,ho⟩:∃ o,o=getEs xs st0:=⟨_,rfl⟩
 rw [← ho] at HC ⊢
 clear ho
 go_enter Tryz.func92,Tryz.ntmps92
 go_wp2_with fail
 refine HC.out.mono ?_
 rintro e W1 ⟨ho,hcase⟩
 have HO:=Hj ho
 clear ho HC
 rcases hcase with ⟨l,p,v,h1,rfl,h2,h2b,h3⟩ | ⟨h1,rfl,h3⟩
 ·
  have H:=Hj (Aj h1 (Aj h2 (Aj h2b h3)))
  clear h1 h2 h2b h3
  go_wp2_with fail
  go_ret
  exact ⟨HO.out,.inl ⟨l,p,v,H.out.1,rfl,H.out.2.1,H.out.2.2.1,H.out.2.2.2⟩⟩
 ·
  have H:=Hj (Aj h1 h3)
  clear h1 h3
  go_wp2_with fail
  go_ret
  exact ⟨HO.out,.inr ⟨H.out.1,rfl,H.out.2⟩⟩
end Go.Proofs.YtilbbemdinpjcaaGreat.P
namespace Go.Proofs.YtilbbemdinpjcaaGreat.P
set_option maxRecDepth 100000
open Go.RowKit Go.Sort
theorem apartR_map (f:En→En) (hr:∀ e,(f e).r=e.r):∀ a b:List En,apartR (a.map f) (b.map f)=apartR a b:=by
 intro a b
 induction a,b using apartR.induct <;> simp_all [apartR]
def rightDV (v:DfV):Bool:=rightDB ⟨none,v.s.map enOf,0,none,v.m.map enOf,0,v.fe,v.fo,none,v.l,0⟩
theorem rightDV_eq (d:Df):rightDV (diV d)=rightDB d:=by
 unfold rightDV rightDB diV
 simp only [List.map_map]
 rw [rightEB_map (enOf ∘ enV) (fun _=>rfl) (fun _=>rfl),rightEB_map (enOf ∘ enV) (fun _=>rfl) (fun _=>rfl),apartR_map (enOf ∘ enV) (fun _=>rfl)]
def getDiOf:Option (DfV × Option Nat)→Option (DfV × Nat)
 | some (v,some p)=>if rightDV v=true then some (v,p) else none
 | _=>none
def getDi (xs:List UInt8) (st:Option Nat):Option (DfV × Nat):=getDiOf (diffD xs st)
def GetDi (g k:Nat) (xs:List UInt8) (c:Nat) (w:World) (d:Option (DfV × Nat)) (e:Ending) (w':World):Prop :=
 W.Only g w w' none∧((∃ o p,d=some (diV o,p)∧e=.returned (.agg (dfC o))∧DfIn w' w.heap.size o∧rightDB o=true∧W.RSt w' g k xs c (some p)) ∨ (d=none∧e=.returned (.agg (#[.slice none 0 0,.slice none 0 0,.int .i64 0,.int .i64 0,.slice none 0 0]:Array Value))∧W.RSt w' g k xs c none))
theorem dfG_one (d:Df):(dfC d).all (·.oneCell')=true:=by
 unfold dfC
 simp [Value.oneCell']
theorem DfIn.below {V V':World} {B:Nat} {d:Df} (h:DfIn V B d) (hb:Below V.heap.size V V'):DfIn V' B d:=⟨h.1.below hb,h.2.1.below hb,ownsRow_below h.2.2.1 hb,h.2.2.2⟩
theorem DfIn.weak {V:World} {B B':Nat} {d:Df} (h:DfIn V B d) (hb:B'≤B):DfIn V B' d:=⟨h.1.weak hb,h.2.1.weak hb,ownsRow_weak h.2.2.1 hb,h.2.2.2⟩
theorem DfIn.row {V:World} {B q:Nat} {d:Df} (h:DfIn V B d) (hq:q < B) (cs:Array Value):DfIn (V.setRow q cs) B d:=⟨h.1.row hq cs,h.2.1.row hq cs,own_row h.2.2.1 hq cs,h.2.2.2⟩
theorem OwnEs.at {V:World} {B:Nat} {a:Option Addr} {cp:Nat} {l:List En} (h:OwnEs V B (.slice a l.length cp) l):l.length≤cp∧RowE V a l:=by
 obtain ⟨a',cp',e,h1,h2⟩:=h.rowE
 injection e with e1 e2 e3
 rw [e1,e3]
 exact ⟨h1,h2⟩
theorem DfIn.ok {V:World} {B:Nat} {d:Df} (h:DfIn V B d):DfOk V d:=by
 obtain ⟨h1,h2,h3,h4,h5,h6,h7⟩:=h
 obtain ⟨pa,c,e,hrow⟩:=OwnTo.row h3 h6 h7
 refine ⟨h1.at.2,h2.at.2,h4,h5,?_⟩
 injection e with e1 e2 e3
 rw [e1]
 exact hrow
theorem DfIn.room {V:World} {B:Nat} {d:Df} (h:DfIn V B d):DfRoom d:=⟨h.1.at.1,h.2.1.at.1⟩
theorem getDiffD_panicking (p g k:Nat) (xs:List UInt8) (c:Nat) (st:Option Nat) (u:TypeId) (pv:Value) (older:List PanicEntry) (w:World) (hp:w.cell? ⟨p,0,none⟩=some (.pointer (some ⟨g,0,none⟩))) (h:W.RSt w g k xs c st) :
  CallsD Tryz.prog 233 #[.pointer (some ⟨p,0,none⟩)] (.panicking ({ v:=.iface u pv,recovered:=false } :: older)) w fun e u' w' =>
   e=.returned (.tuple #[])∧u'=.panicking ({ v:=.iface u pv,recovered:=true } :: older)∧W.RSt w' g k xs c none∧W.Only g w w' none:=by
 have hs:=rSpoil_any w g k xs c st h
 refine callsD_of_wpS Tryz.func233 rfl fun c₀ cs hu => ?_
 apply wpS_seq
 apply wpS_region
 simp [wpOpsS,go_sem,recoverD,hu,Tryz.ntmps233,Exit.thenS]
 refine wpS_cond (t:=true) (by simp [Act.eval,Array.replicate]) ?_
 simp only [if_true]
 refine wpS_of_wp ?_
 go_wp2_with fail
 refine hs.mono ?_
 rintro e w2 ⟨rfl,hr,ho⟩
 go_wp2_with fail
 simp [bodyPostS,results,Tryz.results233]
 exact ⟨hr,ho⟩
theorem getDiffD_idle (p:Addr) (w:World) :
  CallsD Tryz.prog 233 #[.pointer (some p)] .returning w fun e u' w'=>e=.returned (.tuple #[])∧u'=.returning∧w'=w:=by
 refine callsD_of_wpS Tryz.func233 rfl fun c₀ cs hu => ?_
 apply wpS_seq
 apply wpS_region
 simp [wpOpsS,go_sem,recoverD,hu,Tryz.ntmps233,Exit.thenS]
 refine wpS_cond (t:=false) (by simp [Act.eval,Array.replicate]) ?_
 simp only [Bool.false_eq_true,if_false]
 refine wpS_of_wp (wp_skip ?_)
 cases c₀
 simp_all [bodyPostS,results,Tryz.results233]
theorem getDiffG_any (w:World) (g k:Nat) (xs:List UInt8) (c:Nat) (st0:Option Nat) (h:W.RSt w g k xs c st0) (hxl:xs.length < 1000000) :
 Calls Tryz.prog 159 #[.pointer (some ⟨g,0,none⟩),.func (Fn.func 160) #[] #[],.func (Fn.func 17) #[] #[]] w (GetDi g k xs c w (getDi xs st0)):=by
 have hmf:∀ (fn:Fn) (first cap:Array Value) (w:World),(Instr.makeFunc fn first cap).run Tryz.prog w=.ok (.func fn first cap) w:=fun _ _ _ _=>rfl
 have hf1:=T.callK 17 Tryz.f17 Tryz.func17 (by kernel_rfl) (by kernel_rfl)
 have hf2:=T.callK 160 Tryz.f160 Tryz.func160 (by kernel_rfl) (by kernel_rfl)
 obtain ⟨b1,b2,b3,b4,b5⟩:=box_three w #[.pointer (some ⟨g,0,none⟩)] (#[.slice none 0 0,.slice none 0 0,.int .i64 0,.int .i64 0,.slice none 0 0]:Array Value) #[.pointer (some ⟨g,0,none⟩)] 56 40 174
 obtain ⟨res,hres⟩:∃ r,r=getDi xs st0:=⟨_,rfl⟩
 rw [← hres]
 obtain ⟨od,hod⟩:∃ r,r=diffD xs st0:=⟨_,rfl⟩
 have HLT:=Hj h.lt
 have hC:=getterDiff_any _ g k xs c st0 (h.below b4) hxl
 rw [← hod] at hC
 have HC:=Hj hC
 have hres2:res=getDiOf od:=by rw [hres,hod];rfl
 have HR0:=Hj hres2
 clear h hres hod hC hres2 hxl
 obtain ⟨zc,hzc⟩:∃ z:Array Value,z=(#[.slice none 0 0,.slice none 0 0,.int .i64 0,.int .i64 0,.slice none 0 0]:Array Value):=⟨_,rfl⟩
 have HZ:=Hj hzc
 obtain ⟨W0,HW⟩:∃ W0,(((w.alloc (.cells #[.pointer (some ⟨g,0,none⟩)] 56)).alloc (.cells (#[.slice none 0 0,.slice none 0 0,.int .i64 0,.int .i64 0,.slice none 0 0]:Array Value) 40)).alloc (.cells #[.pointer (some ⟨g,0,none⟩)] 174))=W0:=⟨_,rfl⟩
 rw [HW] at b1 b2 b3 b4 b5 HC
 rw [← hzc] at b2
 clear hzc
 go_enter_defers Tryz.func159,Tryz.ntmps159
 have c2:W0.cell? ⟨w.heap.size+1+1,0,none⟩=some (.pointer (some ⟨g,0,none⟩)):=b3.cell 0 rfl
 have HB:=Hj (Aj b1 (Aj b2 (Aj b3 (Aj b4 b5))))
 clear b1 b2 b3 b4 b5
 go_wp2_with fail
 clear HW
 refine HC.out.mono ?_
 rintro e W1 ⟨ho1,hcase⟩
 have hl1:=ho1.lies HB.out.1 (by have:=HLT.out;omega)
 have hl2:=ho1.lies HB.out.2.1 (by have:=HLT.out;omega)
 have hl3:=ho1.lies HB.out.2.2.1 (by have:=HLT.out;omega)
 have hw1:W.Only g w W1 none:=(W.only_below HB.out.2.2.2.1).trans0 ho1
 rcases hcase with ⟨x,st,rfl,hin,hrd,hdec⟩ | ⟨⟨m,rfl⟩,hdec,st,hrd⟩
 case inr =>
  have H1:=Hj (Aj hrd (Aj hdec (Aj hl1 (Aj hl2 hw1))))
  clear hrd hdec hl1 hl2 hl3 hw1 ho1 c2 HC
  go_wp2_with fail
  refine leaves_cons (f:=233) (args:=#[.pointer (some ⟨w.heap.size,0,none⟩)]) (by simp) (by simp [go_sem]) ?_
  refine (getDiffD_panicking w.heap.size g k xs c st 64 _ [] _ (H1.out.2.2.1.cell 0 rfl) H1.out.1).mono ?_
  rintro e u' w'' ⟨rfl,rfl,hr,ho⟩
  have hl2:=ho.lies H1.out.2.2.2.1 (by have:=HLT.out;omega)
  have HF:=Hj (Aj hr (Aj (H1.out.2.2.2.2.trans0 ho) hl2))
  clear hr ho hl2
  refine ⟨.agg zc,results_cell_row (p:=6) (ty:=40) (by kernel_rfl) _ _ (w.heap.size+1) 40 zc (0,0) _ rfl HF.out.2.2 Tryz.underlying40 rfl (by rw [HZ.out];kernel_rfl),?_⟩
  exact ⟨HF.out.2.1,.inr ⟨by rw [HR0.out,H1.out.2.1];rfl,by rw [HZ.out],HF.out.1⟩⟩
 obtain ⟨cs,hcs⟩:∃ cs,cs=dfC x:=⟨_,rfl⟩
 have hsz:cs.size=5:=by rw [hcs];rfl
 have hone:cs.all (·.oneCell')=true:=by rw [hcs];exact dfG_one x
 have H:=Hj (Aj hdec (Aj hcs (Aj hsz hone)))
 have HI:=Hj (show (Tryz.prog.info? 40).map (·.size)=some cs.size by rw [hsz];exact info_diff)
 rw [← hcs]
 clear hdec hcs hsz hone
 have hb2:Below W1.heap.size W1 (W1.alloc (.cells cs 40)):=(Below.refl _ _).alloc (Nat.le_refl _) _
 have hx2:=Lies.new W1 cs 40
 have hsz0:cs.size=5:=H.out.2.2.1
 have hsc:(storeCells ⟨W1.heap.size,0,none⟩ cs.toList 0).run Tryz.prog (W1.alloc (.cells (#[.slice none 0 0,.slice none 0 0,.int .i64 0,.int .i64 0,.slice none 0 0]:Array Value) 40))=.ok () (W1.alloc (.cells cs 40)):=run_storeCells_new W1 40 (#[.slice none 0 0,.slice none 0 0,.int .i64 0,.int .i64 0,.slice none 0 0]:Array Value) cs HI.out (by rw [hsz0];kernel_rfl) H.out.2.2.2
 obtain ⟨W2,HW2⟩:∃ W2,W1.alloc (.cells cs 40)=W2:=⟨_,rfl⟩
 rw [HW2] at hb2 hx2 hsc
 have hw2:W.Only g w W2 none:=hw1.trans0 (W.only_below hb2)
 have hm1:=hl1.below hb2 hl1.lt
 have hm2:=hl2.below hb2 hl2.lt
 have hm3:=hl3.below hb2 hl3.lt
 have hrd2:=hrd.below hb2
 have hin2:=hin.below hb2
 obtain ⟨y1,hy1⟩:∃ b,b=st.isSome:=⟨_,rfl⟩
 obtain ⟨y2,hy2⟩:∃ b,b=rightDB x:=⟨_,rfl⟩
 obtain ⟨q,hq⟩:∃ q,q=W1.heap.size:=⟨_,rfl⟩
 obtain ⟨sb,hsb⟩:∃ p,p=w.heap.size+1+1:=⟨_,rfl⟩
 obtain ⟨rb,hrb⟩:∃ p,p=w.heap.size+1:=⟨_,rfl⟩
 have hm3:Lies W2 sb #[.pointer (some ⟨g,0,none⟩)] 174:=by rw [hsb];exact hm3
 rw [← hrb] at hm2
 rw [← hq] at hx2
 have K1:Hid (∀ V,Below W2.heap.size W2 V→Calls Tryz.prog 198 #[.agg #[.pointer (some ⟨g,0,none⟩)]] V fun e w'=>e=.returned (.bool y1)∧Below V.heap.size V w'):=Hj fun V hV=>by rw [hy1];exact sound_any V g k xs c st (hrd2.below hV)
 have K2:Hid (∀ V,Below W2.heap.size W2 V→Calls Tryz.prog 17 #[.agg cs] V fun e w'=>e=.returned (.bool y2)∧Below V.heap.size V w'):=Hj fun V hV=>by rw [hy2,H.out.2.1];exact rightDiff_any V x (hin2.below hV).ok (hin2.below hV).room
 have HS:Hid (∀ V,Below W2.heap.size W2 V→V.cell? ⟨sb,0,none⟩=some (.pointer (some ⟨g,0,none⟩))∧Lies V q cs 40):=Hj fun V hV=>⟨(hm3.below hV hm3.lt).cell 0 rfl,hx2.below hV hx2.lt⟩
 have HR:=Hj (Aj hm1 (Aj hm2 (Aj hrd2 (Aj hw2 (Aj hy1 (Aj hy2 (Aj hrb (Aj hb2 hin2))))))))
 clear hl1 hl2 hl3 hw1 ho1 c2 HC hb2 hx2 hrd hw2 hm1 hm2 hm3 hrd2 hy1 hy2 hin hin2
 go_upto_region 4 with fail
 rw [← hq,← hsb,← hrb]
 clear HW2 hq hsb hrb hsc hsz0
 have hres2:=res_put (fn:=Tryz.f159) (a:=6) (ty:=40) (by kernel_rfl)
 refine wp_region_held (S:=Below W2.heap.size W2) (by kernel_rfl) ?_
 change wpAnyH _ _ _ _ _ 7 _ _ (World.drew W2)
 have hcur:Below W2.heap.size W2 W2.drew:=(Below.refl _ _).drew
 refine tk 0 (.agg #[.pointer (some ⟨g,0,none⟩)]) 15 rfl rfl hcur ?_ (by intro w' hS';have x0:=(HS.out w' hS').1;unfold execOp;simp [go_sem,x0]) (hQ:=held_put (hres2 15 _ (by decide)))
 refine tk 2 (.func (Fn.func 17) #[] #[]) 17 rfl rfl hcur ?_ (hQ:=held_put (hres2 17 _ (by decide)))
 refine tk 3 (.agg cs) 18 rfl rfl hcur ?_ (by intro w' hS';exact exec_loadRow rfl rfl (HS.out w' hS').2 Tryz.underlying40 rfl HI.out) (hQ:=held_put (hres2 18 _ (by decide)))
 generalize W2.drew=V0 at hcur ⊢
 refine held_one (i:=1) (by kernel_rfl) _ rfl (wpOp_callG rfl (by rfl) 16 rfl 198 #[.agg #[.pointer (some ⟨g,0,none⟩)]] (by unfold execOp;simp [go_sem]) _ (ret_gro (K1.out _ hcur)) ?_)
 rintro _ U1 ⟨rfl,hn⟩
 have hcur:=hcur.trans (hn.mono hcur.size)
 clear hn
 refine ⟨hcur,?_⟩
 simp only [Sj]
 refine held_one (i:=4) (by kernel_rfl) _ rfl (wpOp_callG rfl (by rfl) 19 rfl 17 #[.agg cs] (by unfold execOp;simp [go_sem,hf1]) _ (ret_gro (K2.out _ hcur)) ?_)
 rintro _ U2 ⟨rfl,hn⟩
 have hcur:=hcur.trans (hn.mono hcur.size)
 clear hn
 refine ⟨hcur,?_⟩
 simp only [Sj]
 refine held_one (i:=5) (by kernel_rfl) _ rfl (wpOp_valG rfl (by rfl) 20 rfl (v:=.slice (some ⟨U2.heap.size,0,none⟩) 2 2) (w':=U2.alloc (.cells #[.bool y1,.bool y2] 4)) (by unfold execOp;simp [go_sem]) ⟨hcur.alloc hcur.size _,?_⟩)
 simp only [Sj]
 refine held_one (i:=6) (by kernel_rfl) _ rfl (wpOp_callP rfl (by rfl) 21 rfl 62 #[.slice (some ⟨U2.heap.size,0,none⟩) 2 2] (by unfold execOp;simp [go_sem]) _ _ (must_forms (must2 U2 y1 y2)) ?_ ?_)
 · rintro _ U9 ⟨rfl,hy,hn⟩
   have hb9:Below W2.heap.size W2 U9:=hcur.trans (hn.mono hcur.size)
   refine ⟨hb9,?_⟩
   simp only [Sj]
   refine held_done (by kernel_rfl) ?_
   have hl2:=HR.out.2.1.below hb9 HR.out.2.1.lt
   have hLq:=(HS.out U9 hb9).2
   have hsz0:cs.size=5:=H.out.2.2.1
   have hsc:(storeCells ⟨rb,0,none⟩ cs.toList 0).run Tryz.prog U9=.ok () (U9.setRow rb cs):=by
    have:=run_storeCells_from (P:=Tryz.prog) rb 40 cs.toList 0 zc U9 hl2 (by rw [Array.length_toList,hsz0,HZ.out];kernel_rfl) (fun v hv=>(Array.all_eq_true_iff_forall_mem.1 H.out.2.2.2) v (by simpa using hv))
    simpa using this
   have HL:=Hj (Aj hLq (range_lies hLq))
   have HLL:=Hj (show (Tryz.prog.info? 40).map (·.size)=some cs.toList.length by rw [Array.length_toList];exact HI.out)
   have H9:=Hj (Aj hb9 (Aj hy hl2))
   clear hcur hn hb9 hy hl2 hLq
   go_wp2_with (first
    | (at_builtin;fail)
    | (refine wpList_load_mid rfl 40 _ rfl q 0 rfl cs.toList _ HL.out.2 Tryz.underlying40 rfl HLL.out ?_))
   have hrg:rb≠g:=by rw [HR.out.2.2.2.2.2.2.1];have:=HLT.out;omega
   have hrk:rb≠k:=by rw [HR.out.2.2.2.2.2.2.1];have:=HLT.out;omega
   have hS:=Lies.setRow H9.out.2.2 cs
   have hrd9:=rst_row (HR.out.2.2.1.below H9.out.1) cs hrg hrk
   have hof:=W.only_row (HR.out.2.2.2.1.trans0 (W.only_below H9.out.1)) (k:=rb) (by rw [HR.out.2.2.2.2.2.2.1];omega) cs
   have hin9:=(((HR.out.2.2.2.2.2.2.2.2.below H9.out.1)).row (q:=rb) (by rw [HR.out.2.2.2.2.2.2.1];have:=HB.out.2.2.2.2;omega) cs).weak HB.out.2.2.2.1.size
   have HF:=Hj (Aj hS (Aj hrd9 (Aj hof hin9)))
   clear hS hrg hrk hrd9 hof hin9 hsz0 hsc HL HLL
   generalize U9.setRow rb cs=W9 at HF ⊢
   refine leaves_cons (f:=233) (args:=#[.pointer (some ⟨w.heap.size,0,none⟩)]) (by simp) (by simp [go_sem]) ?_
   refine (getDiffD_idle ⟨w.heap.size,0,none⟩ _).mono ?_
   rintro e u' w'' ⟨rfl,rfl,hw⟩
   subst hw
   refine ⟨.agg cs,results_cell_row (p:=6) (ty:=40) (by kernel_rfl) _ _ rb 40 cs (0,0) _ rfl HF.out.1 Tryz.underlying40 rfl HI.out,?_⟩
   have hyy:=H9.out.2.1
   rw [Bool.and_eq_true] at hyy
   have e1:st.isSome=true:=by rw [← HR.out.2.2.2.2.1];exact hyy.1
   have e2:rightDB x=true:=by rw [← HR.out.2.2.2.2.2.1];exact hyy.2
   have hd:=H.out.1
   have hrd9:=HF.out.2.1
   cases st with
   | none=>cases e1
   | some p =>
     refine ⟨HF.out.2.2.1,.inl ⟨x,p,?_,by rw [← H.out.2.1],HF.out.2.2.2,e2,hrd9⟩⟩
     rw [HR0.out,hd]
     show (if rightDV (diV x)=true then some (diV x,p) else none)=some (diV x,p)
     rw [rightDV_eq,if_pos e2]
 · rintro ch U9 ⟨hy,hf,hn⟩
   have hb9:Below W2.heap.size W2 U9:=hcur.trans (hn.mono hcur.size)
   obtain ⟨m,hm⟩:=hf
   obtain rfl:=Ending.panicked.inj hm
   have hno:res=none:=by
    rw [HR0.out,H.out.1]
    cases st with
    | none=>rfl
    | some p =>
      show (if rightDV (diV x)=true then some (diV x,p) else none)=none
      rw [if_neg]
      intro e
      rw [rightDV_eq] at e
      rw [HR.out.2.2.2.2.1,HR.out.2.2.2.2.2.1,e] at hy
      cases hy
   have hl1:=HR.out.1.below hb9 HR.out.1.lt
   have hl2:=HR.out.2.1.below hb9 HR.out.2.1.lt
   have hr9:=HR.out.2.2.1.below hb9
   have ho9:=HR.out.2.2.2.1.trans0 (W.only_below hb9)
   have H9:=Hj (Aj hl2 (Aj ho9 hno))
   clear hcur hn hb9 hl2 ho9 hno hy hm
   show bodyPostD _ _ _ (Exit.panic _) _ _
   refine leaves_cons (f:=233) (args:=#[.pointer (some ⟨w.heap.size,0,none⟩)]) (by simp) (by simp [go_sem]) ?_
   refine (getDiffD_panicking w.heap.size g k xs c st 64 _ [] _ (hl1.cell 0 rfl) hr9).mono ?_
   rintro e u' w'' ⟨rfl,rfl,hr,ho⟩
   have hl2:=ho.lies H9.out.1 (by rw [HR.out.2.2.2.2.2.2.1];have:=HLT.out;omega)
   have HF:=Hj (Aj hr (Aj (H9.out.2.1.trans0 ho) hl2))
   clear hr ho hl2 hl1 hr9
   refine ⟨.agg zc,results_cell_row (p:=6) (ty:=40) (by kernel_rfl) _ _ rb 40 zc (0,0) _ rfl HF.out.2.2 Tryz.underlying40 rfl (by rw [HZ.out];kernel_rfl),?_⟩
   exact ⟨HF.out.2.1,.inr ⟨H9.out.2.2,by rw [HZ.out],HF.out.1⟩⟩
theorem getDiff_any (w:World) (g k:Nat) (xs:List UInt8) (c:Nat) (st0:Option Nat) (h:W.RSt w g k xs c st0) (hxl:xs.length < 1000000) :
  Calls Tryz.prog 93 #[.pointer (some ⟨g,0,none⟩)] w (GetDi g k xs c w (getDi xs st0)):=by
 have hA:=Lies.new w (#[.slice none 0 0,.slice none 0 0,.int .i64 0,.int .i64 0,.slice none 0 0]:Array Value) 40
 have hb:Below w.heap.size w (w.alloc (.cells (#[.slice none 0 0,.slice none 0 0,.int .i64 0,.int .i64 0,.slice none 0 0]:Array Value) 40)):=(Below.refl _ _).alloc (Nat.le_refl _) _
 obtain ⟨res,hres⟩:∃ r,r=getDi xs st0:=⟨_,rfl⟩
 have HLT:=Hj h.lt
 have hC:=getDiffG_any _ g k xs c st0 (h.below hb) hxl
 rw [← hres] at hC ⊢
 have HC:=Hj hC
 clear h hres hC hxl
 go_enter Tryz.func93,Tryz.ntmps93
 go_upto_region 1 with fail
 generalize w.alloc (.cells (#[.slice none 0 0,.slice none 0 0,.int .i64 0,.int .i64 0,.slice none 0 0]:Array Value) 40)=W0 at hA hb HC ⊢
 obtain ⟨r,hr⟩:∃ r,r=w.heap.size:=⟨_,rfl⟩
 rw [← hr] at hA ⊢
 have HB:=Hj (Aj hA (Aj hb hr))
 clear hA hb hr
 go_wp2_with fail
 refine HC.out.mono ?_
 rintro e W1 ⟨ho,hcase⟩
 have hrg:r≠g:=by rw [HB.out.2.2];have:=HLT.out;omega
 have hrk:r≠k:=by rw [HB.out.2.2];have:=HLT.out;omega
 have hl:=ho.lies HB.out.1 hrg
 have ho1:=(W.only_below HB.out.2.1).trans0 ho
 have hrW:=HB.out.1.lt
 have hzz:(#[.slice none 0 0,.slice none 0 0,.int .i64 0,.int .i64 0,.slice none 0 0]:Array Value).size=5:=by kernel_rfl
 have hzo:(#[.slice none 0 0,.slice none 0 0,.int .i64 0,.int .i64 0,.slice none 0 0]:Array Value).all (·.oneCell')=true:=by kernel_rfl
 obtain ⟨cs,st,hsz0,hone,rfl,hrd,hend⟩:∃ (cs:Array Value) (st:Option Nat),cs.size=5∧cs.all (·.oneCell')=true∧e=.returned (.agg cs)∧W.RSt W1 g k xs c st∧((∃ o p,res=some (diV o,p)∧cs=dfC o∧DfIn W1 W0.heap.size o∧rightDB o=true∧st=some p) ∨ (res=none∧cs=(#[.slice none 0 0,.slice none 0 0,.int .i64 0,.int .i64 0,.slice none 0 0]:Array Value)∧st=none)):=by
  rcases hcase with ⟨o,p,h1,h2,h3,h4,h5⟩ | ⟨h1,h2,h3⟩
  ·
   exact ⟨dfC o,some p,rfl,dfG_one o,h2,h5,.inl ⟨o,p,h1,rfl,h3,h4,rfl⟩⟩
  ·
   exact ⟨(#[.slice none 0 0,.slice none 0 0,.int .i64 0,.int .i64 0,.slice none 0 0]:Array Value),none,hzz,hzo,h2,h3,.inr ⟨h1,rfl,rfl⟩⟩
 have HI:=Hj (show (Tryz.prog.info? 40).map (·.size)=some cs.size by rw [hsz0];exact info_diff)
 have hsc:(storeCells ⟨r,0,none⟩ cs.toList 0).run Tryz.prog W1=.ok () (W1.setRow r cs):=by
  have:=run_storeCells_from (P:=Tryz.prog) r 40 cs.toList 0 (#[.slice none 0 0,.slice none 0 0,.int .i64 0,.int .i64 0,.slice none 0 0]:Array Value) W1 hl (by rw [Array.length_toList,hsz0,hzz]) (fun v hv=>(Array.all_eq_true_iff_forall_mem.1 hone) v (by simpa using hv))
  simpa using this
 have hS:=Lies.setRow hl cs
 have hrd9:=rst_row hrd cs hrg hrk
 have hof:=W.only_row ho1 (k:=r) (by rw [HB.out.2.2];exact Nat.le_refl _) cs
 have HF:=Hj (Aj hS (Aj hrd9 (Aj hof (Aj hend hrW))))
 clear hS hrd9 hof hend hone hrd ho ho1 hl hrg hrk HC hzz hzo hrW
 go_wp2_with fail
 refine bodyPost_ret (v:=.agg cs) (results_cell_row (p:=2) (ty:=40) (by kernel_rfl) _ _ r 40 cs (0,0) _ rfl HF.out.1 Tryz.underlying40 rfl HI.out) rfl ?_
 refine ⟨HF.out.2.2.1,?_⟩
 rcases HF.out.2.2.2.1 with ⟨o,p,h1,h2,h3,h4,h5⟩ | ⟨h1,h2,h3⟩
 ·
  refine .inl ⟨o,p,h1,by rw [h2],(h3.row (q:=r) HF.out.2.2.2.2 cs).weak HB.out.2.1.size,h4,?_⟩
  rw [← h5]
  exact HF.out.2.1
 ·
  refine .inr ⟨h1,by rw [h2],?_⟩
  rw [← h3]
  exact HF.out.2.1
end Go.Proofs.YtilbbemdinpjcaaGreat.P
