/-
  pack: the getter's output (the drawn region's ways written by tools/gen_out.py).
-/
import Derived.Test.YtilbbemdinpjcaaGreatJQw
set_option maxHeartbeats 16000000
namespace Go.Proofs.YtilbbemdinpjcaaGreat.P
set_option maxRecDepth 100000
open Go.RowKit Go.Sort
def getRef (xs:List UInt8) (st:Option Nat):Option (Rf × Nat):=match rfE xs st with
 | some p=>if rightRefB (rfV xs st) then some (rfV xs st,p) else none
 | none=>none
def rfZ:Rf:=⟨List.replicate 32 0,0⟩
def GetRf (g k:Nat) (xs:List UInt8) (c:Nat) (w:World) (o:Option (Rf × Nat)) (e:Ending) (w':World):Prop :=
 W.Only g w w' none∧((∃ r p,o=some (r,p)∧e=.returned (.agg (refC r))∧r.tx.length=32∧W.RSt w' g k xs c (some p)) ∨ (o=none∧e=.returned (.agg (refC rfZ))∧W.RSt w' g k xs c none))
theorem exec_loadRow {P:Program} {ρ:Operand→Value} {o:Oper} {w:World} {g:Nat} {cs:Array Value} {ty t:TypeId} {x:Operand} {d:TypeDesc} (ho:o.op=.load ty x) (hx:ρ x=.pointer (some ⟨g,0,none⟩)) (hL:Lies w g cs t) (hu:P.underlying ty=some d) (hd:d.isRow=true) (hi:(P.info? ty).map (·.size)=some cs.size):(execOp ρ o).run P w=.ok (.value (.agg cs)) w:=by
 have hr:w.rangeAt g 0 cs.toList:=fun j v hj=>by
  rw [Array.getElem?_toList] at hj
  rw [Nat.zero_add]
  exact hL.cell j hj
 unfold execOp
 simp only [ho,hx,Instr.loadAt,Instr.sureAddr,Sem.run_bind,Sem.run_pure,Result.andThen_ok,run_loadVar_mid w g 0 ty cs.toList d hr hu hd (by rw [Array.length_toList];exact hi),Array.toArray_toList]
theorem range_lies {w:World} {g:Nat} {cs:Array Value} {t:TypeId} (hL:Lies w g cs t):w.rangeAt g 0 cs.toList:=fun j v hj=>by
 rw [Array.getElem?_toList] at hj
 rw [Nat.zero_add]
 exact hL.cell j hj
theorem getRefD_panicking (p g k:Nat) (xs:List UInt8) (c:Nat) (st:Option Nat) (u:TypeId) (pv:Value) (older:List PanicEntry) (w:World) (hp:w.cell? ⟨p,0,none⟩=some (.pointer (some ⟨g,0,none⟩))) (h:W.RSt w g k xs c st) :
  CallsD Tryz.prog 229 #[.pointer (some ⟨p,0,none⟩)] (.panicking ({ v:=.iface u pv,recovered:=false } :: older)) w fun e u' w' =>
   e=.returned (.tuple #[])∧u'=.panicking ({ v:=.iface u pv,recovered:=true } :: older)∧W.RSt w' g k xs c none∧W.Only g w w' none:=by
 have hs:=rSpoil_any w g k xs c st h
 refine callsD_of_wpS Tryz.func229 rfl fun c₀ cs hu => ?_
 apply wpS_seq
 apply wpS_region
 simp [wpOpsS,go_sem,recoverD,hu,Tryz.ntmps229,Exit.thenS]
 refine wpS_cond (t:=true) (by simp [Act.eval,Array.replicate]) ?_
 simp only [if_true]
 refine wpS_of_wp ?_
 go_wp2_with fail
 refine hs.mono ?_
 rintro e w2 ⟨rfl,hr,ho⟩
 go_wp2_with fail
 simp [bodyPostS,results,Tryz.results229]
 exact ⟨hr,ho⟩
theorem getRefD_idle (p:Addr) (w:World) :
  CallsD Tryz.prog 229 #[.pointer (some p)] .returning w fun e u' w'=>e=.returned (.tuple #[])∧u'=.returning∧w'=w:=by
 refine callsD_of_wpS Tryz.func229 rfl fun c₀ cs hu => ?_
 apply wpS_seq
 apply wpS_region
 simp [wpOpsS,go_sem,recoverD,hu,Tryz.ntmps229,Exit.thenS]
 refine wpS_cond (t:=false) (by simp [Act.eval,Array.replicate]) ?_
 simp only [Bool.false_eq_true,if_false]
 refine wpS_of_wp (wp_skip ?_)
 cases c₀
 simp_all [bodyPostS,results,Tryz.results229]
theorem getRefG_any (w:World) (g k:Nat) (xs:List UInt8) (c:Nat) (st0:Option Nat) (h:W.RSt w g k xs c st0) :
 Calls Tryz.prog 155 #[.pointer (some ⟨g,0,none⟩),.func (Fn.func 156) #[] #[],.func (Fn.func 68) #[] #[]] w (GetRf g k xs c w (getRef xs st0)):=by
 have hmf:∀ (fn:Fn) (first cap:Array Value) (w:World),(Instr.makeFunc fn first cap).run Tryz.prog w=.ok (.func fn first cap) w:=fun _ _ _ _=>rfl
 have hf1:=T.callK 68 Tryz.f68 Tryz.func68 (by kernel_rfl) (by kernel_rfl)
 have hf2:=T.callK 156 Tryz.f156 Tryz.func156 (by kernel_rfl) (by kernel_rfl)
 obtain ⟨b1,b2,b3,b4,b5⟩:=box_three w #[.pointer (some ⟨g,0,none⟩)] (#[.int .u8 0,.int .u8 0,.int .u8 0,.int .u8 0,.int .u8 0,.int .u8 0,.int .u8 0,.int .u8 0,.int .u8 0,.int .u8 0,.int .u8 0,.int .u8 0,.int .u8 0,.int .u8 0,.int .u8 0,.int .u8 0,.int .u8 0,.int .u8 0,.int .u8 0,.int .u8 0,.int .u8 0,.int .u8 0,.int .u8 0,.int .u8 0,.int .u8 0,.int .u8 0,.int .u8 0,.int .u8 0,.int .u8 0,.int .u8 0,.int .u8 0,.int .u8 0,.int .i64 0]:Array Value) #[.pointer (some ⟨g,0,none⟩)] 56 37 174
 obtain ⟨res,hres⟩:∃ r,r=getRef xs st0:=⟨_,rfl⟩
 rw [← hres]
 obtain ⟨st,hst⟩:∃ s,s=rfE xs st0:=⟨_,rfl⟩
 obtain ⟨x,hxx⟩:∃ x,x=rfV xs st0:=⟨_,rfl⟩
 obtain ⟨cs,hcs⟩:∃ cs,cs=refC x:=⟨_,rfl⟩
 have hx32:x.tx.length=32:=by rw [hxx];exact hashV_len xs st0
 have hsz:cs.size=33:=by rw [hcs];exact refC_size x hx32
 have hone:cs.all (·.oneCell')=true:=by rw [hcs,hxx];exact refG_one xs st0
 have HLT:=Hj h.lt
 have hC:=getterRef_any _ g k xs c st0 (h.below b4)
 rw [← hst,← hxx,← hcs] at hC
 have HC:=Hj hC
 have H:=Hj (Aj hres (Aj hst (Aj hxx (Aj hcs (Aj hx32 (Aj hsz hone))))))
 have HI:=Hj (show (Tryz.prog.info? 37).map (·.size)=some cs.size by rw [hsz];exact info_ref)
 clear h hres hst hxx hcs hx32 hsz hone hC
 obtain ⟨zc,hzc⟩:∃ z:Array Value,z=(#[.int .u8 0,.int .u8 0,.int .u8 0,.int .u8 0,.int .u8 0,.int .u8 0,.int .u8 0,.int .u8 0,.int .u8 0,.int .u8 0,.int .u8 0,.int .u8 0,.int .u8 0,.int .u8 0,.int .u8 0,.int .u8 0,.int .u8 0,.int .u8 0,.int .u8 0,.int .u8 0,.int .u8 0,.int .u8 0,.int .u8 0,.int .u8 0,.int .u8 0,.int .u8 0,.int .u8 0,.int .u8 0,.int .u8 0,.int .u8 0,.int .u8 0,.int .u8 0,.int .i64 0]:Array Value):=⟨_,rfl⟩
 have HZ:=Hj hzc
 obtain ⟨W0,HW⟩:∃ W0,(((w.alloc (.cells #[.pointer (some ⟨g,0,none⟩)] 56)).alloc (.cells (#[.int .u8 0,.int .u8 0,.int .u8 0,.int .u8 0,.int .u8 0,.int .u8 0,.int .u8 0,.int .u8 0,.int .u8 0,.int .u8 0,.int .u8 0,.int .u8 0,.int .u8 0,.int .u8 0,.int .u8 0,.int .u8 0,.int .u8 0,.int .u8 0,.int .u8 0,.int .u8 0,.int .u8 0,.int .u8 0,.int .u8 0,.int .u8 0,.int .u8 0,.int .u8 0,.int .u8 0,.int .u8 0,.int .u8 0,.int .u8 0,.int .u8 0,.int .u8 0,.int .i64 0]:Array Value) 37)).alloc (.cells #[.pointer (some ⟨g,0,none⟩)] 174))=W0:=⟨_,rfl⟩
 rw [HW] at b1 b2 b3 b4 b5 HC
 rw [← hzc] at b2
 clear hzc
 go_enter_defers Tryz.func155,Tryz.ntmps155
 have c2:W0.cell? ⟨w.heap.size+1+1,0,none⟩=some (.pointer (some ⟨g,0,none⟩)):=b3.cell 0 rfl
 have HB:=Hj (Aj b1 (Aj b2 (Aj b3 (Aj b4 b5))))
 clear b1 b2 b3 b4 b5
 go_wp2_with fail
 clear HW
 refine HC.out.mono ?_
 rintro e W1 ⟨rfl,hrd,ho1⟩
 have hl1:=ho1.lies HB.out.1 (by have:=HLT.out;omega)
 have hl2:=ho1.lies HB.out.2.1 (by have:=HLT.out;omega)
 have hl3:=ho1.lies HB.out.2.2.1 (by have:=HLT.out;omega)
 have hw1:W.Only g w W1 none:=(W.only_below HB.out.2.2.2.1).trans0 ho1
 have hb2:Below W1.heap.size W1 (W1.alloc (.cells cs 37)):=(Below.refl _ _).alloc (Nat.le_refl _) _
 have hx2:=Lies.new W1 cs 37
 have hsz0:cs.size=33:=H.out.2.2.2.2.2.1
 have hsc:(storeCells ⟨W1.heap.size,0,none⟩ cs.toList 0).run Tryz.prog (W1.alloc (.cells (#[.int .u8 0,.int .u8 0,.int .u8 0,.int .u8 0,.int .u8 0,.int .u8 0,.int .u8 0,.int .u8 0,.int .u8 0,.int .u8 0,.int .u8 0,.int .u8 0,.int .u8 0,.int .u8 0,.int .u8 0,.int .u8 0,.int .u8 0,.int .u8 0,.int .u8 0,.int .u8 0,.int .u8 0,.int .u8 0,.int .u8 0,.int .u8 0,.int .u8 0,.int .u8 0,.int .u8 0,.int .u8 0,.int .u8 0,.int .u8 0,.int .u8 0,.int .u8 0,.int .i64 0]:Array Value) 37))=.ok () (W1.alloc (.cells cs 37)):=run_storeCells_new W1 37 (#[.int .u8 0,.int .u8 0,.int .u8 0,.int .u8 0,.int .u8 0,.int .u8 0,.int .u8 0,.int .u8 0,.int .u8 0,.int .u8 0,.int .u8 0,.int .u8 0,.int .u8 0,.int .u8 0,.int .u8 0,.int .u8 0,.int .u8 0,.int .u8 0,.int .u8 0,.int .u8 0,.int .u8 0,.int .u8 0,.int .u8 0,.int .u8 0,.int .u8 0,.int .u8 0,.int .u8 0,.int .u8 0,.int .u8 0,.int .u8 0,.int .u8 0,.int .u8 0,.int .i64 0]:Array Value) cs HI.out (by rw [hsz0];rfl) H.out.2.2.2.2.2.2
 obtain ⟨W2,HW2⟩:∃ W2,W1.alloc (.cells cs 37)=W2:=⟨_,rfl⟩
 rw [HW2] at hb2 hx2 hsc
 have hw2:W.Only g w W2 none:=hw1.trans0 (W.only_below hb2)
 have hm1:=hl1.below hb2 hl1.lt
 have hm2:=hl2.below hb2 hl2.lt
 have hm3:=hl3.below hb2 hl3.lt
 have hrd2:=hrd.below hb2
 obtain ⟨y1,hy1⟩:∃ b,b=st.isSome:=⟨_,rfl⟩
 obtain ⟨y2,hy2⟩:∃ b,b=rightRefB x:=⟨_,rfl⟩
 obtain ⟨q,hq⟩:∃ q,q=W1.heap.size:=⟨_,rfl⟩
 obtain ⟨sb,hsb⟩:∃ p,p=w.heap.size+1+1:=⟨_,rfl⟩
 obtain ⟨rb,hrb⟩:∃ p,p=w.heap.size+1:=⟨_,rfl⟩
 have hm3:Lies W2 sb #[.pointer (some ⟨g,0,none⟩)] 174:=by rw [hsb];exact hm3
 rw [← hrb] at hm2
 rw [← hq] at hx2
 have K1:Hid (∀ V,Below W2.heap.size W2 V→Calls Tryz.prog 198 #[.agg #[.pointer (some ⟨g,0,none⟩)]] V fun e w'=>e=.returned (.bool y1)∧Below V.heap.size V w'):=Hj fun V hV=>by rw [hy1];exact sound_any V g k xs c st (hrd2.below hV)
 have K2:Hid (∀ V,Calls Tryz.prog 68 #[.agg cs] V fun e w'=>e=.returned (.bool y2)∧Below V.heap.size V w'):=Hj fun V=>by rw [hy2,H.out.2.2.2.1];exact rightRef_any V x H.out.2.2.2.2.1
 have HS:Hid (∀ V,Below W2.heap.size W2 V→V.cell? ⟨sb,0,none⟩=some (.pointer (some ⟨g,0,none⟩))∧Lies V q cs 37):=Hj fun V hV=>⟨(hm3.below hV hm3.lt).cell 0 rfl,hx2.below hV hx2.lt⟩
 have HR:=Hj (Aj hm1 (Aj hm2 (Aj hrd2 (Aj hw2 (Aj hy1 (Aj hy2 (Aj hrb hb2)))))))
 clear hl1 hl2 hl3 hw1 ho1 c2 HC hb2 hx2 hrd hw2 hm1 hm2 hm3 hrd2 hy1 hy2
 go_upto_region 4 with fail
 rw [← hq,← hsb,← hrb]
 clear HW2 hq hsb hrb hsc hsz0
 have hres2:=res_put (fn:=Tryz.f155) (a:=6) (ty:=37) (by kernel_rfl)
 refine wp_region_held (S:=Below W2.heap.size W2) (by kernel_rfl) ?_
 change wpAnyH _ _ _ _ _ 7 _ _ (World.drew W2)
 have hcur:Below W2.heap.size W2 W2.drew:=(Below.refl _ _).drew
 refine tk 0 (.agg #[.pointer (some ⟨g,0,none⟩)]) 15 rfl rfl hcur ?_ (by intro w' hS';have x0:=(HS.out w' hS').1;unfold execOp;simp [go_sem,x0]) (hQ:=held_put (hres2 15 _ (by decide)))
 refine tk 2 (.func (Fn.func 68) #[] #[]) 17 rfl rfl hcur ?_ (hQ:=held_put (hres2 17 _ (by decide)))
 refine tk 3 (.agg cs) 18 rfl rfl hcur ?_ (by intro w' hS';exact exec_loadRow rfl rfl (HS.out w' hS').2 Tryz.underlying37 rfl HI.out) (hQ:=held_put (hres2 18 _ (by decide)))
 generalize W2.drew=V0 at hcur ⊢
 refine held_one (i:=1) (by kernel_rfl) _ rfl (wpOp_callG rfl (by rfl) 16 rfl 198 #[.agg #[.pointer (some ⟨g,0,none⟩)]] (by unfold execOp;simp [go_sem]) _ (ret_gro (K1.out _ hcur)) ?_)
 rintro _ U1 ⟨rfl,hn⟩
 have hcur:=hcur.trans (hn.mono hcur.size)
 clear hn
 refine ⟨hcur,?_⟩
 simp only [Sj]
 refine held_one (i:=4) (by kernel_rfl) _ rfl (wpOp_callG rfl (by rfl) 19 rfl 68 #[.agg cs] (by unfold execOp;simp [go_sem,hf1]) _ (ret_gro (K2.out _)) ?_)
 rintro _ U2 ⟨rfl,hn⟩
 have hcur:=hcur.trans (hn.mono hcur.size)
 clear hn
 refine ⟨hcur,?_⟩
 simp only [Sj]
 refine held_one (i:=5) (by kernel_rfl) _ rfl (wpOp_valG rfl (by rfl) 20 rfl (v:=.slice (some ⟨U2.heap.size,0,none⟩) 2 2) (w':=U2.alloc (.cells #[.bool y1,.bool y2] 4)) (by unfold execOp;simp [go_sem]) ⟨hcur.alloc hcur.size _,?_⟩)
 simp only [Sj]
 refine held_one (i:=6) (by kernel_rfl) _ rfl (wpOp_callP rfl (by rfl) 21 rfl 62 #[.slice (some ⟨U2.heap.size,0,none⟩) 2 2] (by unfold execOp;simp [go_sem]) _ _ (must_forms (must2 U2 y1 y2)) ?_ ?_)
 · rintro _ U9 ⟨rfl,hy,hn⟩
   have hb9:Below W2.heap.size W2 U9:=hcur.trans (hn.mono hcur.size)
   refine ⟨hb9,?_⟩
   simp only [Sj]
   refine held_done (by kernel_rfl) ?_
   have hl2:=HR.out.2.1.below hb9 HR.out.2.1.lt
   have hLq:=(HS.out U9 hb9).2
   have hsz0:cs.size=33:=H.out.2.2.2.2.2.1
   have hsc:(storeCells ⟨rb,0,none⟩ cs.toList 0).run Tryz.prog U9=.ok () (U9.setRow rb cs):=by
    have:=run_storeCells_from (P:=Tryz.prog) rb 37 cs.toList 0 zc U9 hl2 (by rw [Array.length_toList,hsz0,HZ.out];rfl) (fun v hv=>(Array.all_eq_true_iff_forall_mem.1 H.out.2.2.2.2.2.2) v (by simpa using hv))
    simpa using this
   have HL:=Hj (Aj hLq (range_lies hLq))
   have HLL:=Hj (show (Tryz.prog.info? 37).map (·.size)=some cs.toList.length by rw [Array.length_toList];exact HI.out)
   have H9:=Hj (Aj hb9 (Aj hy hl2))
   clear hcur hn hb9 hy hl2 hLq
   go_wp2_with (first
    | (at_builtin;fail)
    | (refine wpList_load_mid rfl 37 _ rfl q 0 rfl cs.toList _ HL.out.2 Tryz.underlying37 rfl HLL.out ?_))
   have hrg:rb≠g:=by rw [HR.out.2.2.2.2.2.2.1];have:=HLT.out;omega
   have hrk:rb≠k:=by rw [HR.out.2.2.2.2.2.2.1];have:=HLT.out;omega
   have hS:=Lies.setRow H9.out.2.2 cs
   have hrd9:=rst_row (HR.out.2.2.1.below H9.out.1) cs hrg hrk
   have hof:=W.only_row (HR.out.2.2.2.1.trans0 (W.only_below H9.out.1)) (k:=rb) (by rw [HR.out.2.2.2.2.2.2.1];omega) cs
   have HF:=Hj (Aj hS (Aj hrd9 hof))
   clear hS hrg hrk hrd9 hof hsz0 hsc HL HLL
   generalize U9.setRow rb cs=W9 at HF ⊢
   refine leaves_cons (f:=229) (args:=#[.pointer (some ⟨w.heap.size,0,none⟩)]) (by simp) (by simp [go_sem]) ?_
   refine (getRefD_idle ⟨w.heap.size,0,none⟩ _).mono ?_
   rintro e u' w'' ⟨rfl,rfl,hw⟩
   subst hw
   refine ⟨.agg cs,results_cell_row (p:=6) (ty:=37) (by kernel_rfl) _ _ rb 37 cs (0,0) _ rfl HF.out.1 Tryz.underlying37 rfl HI.out,?_⟩
   have hyy:=H9.out.2.1
   rw [Bool.and_eq_true] at hyy
   have e1:st.isSome=true:=by rw [← HR.out.2.2.2.2.1];exact hyy.1
   have e2:rightRefB x=true:=by rw [← HR.out.2.2.2.2.2.1];exact hyy.2
   have hd:=H.out.2.1
   have hrd9:=HF.out.2.1
   cases st with
   | none=>cases e1
   | some p =>
     refine ⟨HF.out.2.2,.inl ⟨x,p,?_,by rw [← H.out.2.2.2.1],H.out.2.2.2.2.1,hrd9⟩⟩
     rw [H.out.1]
     unfold getRef
     rw [← hd,← H.out.2.2.1]
     show (if rightRefB x=true then some (x,p) else none)=some (x,p)
     rw [if_pos e2]
 · rintro ch U9 ⟨hy,hf,hn⟩
   have hb9:Below W2.heap.size W2 U9:=hcur.trans (hn.mono hcur.size)
   obtain ⟨m,hm⟩:=hf
   obtain rfl:=Ending.panicked.inj hm
   have hno:res=none:=by
    have hd:=H.out.2.1
    rw [H.out.1]
    unfold getRef
    rw [← hd,← H.out.2.2.1]
    cases st with
    | none=>rfl
    | some p =>
      show (if rightRefB x=true then some (x,p) else none)=none
      rw [if_neg]
      intro e
      rw [HR.out.2.2.2.2.1,HR.out.2.2.2.2.2.1,e] at hy
      cases hy
   have hl1:=HR.out.1.below hb9 HR.out.1.lt
   have hl2:=HR.out.2.1.below hb9 HR.out.2.1.lt
   have hr9:=HR.out.2.2.1.below hb9
   have ho9:=HR.out.2.2.2.1.trans0 (W.only_below hb9)
   have H9:=Hj (Aj hl2 (Aj ho9 hno))
   clear hcur hn hb9 hl2 ho9 hno hy hm
   show bodyPostD _ _ _ (Exit.panic _) _ _
   refine leaves_cons (f:=229) (args:=#[.pointer (some ⟨w.heap.size,0,none⟩)]) (by simp) (by simp [go_sem]) ?_
   refine (getRefD_panicking w.heap.size g k xs c st 64 _ [] _ (hl1.cell 0 rfl) hr9).mono ?_
   rintro e u' w'' ⟨rfl,rfl,hr,ho⟩
   have hl2:=ho.lies H9.out.1 (by rw [HR.out.2.2.2.2.2.2.1];have:=HLT.out;omega)
   have HF:=Hj (Aj hr (Aj (H9.out.2.1.trans0 ho) hl2))
   clear hr ho hl2 hl1 hr9
   refine ⟨.agg zc,results_cell_row (p:=6) (ty:=37) (by kernel_rfl) _ _ rb 37 zc (0,0) _ rfl HF.out.2.2 Tryz.underlying37 rfl (by rw [HZ.out];kernel_rfl),?_⟩
   exact ⟨HF.out.2.1,.inr ⟨H9.out.2.2,by rw [HZ.out];rfl,HF.out.1⟩⟩
theorem getRef_any (w:World) (g k:Nat) (xs:List UInt8) (c:Nat) (st0:Option Nat) (h:W.RSt w g k xs c st0) :
  Calls Tryz.prog 91 #[.pointer (some ⟨g,0,none⟩)] w (GetRf g k xs c w (getRef xs st0)):=by
 have hA:=Lies.new w (#[.int .u8 0,.int .u8 0,.int .u8 0,.int .u8 0,.int .u8 0,.int .u8 0,.int .u8 0,.int .u8 0,.int .u8 0,.int .u8 0,.int .u8 0,.int .u8 0,.int .u8 0,.int .u8 0,.int .u8 0,.int .u8 0,.int .u8 0,.int .u8 0,.int .u8 0,.int .u8 0,.int .u8 0,.int .u8 0,.int .u8 0,.int .u8 0,.int .u8 0,.int .u8 0,.int .u8 0,.int .u8 0,.int .u8 0,.int .u8 0,.int .u8 0,.int .u8 0,.int .i64 0]:Array Value) 37
 have hb:Below w.heap.size w (w.alloc (.cells (#[.int .u8 0,.int .u8 0,.int .u8 0,.int .u8 0,.int .u8 0,.int .u8 0,.int .u8 0,.int .u8 0,.int .u8 0,.int .u8 0,.int .u8 0,.int .u8 0,.int .u8 0,.int .u8 0,.int .u8 0,.int .u8 0,.int .u8 0,.int .u8 0,.int .u8 0,.int .u8 0,.int .u8 0,.int .u8 0,.int .u8 0,.int .u8 0,.int .u8 0,.int .u8 0,.int .u8 0,.int .u8 0,.int .u8 0,.int .u8 0,.int .u8 0,.int .u8 0,.int .i64 0]:Array Value) 37)):=(Below.refl _ _).alloc (Nat.le_refl _) _
 obtain ⟨res,hres⟩:∃ r,r=getRef xs st0:=⟨_,rfl⟩
 have HLT:=Hj h.lt
 have hC:=getRefG_any _ g k xs c st0 (h.below hb)
 rw [← hres] at hC ⊢
 have HC:=Hj hC
 clear h hres hC
 go_enter Tryz.func91,Tryz.ntmps91
 go_upto_region 1 with fail
 generalize w.alloc (.cells (#[.int .u8 0,.int .u8 0,.int .u8 0,.int .u8 0,.int .u8 0,.int .u8 0,.int .u8 0,.int .u8 0,.int .u8 0,.int .u8 0,.int .u8 0,.int .u8 0,.int .u8 0,.int .u8 0,.int .u8 0,.int .u8 0,.int .u8 0,.int .u8 0,.int .u8 0,.int .u8 0,.int .u8 0,.int .u8 0,.int .u8 0,.int .u8 0,.int .u8 0,.int .u8 0,.int .u8 0,.int .u8 0,.int .u8 0,.int .u8 0,.int .u8 0,.int .u8 0,.int .i64 0]:Array Value) 37)=W0 at hA hb HC ⊢
 obtain ⟨zc,hzc⟩:∃ z:Array Value,z=(#[.int .u8 0,.int .u8 0,.int .u8 0,.int .u8 0,.int .u8 0,.int .u8 0,.int .u8 0,.int .u8 0,.int .u8 0,.int .u8 0,.int .u8 0,.int .u8 0,.int .u8 0,.int .u8 0,.int .u8 0,.int .u8 0,.int .u8 0,.int .u8 0,.int .u8 0,.int .u8 0,.int .u8 0,.int .u8 0,.int .u8 0,.int .u8 0,.int .u8 0,.int .u8 0,.int .u8 0,.int .u8 0,.int .u8 0,.int .u8 0,.int .u8 0,.int .u8 0,.int .i64 0]:Array Value):=⟨_,rfl⟩
 have HZ:=Hj hzc
 rw [← hzc] at hA
 clear hzc
 obtain ⟨r,hr⟩:∃ r,r=w.heap.size:=⟨_,rfl⟩
 rw [← hr] at hA ⊢
 have HB:=Hj (Aj hA (Aj hb hr))
 clear hA hb hr
 go_wp2_with fail
 refine HC.out.mono ?_
 rintro e W1 ⟨ho,hcase⟩
 have hrg:r≠g:=by rw [HB.out.2.2];have:=HLT.out;omega
 have hrk:r≠k:=by rw [HB.out.2.2];have:=HLT.out;omega
 have hl:=ho.lies HB.out.1 hrg
 have ho1:=(W.only_below HB.out.2.1).trans0 ho
 obtain ⟨x,st,hx32,hcase⟩:∃ (x:Rf) (st:Option Nat),x.tx.length=32∧e=.returned (.agg (refC x))∧W.RSt W1 g k xs c st∧((∃ p,res=some (x,p)∧st=some p) ∨ (res=none∧x=rfZ∧st=none)):=by
  rcases hcase with ⟨x,p,h1,h2,h3,h4⟩ | ⟨h1,h2,h3⟩
  ·
   exact ⟨x,some p,h3,h2,h4,.inl ⟨p,h1,rfl⟩⟩
  ·
   exact ⟨rfZ,none,rfl,h2,h3,.inr ⟨h1,rfl,rfl⟩⟩
 obtain ⟨rfl,hrd,hend⟩:=hcase
 obtain ⟨cs,hcs⟩:∃ cs,cs=refC x:=⟨_,rfl⟩
 have hsz0:cs.size=33:=by rw [hcs];exact refC_size x hx32
 have hone:cs.all (·.oneCell')=true:=by
  rw [hcs]
  unfold refC
  rw [Array.all_append,B8_one]
  simp [Value.oneCell']
 have HI:=Hj (show (Tryz.prog.info? 37).map (·.size)=some cs.size by rw [hsz0];exact info_ref)
 have hsc:(storeCells ⟨r,0,none⟩ cs.toList 0).run Tryz.prog W1=.ok () (W1.setRow r cs):=by
  have:=run_storeCells_from (P:=Tryz.prog) r 37 cs.toList 0 zc W1 hl (by rw [Array.length_toList,hsz0,HZ.out];rfl) (fun v hv=>(Array.all_eq_true_iff_forall_mem.1 hone) v (by simpa using hv))
  simpa using this
 have hS:=Lies.setRow hl cs
 have hrd9:=rst_row hrd cs hrg hrk
 have hof:=W.only_row ho1 (k:=r) (by rw [HB.out.2.2];exact Nat.le_refl _) cs
 have HF:=Hj (Aj hS (Aj hrd9 (Aj hof (Aj hend (Aj hcs hx32)))))
 rw [← hcs]
 clear hS hrd9 hof hend hcs hx32 hone hrd ho ho1 hl hrg hrk HC
 go_wp2_with fail
 refine bodyPost_ret (v:=.agg cs) (results_cell_row (p:=2) (ty:=37) (by kernel_rfl) _ _ r 37 cs (0,0) _ rfl HF.out.1 Tryz.underlying37 rfl HI.out) rfl ?_
 refine ⟨HF.out.2.2.1,?_⟩
 rcases HF.out.2.2.2.1 with ⟨p,h1,h2⟩ | ⟨h1,h2,h3⟩
 ·
  refine .inl ⟨x,p,h1,by rw [← HF.out.2.2.2.2.1],HF.out.2.2.2.2.2,?_⟩
  rw [← h2]
  exact HF.out.2.1
 ·
  refine .inr ⟨h1,by rw [HF.out.2.2.2.2.1,h2],?_⟩
  rw [← h3]
  exact HF.out.2.1
end Go.Proofs.YtilbbemdinpjcaaGreat.P
namespace Go.Proofs.YtilbbemdinpjcaaGreat.P
set_option maxRecDepth 100000
open Go.RowKit Go.Sort
theorem held_two {P:Program} {ops:Array Oper} {Q:Exit→Act→World→Prop} {md:Region.Mode} {S:World→Prop} {i j:Nat} {fuel:Nat} {listed:Array Bool} {a:Act} {w:World} (hr:Region.ready md ops listed=[i,j]) (l1 l2:Array Bool) (h1:listed.setIfInBounds i true=l1) (h2:listed.setIfInBounds j true=l2)
  (hi:wpOp P ops Q i (fun a' w'=>S w'∧wpAnyH P md ops Q S fuel l1 a' w') a w) (hj:wpOp P ops Q j (fun a' w'=>S w'∧wpAnyH P md ops Q S fuel l2 a' w') a w):wpAnyH P md ops Q S (fuel+1) listed a w:=by
 subst h1 h2
 refine wpAnyH_all hr (by simp) ?_
 intro n hn
 rcases (by simpa using hn:n=i ∨ n=j) with rfl | rfl
 ·
  exact hi
 ·
  exact hj
theorem alloc_outG (w:World):(Instr.alloc 35 true (.tuple #[])).run Tryz.prog w=.ok (.pointer (some ⟨w.heap.size,0,none⟩)) (w.alloc (.cells Tryz.zeroCells35 35)):=by kernel_rfl
theorem exec_allocO {ρ:Operand→Value} {o:Oper} {w:World} (ho:o.op=.alloc 35):(execOp ρ o).run Tryz.prog w=.ok (.value (.pointer (some ⟨w.heap.size,0,none⟩))) (w.alloc (.cells Tryz.zeroCells35 35)):=by
 unfold execOp
 simp only [ho,Sem.run_bind,alloc_outG,Result.andThen_ok]
 rfl
theorem built_outG (b:Bool) (p:List UInt8) (hp:p.length=32) (x:Int) (a:Option Addr) (l:List As) (cp:Nat) (kd:Int):Tryz.prog.built 35 [(0,.agg (adC b p)),(1,.agg #[.int .i64 x,.slice a l.length cp]),(2,.int .i64 kd)]=some (otC ⟨b,p,⟨x,a,l,cp⟩,kd,List.replicate 32 0,none,[],0⟩):=by
 unfold otC
 generalize l.length=n
 obtain ⟨a0,a1,a2,a3,a4,a5,a6,a7,a8,a9,a10,a11,a12,a13,a14,a15,a16,a17,a18,a19,a20,a21,a22,a23,a24,a25,a26,a27,a28,a29,a30,a31,rfl⟩:=list32 p hp
 kernel_rfl
theorem valG_forms {f:FuncId} {args:Array Value} {V w:World} {g k:Nat} {xs:List UInt8} {c:Nat} {o:Option ((Int × List As) × Option Nat)} (h:Calls Tryz.prog f args V (ValG g k xs c w o)) :
  Calls Tryz.prog f args V fun e w'=>(∃ v,e=.returned v∧(W.Only g w w' none∧∃ x l a n cp st,v=.agg #[.int .i64 x,.slice a n cp]∧OwnAs w' w.heap.size (.slice a n cp) l∧W.RSt w' g k xs c st∧o=some ((x,l),st))) ∨ (∃ ch,e=.panicked ch∧(W.Only g w w' none∧Fault (.panicked ch)∧o=none∧∃ st,W.RSt w' g k xs c st)) :=
 h.mono fun e w' hr=>by
  rcases hr with ⟨h1,⟨x,l,a,n,cp,st,rfl,h2,h3,h4⟩ | ⟨⟨n,rfl⟩,h2,h3⟩⟩
  ·
   exact .inl ⟨_,rfl,h1,x,l,a,n,cp,st,rfl,h2,h3,h4⟩
  ·
   exact .inr ⟨_,rfl,h1,⟨n,rfl⟩,h2,h3⟩
structure OS (W0 U:World) (g k:Nat) (xs:List UInt8) (c p:Nat) (st:Option Nat):Prop where
 cur:U.cell? ⟨p,0,none⟩=some (.pointer (some ⟨g,0,none⟩))
 rd:W.RSt U g k xs c st
 on:W.Only g W0 U none
structure OA (W0 U:World) (b:Nat):Prop where
 z:Lies U b Tryz.zeroCells35 35
 ge:W0.heap.size≤b
theorem OS.step {W0 U V:World} {g k:Nat} {xs:List UInt8} {c p:Nat} {st st':Option Nat} (h:OS W0 U g k xs c p st) (hp:p < W0.heap.size) (hpg:p≠g) (ho:W.Only g U V none) (hr:W.RSt V g k xs c st'):OS W0 V g k xs c p st' :=
 ⟨(onlyCell ho (Nat.lt_of_lt_of_le hp h.on.size) hpg).trans h.cur,hr,h.on.trans0 ho⟩
theorem OA.step {W0 U V:World} {g b:Nat} (h:OA W0 U b) (hg:g < W0.heap.size) (ho:W.Only g U V none):OA W0 V b:=⟨ho.lies h.z (by have:=h.ge;omega),h.ge⟩
theorem OS.alloc {W0 U:World} {g k:Nat} {xs:List UInt8} {c p:Nat} {st:Option Nat} (h:OS W0 U g k xs c p st) (hp:p < W0.heap.size) (hpg:p≠g) (o:Obj):OS W0 (U.alloc o) g k xs c p st:=by
 have hb:Below U.heap.size U (U.alloc o):=(Below.refl _ _).alloc (Nat.le_refl _) _
 exact h.step hp hpg (W.only_below hb) (h.rd.below hb)
structure RowFar (W0 U:World) (b:Nat) (a:Option Addr) (n cp:Nat) (l:List As):Prop where
 own:OwnAs U W0.heap.size (.slice a n cp) l
 far:∀ j,(Value.slice a n cp).ownBlock=some j→j≠b
theorem otG_size (o:Ot) (h1:o.ah.length=32) (h2:o.dh.length=32):(Tryz.zeroCells35).size=(otC o).size:=by
 rw [otC_size o h1 h2]
 kernel_rfl
theorem otG_info (o:Ot) (h1:o.ah.length=32) (h2:o.dh.length=32):(Tryz.prog.info? 35).map (·.size)=some (otC o).size:=by
 rw [otC_size o h1 h2]
 exact info_output
theorem otG_one (o:Ot):(otC o).all (·.oneCell')=true:=by
 unfold otC
 simp only [Array.all_append,B8_one]
 simp [Value.oneCell']
end Go.Proofs.YtilbbemdinpjcaaGreat.P
