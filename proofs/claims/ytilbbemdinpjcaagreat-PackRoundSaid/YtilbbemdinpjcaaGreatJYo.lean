/-
  pack: how much a reader has gone on behind a thing; a got thing, put again, by its sort. Plain mathematics.
-/
import Derived.Test.YtilbbemdinpjcaaGreatJYn
set_option maxHeartbeats 16000000
namespace Go.Proofs.YtilbbemdinpjcaaGreat.P
set_option maxRecDepth 100000
open Go.RowKit Go.Sort
def zV:ThV:=thV thZ
def getTh (xs:List UInt8) (st:Option Nat):Nat→Option (ThV × Nat)
 | 0=>(getT xs st).map fun y=>({ zV with ns:=y.1 },y.2)
 | 1=>(getR mintB (assetsD xs st)).map fun y=>({ zV with l:=y.1 },y.2)
 | 2=>(getVal xs st).map fun y=>({ zV with coin:=y.1.1,vl:=y.1.2 },y.2)
 | 3=>(getR (wellT nzT) (totalsD xs st)).map fun y=>({ zV with t:=y.1 },y.2)
 | 4=>(getOut xs st).map fun y=>({ zV with o:=y.1 },y.2)
 | 5=>(getRef xs st).map fun y=>({ zV with r:=y.1 },y.2)
 | 6=>(getEs xs st).map fun y=>({ zV with es:=y.1 },y.2)
 | _=>(getDi xs st).map fun y=>({ zV with d:=y.1 },y.2)
def Got (o:Option (ThV × Nat)) (x:Th) (st:Option Nat):Prop:=(∃ p,o=some (thV x,p)∧st=some p) ∨ (o=none∧x=thZ∧st=none)
def GetTh (g k:Nat) (xs:List UInt8) (c:Nat) (w:World) (o:Option (ThV × Nat)) (e:Ending) (w':World):Prop :=
 W.Only g w w' none∧∃ x st,e=.returned (.agg (thC x))∧ThIn w' w.heap.size x∧W.RSt w' g k xs c st∧Got o x st
theorem getR_row {α:Type} {ok:List α→Bool} {d:Option (List α × Option Nat)} {l:List α} {p:Nat} (h:getR ok d=some (l,p)):d=some (l,some p):=by
 unfold getR at h
 split at h
 ·
  split at h
  ·
   cases h;rfl
  ·
   cases h
 ·
  cases h
theorem getVal_in {xs:List UInt8} {st:Option Nat} {y:Int} {l:List As} {p:Nat} (h:getVal xs st=some ((y,l),p)):l.length≤maxLen∧(∀ a,a ∈ l→AsOk a)∧I64 y:=by
 unfold getVal at h
 split at h
 · rename_i x l2 p2 hd
   split at h
   · have e:=Option.some.inj h
     have e1:x=y:=congrArg (fun z=>z.1.1) e
     have e2:l2=l:=congrArg (fun z=>z.1.2) e
     subst e1 e2
     refine ⟨(valD_ok hd).1,(valD_ok hd).2,?_⟩
     unfold valD at hd
     cases ha:assetsD xs (W.numS xs st 8) with
     | none=>rw [ha] at hd;cases hd
     | some z =>
       rw [ha] at hd
       have e3:IntKind.i64.wrap (W.numV xs st 8)=x:=congrArg (fun z=>z.1.1) (Option.some.inj hd)
       rw [← e3]
       unfold I64
       rw [IntKind.wrap_i64]
       omega
   · cases h
 · cases h
theorem getRef_in {xs:List UInt8} {st:Option Nat} {r:Rf} {p:Nat} (h:getRef xs st=some (r,p)):RfOk r:=by
 unfold getRef at h
 split at h
 ·
  split at h
  ·
   have e1:rfV xs st=r:=congrArg Prod.fst (Option.some.inj h)
   rw [← e1]
   have:=countV_lt xs (W.numS xs st 32)
   exact ⟨hashV_len xs st,by simp only [rfV];omega,by simp only [rfV];omega⟩
  ·
   cases h
 ·
  cases h
def ThSep (w W0:World) (g k r q:Nat):Prop:=Lies W0 r Tryz.zeroCells42 42∧Lies W0 q Tryz.zeroCells42 42∧Below w.heap.size w W0∧r=w.heap.size∧q=w.heap.size+1∧r≠g∧q≠g∧q≠k∧r≠k
theorem th_sep {w W0:World} {g k r q:Nat} (h:g < w.heap.size∧k < w.heap.size∧k≠g) (b1:Lies W0 r Tryz.zeroCells42 42) (b2:Lies W0 q Tryz.zeroCells42 42) (b3:Below w.heap.size w W0) (hr:r=w.heap.size) (hq:q=w.heap.size+1):ThSep w W0 g k r q:=⟨b1,b2,b3,hr,hq,by omega,by omega,by omega,by omega⟩
theorem box_th (w:World):∃ W0,(w.alloc (.cells Tryz.zeroCells42 42)).alloc (.cells Tryz.zeroCells42 42)=W0∧Lies W0 w.heap.size Tryz.zeroCells42 42∧Lies W0 (w.heap.size+1) Tryz.zeroCells42 42∧Below w.heap.size w W0:=by
 obtain ⟨b1,b2,b3,_⟩:=box_two w Tryz.zeroCells42 Tryz.zeroCells42 42 42
 exact ⟨_,rfl,b1,b2,b3⟩
theorem get_tail {w W0 W1 W2:World} {g k r q:Nat} {xs:List UInt8} {c:Nat} {x:Th} {st:Option Nat} {res:Option (ThV × Nat)} (HB:ThSep w W0 g k r q) (ho:W.Only g W0 W1 none) (hp1:Lies W2 q (thC x) 42) (hp2:W.Only q W1 W2 none) (hin:ThIn W1 W0.heap.size x) (hr:W.RSt W1 g k xs c st) (hgot:Got res x st) (hLr:Lies W1 r Tryz.zeroCells42 42) :
  ∃ tc:Array Value,tc.size=113∧(storeCells ⟨r,0,none⟩ tc.toList 0).run Tryz.prog W2=.ok () (W2.setRow r tc)∧Hid (Lies W2 q tc 42∧(Tryz.prog.info? 42).map (·.size)=some tc.size)∧Hid (Lies (W2.setRow r tc) r tc 42∧GetTh g k xs c w res (.returned (.agg tc)) (W2.setRow r tc)):=by
 obtain ⟨hb1,hb2,hb3,er,eq,hrg,hqg,hqk,hrk⟩:=HB
 have htz:(thC x).size=113:=thC_size x hin.o.1 hin.o.2.1 hin.r.1
 have hLr2:=hp2.lies hLr (by omega)
 have hr2:=hr.only hp2 (fun e=>hqg e.symm) (fun e=>hqk e.symm)
 have ho2:=((W.only_below hb3).trans0 ho).trans0N hp2 (by omega)
 have hin2:=hin.only hp2 hb2.lt
 refine ⟨thC x,htz,?_,Hj ⟨hp1,by rw [htz];exact info_thing⟩,Hj ⟨hLr2.setRow _,ho2.trans0N (only_rowsG r W2 (thC x)) (by omega),x,st,rfl,(hin2.row hb1.lt (thC x)).weak hb3.size,hr2.only (only_rowsG r W2 (thC x)) (fun e=>hrg e.symm) (fun e=>hrk e.symm),hgot⟩⟩
 have:=run_storeCells_from (P:=Tryz.prog) r 42 (thC x).toList 0 Tryz.zeroCells42 W2 hLr2 (by rw [Array.length_toList,htz];kernel_rfl) (fun v hv=>(Array.all_eq_true_iff_forall_mem.1 (thC_one x)) v (by simpa using hv))
 simpa using this
theorem part0 {w w':World} {g k:Nat} {xs:List UInt8} {c:Nat} {st0:Option Nat} {e:Ending} (h:GetT g k xs c w (getT xs st0) e w'):∃ a n cp x st,e=.returned (.agg #[.slice a n cp])∧thL x=[] ++ [.slice a n cp] ++ (.slice none 0 0 :: .int .i64 0 :: .slice none 0 0 :: .slice none 0 0 :: ((otC otZ).toList ++ ((refC rfZ).toList ++ (.slice none 0 0 :: (dfC dfZ).toList))))∧W.Only g w w' none∧ThIn w' w.heap.size x∧W.RSt w' g k xs c st∧Got (getTh xs st0 0) x st:=by
 obtain ⟨ho,⟨ns,p,a,cp,e1,e2,hown,hl,hi,hr⟩ | ⟨e1,e2,hr⟩⟩:=h
 ·
  have z:=thZ_in w' w.heap.size
  refine ⟨a,ns.length,cp,{ thZ with tp:=a,ns:=ns,tc:=cp },some p,e2,by simp only [thL,List.append_assoc];rfl,ho,{ z with t:=hown,tl:=hl,ti:=hi },hr,.inl ⟨p,?_,rfl⟩⟩
  unfold getTh
  rw [e1]
  rfl
 ·
  refine ⟨none,0,0,thZ,none,e2,by simp only [thL,List.append_assoc];rfl,ho,thZ_in _ _,hr,.inr ⟨?_,rfl,rfl⟩⟩
  unfold getTh
  rw [e1]
  rfl
theorem get0_any (w:World) (g k:Nat) (xs:List UInt8) (c:Nat) (st0:Option Nat) (h:W.RSt w g k xs c st0) (hx:xs.length < 1000000) :
  Calls Tryz.prog 26 #[.pointer (some ⟨g,0,none⟩),.int .i64 0] w (GetTh g k xs c w (getTh xs st0 0)):=by
 obtain ⟨W0,HW,b1,b2,b3⟩:=box_th w
 have hr0:=h.below b3
 have HLT:=Hj h.lt
 have H:=Hj (Aj hr0 hx)
 obtain ⟨res,hres⟩:∃ r,r=getTh xs st0 0:=⟨_,rfl⟩
 have HC:=Hj ((getTerm_any W0 g k xs c st0 hr0).mono fun e w'=>part0)
 rw [← hres] at HC ⊢
 clear h hx hr0 hres
 go_enter Tryz.func26,Tryz.ntmps26
 go_wp2_with fail
 clear HW
 obtain ⟨r,hr⟩:∃ p,p=w.heap.size:=⟨_,rfl⟩
 obtain ⟨q,hq⟩:∃ q,q=w.heap.size+1:=⟨_,rfl⟩
 rw [← hq,← hr]
 rw [← hq] at b2
 rw [← hr] at b1
 have HB:=Hj (th_sep HLT.out b1 b2 b3 hr hq)
 clear b1 b2 b3 hr hq
 refine HC.out.mono ?_
 rintro e W1 ⟨a,n,cp,x,st,rfl,hthl,ho,hin,hr,hgot⟩
 have hL:=ho.lies HB.out.2.1 HB.out.2.2.2.2.2.2.1
 have hLr:=ho.lies HB.out.1 HB.out.2.2.2.2.2.1
 rw [thZ_cells] at hL
 obtain ⟨hp1,hp2⟩:=th_put (U:=W1) (q:=q) 0 [.slice a n cp] x [] [.slice none 0 0] (.slice none 0 0 :: .int .i64 0 :: .slice none 0 0 :: .slice none 0 0 :: ((otC otZ).toList ++ ((refC rfZ).toList ++ (.slice none 0 0 :: (dfC dfZ).toList)))) hL (by simp only [thL,List.append_assoc];rfl) hthl (rfl) (by kernel_rfl)
 obtain ⟨W2,hW2⟩:∃ W2,W1.setCells q 0 [.slice a n cp]=W2:=⟨_,rfl⟩
 rw [hW2] at hp1 hp2
 have hW2:W1.setCell ⟨q,0,none⟩ (.slice a n cp)=W2:=hW2
 have hc0:W1.cell? ⟨q,0,none⟩=some (.slice none 0 0):=hL.cell 0 (by rw [← thZ_cells];kernel_rfl)
 have hf0:W1.frozen? ⟨q,0,none⟩=false:=hL.free _
 obtain ⟨tc,htz,hsc2,HT,HF⟩:=get_tail HB.out ho hp1 hp2 hin hr hgot hLr
 clear hL hLr hthl ho hin hr hgot hp1 hp2 HC 
 go_wp2_with (first
  | (at_builtin;fail)
  | (refine wpList_load_row rfl 42 _ rfl q rfl 42 tc (0,0) _ HT.out.1 Tryz.underlying42 rfl HT.out.2 ?_))
 exact bodyPost_ret (v:=.agg tc) (results_cell_row (p:=4) (ty:=42) (by kernel_rfl) _ _ r 42 tc (0,0) _ rfl HF.out.1 Tryz.underlying42 rfl HT.out.2) rfl HF.out.2
theorem part1 {w w':World} {g k:Nat} {xs:List UInt8} {c:Nat} {st0:Option Nat} {e:Ending} (h:GetR 146 34 asC g k xs c w (getR mintB (assetsD xs st0)) e w'):∃ a n cp x st,e=.returned (.slice a n cp)∧thL x=[.slice none 0 0] ++ [.slice a n cp] ++ (.int .i64 0 :: .slice none 0 0 :: .slice none 0 0 :: ((otC otZ).toList ++ ((refC rfZ).toList ++ (.slice none 0 0 :: (dfC dfZ).toList))))∧W.Only g w w' none∧ThIn w' w.heap.size x∧W.RSt w' g k xs c st∧Got (getTh xs st0 1) x st:=by
 obtain ⟨ho,⟨l,p,v,e1,e2,hown,hr⟩ | ⟨e1,e2,hr⟩⟩:=h
 ·
  have z:=thZ_in w' w.heap.size
  obtain ⟨a,cp,rfl,_,_⟩:=own_form hown
  obtain ⟨hl,hi⟩:=rowAssets_ok rfl l (some p) (getR_row e1)
  refine ⟨a,l.length,cp,{ thZ with pa:=a,l:=l,c:=cp },some p,e2,by simp only [thL,List.append_assoc];rfl,ho,{ z with a:=hown,al:=hl,ao:=hi },hr,.inl ⟨p,?_,rfl⟩⟩
  unfold getTh
  rw [e1]
  rfl
 ·
  refine ⟨none,0,0,thZ,none,e2,by simp only [thL,List.append_assoc];rfl,ho,thZ_in _ _,hr,.inr ⟨?_,rfl,rfl⟩⟩
  unfold getTh
  rw [e1]
  rfl
theorem get1_any (w:World) (g k:Nat) (xs:List UInt8) (c:Nat) (st0:Option Nat) (h:W.RSt w g k xs c st0) (hx:xs.length < 1000000) :
  Calls Tryz.prog 26 #[.pointer (some ⟨g,0,none⟩),.int .i64 1] w (GetTh g k xs c w (getTh xs st0 1)):=by
 obtain ⟨W0,HW,b1,b2,b3⟩:=box_th w
 have hr0:=h.below b3
 have HLT:=Hj h.lt
 have H:=Hj (Aj hr0 hx)
 obtain ⟨res,hres⟩:∃ r,r=getTh xs st0 1:=⟨_,rfl⟩
 have HC:=Hj ((getAssets_any W0 g k xs c st0 hr0 H.out.2).mono fun e w'=>part1)
 rw [← hres] at HC ⊢
 clear h hx hr0 hres
 go_enter Tryz.func26,Tryz.ntmps26
 go_wp2_with fail
 clear HW
 obtain ⟨r,hr⟩:∃ p,p=w.heap.size:=⟨_,rfl⟩
 obtain ⟨q,hq⟩:∃ q,q=w.heap.size+1:=⟨_,rfl⟩
 rw [← hq,← hr]
 rw [← hq] at b2
 rw [← hr] at b1
 have HB:=Hj (th_sep HLT.out b1 b2 b3 hr hq)
 clear b1 b2 b3 hr hq
 refine HC.out.mono ?_
 rintro e W1 ⟨a,n,cp,x,st,rfl,hthl,ho,hin,hr,hgot⟩
 have hL:=ho.lies HB.out.2.1 HB.out.2.2.2.2.2.2.1
 have hLr:=ho.lies HB.out.1 HB.out.2.2.2.2.2.1
 rw [thZ_cells] at hL
 obtain ⟨hp1,hp2⟩:=th_put (U:=W1) (q:=q) 1 [.slice a n cp] x [.slice none 0 0] [.slice none 0 0] (.int .i64 0 :: .slice none 0 0 :: .slice none 0 0 :: ((otC otZ).toList ++ ((refC rfZ).toList ++ (.slice none 0 0 :: (dfC dfZ).toList)))) hL (by simp only [thL,List.append_assoc];rfl) hthl (rfl) (by kernel_rfl)
 obtain ⟨W2,hW2⟩:∃ W2,W1.setCells q 1 [.slice a n cp]=W2:=⟨_,rfl⟩
 rw [hW2] at hp1 hp2
 have hW2:W1.setCell ⟨q,1,none⟩ (.slice a n cp)=W2:=hW2
 have hc0:W1.cell? ⟨q,1,none⟩=some (.slice none 0 0):=hL.cell 1 (by rw [← thZ_cells];kernel_rfl)
 have hf0:W1.frozen? ⟨q,1,none⟩=false:=hL.free _
 obtain ⟨tc,htz,hsc2,HT,HF⟩:=get_tail HB.out ho hp1 hp2 hin hr hgot hLr
 clear hL hLr hthl ho hin hr hgot hp1 hp2 HC 
 go_wp2_with (first
  | (at_builtin;fail)
  | (refine wpList_load_row rfl 42 _ rfl q rfl 42 tc (0,0) _ HT.out.1 Tryz.underlying42 rfl HT.out.2 ?_))
 exact bodyPost_ret (v:=.agg tc) (results_cell_row (p:=4) (ty:=42) (by kernel_rfl) _ _ r 42 tc (0,0) _ rfl HF.out.1 Tryz.underlying42 rfl HT.out.2) rfl HF.out.2
theorem part2 {w w':World} {g k:Nat} {xs:List UInt8} {c:Nat} {st0:Option Nat} {e:Ending} (h:GetVal g k xs c w (getVal xs st0) e w'):∃ y a n cp x st,e=.returned (.agg #[.int .i64 y,.slice a n cp])∧thL x=[.slice none 0 0,.slice none 0 0] ++ [.int .i64 y,.slice a n cp] ++ (.slice none 0 0 :: ((otC otZ).toList ++ ((refC rfZ).toList ++ (.slice none 0 0 :: (dfC dfZ).toList))))∧W.Only g w w' none∧ThIn w' w.heap.size x∧W.RSt w' g k xs c st∧Got (getTh xs st0 2) x st:=by
 obtain ⟨ho,⟨y,l,p,a,cp,e1,e2,hown,hr⟩ | ⟨e1,e2,hr⟩⟩:=h
 ·
  have z:=thZ_in w' w.heap.size
  obtain ⟨hl,hi,hc⟩:=getVal_in e1
  refine ⟨y,a,l.length,cp,{ thZ with v:=⟨y,a,l,cp⟩ },some p,e2,by simp only [thL,List.append_assoc];rfl,ho,{ z with v:=hown,vl:=hl,vo:=hi,vc:=hc },hr,.inl ⟨p,?_,rfl⟩⟩
  unfold getTh
  rw [e1]
  rfl
 ·
  refine ⟨0,none,0,0,thZ,none,e2,by simp only [thL,List.append_assoc];rfl,ho,thZ_in _ _,hr,.inr ⟨?_,rfl,rfl⟩⟩
  unfold getTh
  rw [e1]
  rfl
theorem get2_any (w:World) (g k:Nat) (xs:List UInt8) (c:Nat) (st0:Option Nat) (h:W.RSt w g k xs c st0) (hx:xs.length < 1000000) :
  Calls Tryz.prog 26 #[.pointer (some ⟨g,0,none⟩),.int .i64 2] w (GetTh g k xs c w (getTh xs st0 2)):=by
 obtain ⟨W0,HW,b1,b2,b3⟩:=box_th w
 have hr0:=h.below b3
 have HLT:=Hj h.lt
 have H:=Hj (Aj hr0 hx)
 obtain ⟨res,hres⟩:∃ r,r=getTh xs st0 2:=⟨_,rfl⟩
 have HC:=Hj ((getValue_any W0 g k xs c st0 hr0 H.out.2).mono fun e w'=>part2)
 rw [← hres] at HC ⊢
 clear h hx hr0 hres
 go_enter Tryz.func26,Tryz.ntmps26
 go_wp2_with fail
 clear HW
 obtain ⟨r,hr⟩:∃ p,p=w.heap.size:=⟨_,rfl⟩
 obtain ⟨q,hq⟩:∃ q,q=w.heap.size+1:=⟨_,rfl⟩
 rw [← hq,← hr]
 rw [← hq] at b2
 rw [← hr] at b1
 have HB:=Hj (th_sep HLT.out b1 b2 b3 hr hq)
 clear b1 b2 b3 hr hq
 refine HC.out.mono ?_
 rintro e W1 ⟨y,a,n,cp,x,st,rfl,hthl,ho,hin,hr,hgot⟩
 have hL:=ho.lies HB.out.2.1 HB.out.2.2.2.2.2.2.1
 have hLr:=ho.lies HB.out.1 HB.out.2.2.2.2.2.1
 rw [thZ_cells] at hL
 obtain ⟨hp1,hp2⟩:=th_put (U:=W1) (q:=q) 2 [.int .i64 y,.slice a n cp] x [.slice none 0 0,.slice none 0 0] [.int .i64 0,.slice none 0 0] (.slice none 0 0 :: ((otC otZ).toList ++ ((refC rfZ).toList ++ (.slice none 0 0 :: (dfC dfZ).toList)))) hL (by simp only [thL,List.append_assoc];rfl) hthl (rfl) (by kernel_rfl)
 obtain ⟨W2,hW2⟩:∃ W2,W1.setCells q 2 [.int .i64 y,.slice a n cp]=W2:=⟨_,rfl⟩
 rw [hW2] at hp1 hp2
 have hW2:(W1.setCell ⟨q,2,none⟩ (.int .i64 y)).setCell ⟨q,3,none⟩ (.slice a n cp)=W2:=hW2
 have hc0:W1.cell? ⟨q,2,none⟩=some (.int .i64 0):=hL.cell 2 (by rw [← thZ_cells];kernel_rfl)
 have hf0:W1.frozen? ⟨q,2,none⟩=false:=hL.free _
 have hc1:W1.cell? ⟨q,3,none⟩=some (.slice none 0 0):=hL.cell 3 (by rw [← thZ_cells];kernel_rfl)
 have hf1:W1.frozen? ⟨q,3,none⟩=false:=hL.free _
 have hf2:∀ v,(W1.setCell ⟨q,2,none⟩ v).frozen? ⟨q,3,none⟩=false:=fun v=>(hL.set 2 v).free _
 have hc2:∀ v,(W1.setCell ⟨q,2,none⟩ v).cell? ⟨q,3,none⟩=some (.slice none 0 0):=fun v=>(hL.set 2 v).cell 3 (by rw [← thZ_cells];kernel_rfl)
 obtain ⟨tc,htz,hsc2,HT,HF⟩:=get_tail HB.out ho hp1 hp2 hin hr hgot hLr
 clear hL hLr hthl ho hin hr hgot hp1 hp2 HC 
 go_wp2_with (first
  | (at_builtin;fail)
  | (refine wpList_load_row rfl 42 _ rfl q rfl 42 tc (0,0) _ HT.out.1 Tryz.underlying42 rfl HT.out.2 ?_))
 exact bodyPost_ret (v:=.agg tc) (results_cell_row (p:=4) (ty:=42) (by kernel_rfl) _ _ r 42 tc (0,0) _ rfl HF.out.1 Tryz.underlying42 rfl HT.out.2) rfl HF.out.2
theorem part3 {w w':World} {g k:Nat} {xs:List UInt8} {c:Nat} {st0:Option Nat} {e:Ending} (h:GetR 150 35 toC g k xs c w (getR (wellT nzT) (totalsD xs st0)) e w'):∃ a n cp x st,e=.returned (.slice a n cp)∧thL x=[.slice none 0 0,.slice none 0 0,.int .i64 0,.slice none 0 0] ++ [.slice a n cp] ++ ((otC otZ).toList ++ ((refC rfZ).toList ++ (.slice none 0 0 :: (dfC dfZ).toList)))∧W.Only g w w' none∧ThIn w' w.heap.size x∧W.RSt w' g k xs c st∧Got (getTh xs st0 3) x st:=by
 obtain ⟨ho,⟨l,p,v,e1,e2,hown,hr⟩ | ⟨e1,e2,hr⟩⟩:=h
 ·
  have z:=thZ_in w' w.heap.size
  obtain ⟨a,cp,rfl,_,_⟩:=own_form hown
  obtain ⟨hl,hi⟩:=rowTotals_ok rfl l (some p) (getR_row e1)
  refine ⟨a,l.length,cp,{ thZ with pt:=a,t:=l,ct:=cp },some p,e2,by simp only [thL,List.append_assoc];rfl,ho,{ z with tot:=hown,totl:=hl,toto:=hi },hr,.inl ⟨p,?_,rfl⟩⟩
  unfold getTh
  rw [e1]
  rfl
 ·
  refine ⟨none,0,0,thZ,none,e2,by simp only [thL,List.append_assoc];rfl,ho,thZ_in _ _,hr,.inr ⟨?_,rfl,rfl⟩⟩
  unfold getTh
  rw [e1]
  rfl
theorem get3_any (w:World) (g k:Nat) (xs:List UInt8) (c:Nat) (st0:Option Nat) (h:W.RSt w g k xs c st0) (hx:xs.length < 1000000) :
  Calls Tryz.prog 26 #[.pointer (some ⟨g,0,none⟩),.int .i64 3] w (GetTh g k xs c w (getTh xs st0 3)):=by
 obtain ⟨W0,HW,b1,b2,b3⟩:=box_th w
 have hr0:=h.below b3
 have HLT:=Hj h.lt
 have H:=Hj (Aj hr0 hx)
 obtain ⟨res,hres⟩:∃ r,r=getTh xs st0 3:=⟨_,rfl⟩
 have HC:=Hj ((getTotals_any W0 g k xs c st0 hr0 H.out.2).mono fun e w'=>part3)
 rw [← hres] at HC ⊢
 clear h hx hr0 hres
 go_enter Tryz.func26,Tryz.ntmps26
 go_wp2_with fail
 clear HW
 obtain ⟨r,hr⟩:∃ p,p=w.heap.size:=⟨_,rfl⟩
 obtain ⟨q,hq⟩:∃ q,q=w.heap.size+1:=⟨_,rfl⟩
 rw [← hq,← hr]
 rw [← hq] at b2
 rw [← hr] at b1
 have HB:=Hj (th_sep HLT.out b1 b2 b3 hr hq)
 clear b1 b2 b3 hr hq
 refine HC.out.mono ?_
 rintro e W1 ⟨a,n,cp,x,st,rfl,hthl,ho,hin,hr,hgot⟩
 have hL:=ho.lies HB.out.2.1 HB.out.2.2.2.2.2.2.1
 have hLr:=ho.lies HB.out.1 HB.out.2.2.2.2.2.1
 rw [thZ_cells] at hL
 obtain ⟨hp1,hp2⟩:=th_put (U:=W1) (q:=q) 4 [.slice a n cp] x [.slice none 0 0,.slice none 0 0,.int .i64 0,.slice none 0 0] [.slice none 0 0] ((otC otZ).toList ++ ((refC rfZ).toList ++ (.slice none 0 0 :: (dfC dfZ).toList))) hL (by simp only [thL,List.append_assoc];rfl) hthl (rfl) (by kernel_rfl)
 obtain ⟨W2,hW2⟩:∃ W2,W1.setCells q 4 [.slice a n cp]=W2:=⟨_,rfl⟩
 rw [hW2] at hp1 hp2
 have hW2:W1.setCell ⟨q,4,none⟩ (.slice a n cp)=W2:=hW2
 have hc0:W1.cell? ⟨q,4,none⟩=some (.slice none 0 0):=hL.cell 4 (by rw [← thZ_cells];kernel_rfl)
 have hf0:W1.frozen? ⟨q,4,none⟩=false:=hL.free _
 obtain ⟨tc,htz,hsc2,HT,HF⟩:=get_tail HB.out ho hp1 hp2 hin hr hgot hLr
 clear hL hLr hthl ho hin hr hgot hp1 hp2 HC 
 go_wp2_with (first
  | (at_builtin;fail)
  | (refine wpList_load_row rfl 42 _ rfl q rfl 42 tc (0,0) _ HT.out.1 Tryz.underlying42 rfl HT.out.2 ?_))
 exact bodyPost_ret (v:=.agg tc) (results_cell_row (p:=4) (ty:=42) (by kernel_rfl) _ _ r 42 tc (0,0) _ rfl HF.out.1 Tryz.underlying42 rfl HT.out.2) rfl HF.out.2
theorem part4 {w w':World} {g k:Nat} {xs:List UInt8} {c:Nat} {st0:Option Nat} {e:Ending} (h:GetOut g k xs c w (getOut xs st0) e w'):∃  x st,e=.returned (.agg (otC x.o))∧thL x=[.slice none 0 0,.slice none 0 0,.int .i64 0,.slice none 0 0,.slice none 0 0] ++ (otC x.o).toList ++ ((refC rfZ).toList ++ (.slice none 0 0 :: (dfC dfZ).toList))∧W.Only g w w' none∧ThIn w' w.heap.size x∧W.RSt w' g k xs c st∧Got (getTh xs st0 4) x st:=by
 obtain ⟨ho,⟨o,p,e1,e2,hown,hok,hr⟩ | ⟨e1,e2,hr⟩⟩:=h
 ·
  have z:=thZ_in w' w.heap.size
  refine ⟨{ thZ with o:=o },some p,e2,by simp only [thL,List.append_assoc];rfl,ho,{ z with o:=hown },hr,.inl ⟨p,?_,rfl⟩⟩
  unfold getTh
  rw [e1]
  rfl
 ·
  refine ⟨thZ,none,by rw [e2,otZ_cells];rfl,by simp only [thL,List.append_assoc];rfl,ho,thZ_in _ _,hr,.inr ⟨?_,rfl,rfl⟩⟩
  unfold getTh
  rw [e1]
  rfl
theorem get4_any (w:World) (g k:Nat) (xs:List UInt8) (c:Nat) (st0:Option Nat) (h:W.RSt w g k xs c st0) (hx:xs.length < 1000000) :
  Calls Tryz.prog 26 #[.pointer (some ⟨g,0,none⟩),.int .i64 4] w (GetTh g k xs c w (getTh xs st0 4)):=by
 obtain ⟨W0,HW,b1,b2,b3⟩:=box_th w
 have hr0:=h.below b3
 have HLT:=Hj h.lt
 have H:=Hj (Aj hr0 hx)
 obtain ⟨res,hres⟩:∃ r,r=getTh xs st0 4:=⟨_,rfl⟩
 have HC:=Hj ((getOutput_any W0 g k xs c st0 hr0 H.out.2).mono fun e w'=>part4)
 rw [← hres] at HC ⊢
 clear h hx hr0 hres
 go_enter Tryz.func26,Tryz.ntmps26
 go_wp2_with fail
 clear HW
 obtain ⟨r,hr⟩:∃ p,p=w.heap.size:=⟨_,rfl⟩
 obtain ⟨q,hq⟩:∃ q,q=w.heap.size+1:=⟨_,rfl⟩
 rw [← hq,← hr]
 rw [← hq] at b2
 rw [← hr] at b1
 have HB:=Hj (th_sep HLT.out b1 b2 b3 hr hq)
 clear b1 b2 b3 hr hq
 refine HC.out.mono ?_
 rintro e W1 ⟨x,st,rfl,hthl,ho,hin,hr,hgot⟩
 have hL:=ho.lies HB.out.2.1 HB.out.2.2.2.2.2.2.1
 have hLr:=ho.lies HB.out.1 HB.out.2.2.2.2.2.1
 rw [thZ_cells] at hL
 obtain ⟨cs,hcs⟩:∃ y,y=otC x.o:=⟨_,rfl⟩
 have hcz:cs.size=69:=by rw [hcs];exact otC_size x.o hin.o.1 hin.o.2.1
 have hco:cs.all (·.oneCell')=true:=by rw [hcs];exact otG_one x.o
 rw [← hcs] at hthl ⊢
 have hsc:(storeCells ⟨q,5,none⟩ cs.toList 0).run Tryz.prog W1=.ok () (W1.setCells q 5 cs.toList):=sc_mid hL 5 cs (by rw [hcz,thC_size thZ rfl rfl rfl];decide) hco
 have hIc:=Hj (show (Tryz.prog.info? 35).map (·.size)=some cs.size by rw [hcz];kernel_rfl)
 obtain ⟨hp1,hp2⟩:=th_put (U:=W1) (q:=q) 5 cs.toList x [.slice none 0 0,.slice none 0 0,.int .i64 0,.slice none 0 0,.slice none 0 0] (otC otZ).toList ((refC rfZ).toList ++ (.slice none 0 0 :: (dfC dfZ).toList)) hL (by simp only [thL,List.append_assoc];rfl) hthl (by rw [Array.length_toList,Array.length_toList,hcz];kernel_rfl) (by kernel_rfl)
 obtain ⟨W2,hW2⟩:∃ W2,W1.setCells q 5 cs.toList=W2:=⟨_,rfl⟩
 rw [hW2] at hsc hp1 hp2
 obtain ⟨tc,htz,hsc2,HT,HF⟩:=get_tail HB.out ho hp1 hp2 hin hr hgot hLr
 clear hL hLr hthl ho hin hr hgot hp1 hp2 HC hcs hco
 go_wp2_with (first
  | (at_builtin;fail)
  | (refine wpList_load_row rfl 42 _ rfl q rfl 42 tc (0,0) _ HT.out.1 Tryz.underlying42 rfl HT.out.2 ?_))
 exact bodyPost_ret (v:=.agg tc) (results_cell_row (p:=4) (ty:=42) (by kernel_rfl) _ _ r 42 tc (0,0) _ rfl HF.out.1 Tryz.underlying42 rfl HT.out.2) rfl HF.out.2
theorem part5 {w w':World} {g k:Nat} {xs:List UInt8} {c:Nat} {st0:Option Nat} {e:Ending} (h:GetRf g k xs c w (getRef xs st0) e w'):∃  x st,e=.returned (.agg (refC x.r))∧thL x=([.slice none 0 0,.slice none 0 0,.int .i64 0,.slice none 0 0,.slice none 0 0] ++ (otC otZ).toList) ++ (refC x.r).toList ++ (.slice none 0 0 :: (dfC dfZ).toList)∧W.Only g w w' none∧ThIn w' w.heap.size x∧W.RSt w' g k xs c st∧Got (getTh xs st0 5) x st:=by
 obtain ⟨ho,⟨r,p,e1,e2,hown,hr⟩ | ⟨e1,e2,hr⟩⟩:=h
 ·
  have z:=thZ_in w' w.heap.size
  refine ⟨{ thZ with r:=r },some p,e2,by simp only [thL,List.append_assoc];rfl,ho,{ z with r:=getRef_in e1 },hr,.inl ⟨p,?_,rfl⟩⟩
  unfold getTh
  rw [e1]
  rfl
 ·
  refine ⟨thZ,none,e2,by simp only [thL,List.append_assoc];rfl,ho,thZ_in _ _,hr,.inr ⟨?_,rfl,rfl⟩⟩
  unfold getTh
  rw [e1]
  rfl
theorem get5_any (w:World) (g k:Nat) (xs:List UInt8) (c:Nat) (st0:Option Nat) (h:W.RSt w g k xs c st0) (hx:xs.length < 1000000) :
  Calls Tryz.prog 26 #[.pointer (some ⟨g,0,none⟩),.int .i64 5] w (GetTh g k xs c w (getTh xs st0 5)):=by
 obtain ⟨W0,HW,b1,b2,b3⟩:=box_th w
 have hr0:=h.below b3
 have HLT:=Hj h.lt
 have H:=Hj (Aj hr0 hx)
 obtain ⟨res,hres⟩:∃ r,r=getTh xs st0 5:=⟨_,rfl⟩
 have HC:=Hj ((getRef_any W0 g k xs c st0 hr0).mono fun e w'=>part5)
 rw [← hres] at HC ⊢
 clear h hx hr0 hres
 go_enter Tryz.func26,Tryz.ntmps26
 go_wp2_with fail
 clear HW
 obtain ⟨r,hr⟩:∃ p,p=w.heap.size:=⟨_,rfl⟩
 obtain ⟨q,hq⟩:∃ q,q=w.heap.size+1:=⟨_,rfl⟩
 rw [← hq,← hr]
 rw [← hq] at b2
 rw [← hr] at b1
 have HB:=Hj (th_sep HLT.out b1 b2 b3 hr hq)
 clear b1 b2 b3 hr hq
 refine HC.out.mono ?_
 rintro e W1 ⟨x,st,rfl,hthl,ho,hin,hr,hgot⟩
 have hL:=ho.lies HB.out.2.1 HB.out.2.2.2.2.2.2.1
 have hLr:=ho.lies HB.out.1 HB.out.2.2.2.2.2.1
 rw [thZ_cells] at hL
 obtain ⟨cs,hcs⟩:∃ y,y=refC x.r:=⟨_,rfl⟩
 have hcz:cs.size=33:=by rw [hcs];exact refC_size x.r hin.r.1
 have hco:cs.all (·.oneCell')=true:=by rw [hcs];exact refC_one x.r
 rw [← hcs] at hthl ⊢
 have hsc:(storeCells ⟨q,74,none⟩ cs.toList 0).run Tryz.prog W1=.ok () (W1.setCells q 74 cs.toList):=sc_mid hL 74 cs (by rw [hcz,thC_size thZ rfl rfl rfl];decide) hco
 have hIc:=Hj (show (Tryz.prog.info? 37).map (·.size)=some cs.size by rw [hcz];kernel_rfl)
 obtain ⟨hp1,hp2⟩:=th_put (U:=W1) (q:=q) 74 cs.toList x ([.slice none 0 0,.slice none 0 0,.int .i64 0,.slice none 0 0,.slice none 0 0] ++ (otC otZ).toList) (refC rfZ).toList (.slice none 0 0 :: (dfC dfZ).toList) hL (by simp only [thL,List.append_assoc];rfl) hthl (by rw [Array.length_toList,Array.length_toList,hcz];kernel_rfl) (by kernel_rfl)
 obtain ⟨W2,hW2⟩:∃ W2,W1.setCells q 74 cs.toList=W2:=⟨_,rfl⟩
 rw [hW2] at hsc hp1 hp2
 obtain ⟨tc,htz,hsc2,HT,HF⟩:=get_tail HB.out ho hp1 hp2 hin hr hgot hLr
 clear hL hLr hthl ho hin hr hgot hp1 hp2 HC hcs hco
 go_wp2_with (first
  | (at_builtin;fail)
  | (refine wpList_load_row rfl 42 _ rfl q rfl 42 tc (0,0) _ HT.out.1 Tryz.underlying42 rfl HT.out.2 ?_))
 exact bodyPost_ret (v:=.agg tc) (results_cell_row (p:=4) (ty:=42) (by kernel_rfl) _ _ r 42 tc (0,0) _ rfl HF.out.1 Tryz.underlying42 rfl HT.out.2) rfl HF.out.2
theorem part6 {w w':World} {g k:Nat} {xs:List UInt8} {c:Nat} {st0:Option Nat} {e:Ending} (h:GetEs g k xs c w (getEs xs st0) e w'):∃ a n cp x st,e=.returned (.slice a n cp)∧thL x=([.slice none 0 0,.slice none 0 0,.int .i64 0,.slice none 0 0,.slice none 0 0] ++ (otC otZ).toList ++ (refC rfZ).toList) ++ [.slice a n cp] ++ (dfC dfZ).toList∧W.Only g w w' none∧ThIn w' w.heap.size x∧W.RSt w' g k xs c st∧Got (getTh xs st0 6) x st:=by
 obtain ⟨ho,⟨l,p,v,e1,e2,hown,hok,hr⟩ | ⟨e1,e2,hr⟩⟩:=h
 ·
  have z:=thZ_in w' w.heap.size
  obtain ⟨a,cp,rfl,_,_⟩:=hown.rowE
  refine ⟨a,l.length,cp,{ thZ with pe:=a,es:=l,ce:=cp },some p,e2,by simp only [thL,List.append_assoc];rfl,ho,{ z with e:=hown },hr,.inl ⟨p,?_,rfl⟩⟩
  unfold getTh
  rw [e1]
  rfl
 ·
  refine ⟨none,0,0,thZ,none,e2,by simp only [thL,List.append_assoc];rfl,ho,thZ_in _ _,hr,.inr ⟨?_,rfl,rfl⟩⟩
  unfold getTh
  rw [e1]
  rfl
theorem get6_any (w:World) (g k:Nat) (xs:List UInt8) (c:Nat) (st0:Option Nat) (h:W.RSt w g k xs c st0) (hx:xs.length < 1000000) :
  Calls Tryz.prog 26 #[.pointer (some ⟨g,0,none⟩),.int .i64 6] w (GetTh g k xs c w (getTh xs st0 6)):=by
 obtain ⟨W0,HW,b1,b2,b3⟩:=box_th w
 have hr0:=h.below b3
 have HLT:=Hj h.lt
 have H:=Hj (Aj hr0 hx)
 obtain ⟨res,hres⟩:∃ r,r=getTh xs st0 6:=⟨_,rfl⟩
 have HC:=Hj ((getEntries_any W0 g k xs c st0 hr0 H.out.2).mono fun e w'=>part6)
 rw [← hres] at HC ⊢
 clear h hx hr0 hres
 go_enter Tryz.func26,Tryz.ntmps26
 go_wp2_with fail
 clear HW
 obtain ⟨r,hr⟩:∃ p,p=w.heap.size:=⟨_,rfl⟩
 obtain ⟨q,hq⟩:∃ q,q=w.heap.size+1:=⟨_,rfl⟩
 rw [← hq,← hr]
 rw [← hq] at b2
 rw [← hr] at b1
 have HB:=Hj (th_sep HLT.out b1 b2 b3 hr hq)
 clear b1 b2 b3 hr hq
 refine HC.out.mono ?_
 rintro e W1 ⟨a,n,cp,x,st,rfl,hthl,ho,hin,hr,hgot⟩
 have hL:=ho.lies HB.out.2.1 HB.out.2.2.2.2.2.2.1
 have hLr:=ho.lies HB.out.1 HB.out.2.2.2.2.2.1
 rw [thZ_cells] at hL
 obtain ⟨hp1,hp2⟩:=th_put (U:=W1) (q:=q) 107 [.slice a n cp] x ([.slice none 0 0,.slice none 0 0,.int .i64 0,.slice none 0 0,.slice none 0 0] ++ (otC otZ).toList ++ (refC rfZ).toList) [.slice none 0 0] (dfC dfZ).toList hL (by simp only [thL,List.append_assoc];rfl) hthl (rfl) (by kernel_rfl)
 obtain ⟨W2,hW2⟩:∃ W2,W1.setCells q 107 [.slice a n cp]=W2:=⟨_,rfl⟩
 rw [hW2] at hp1 hp2
 have hW2:W1.setCell ⟨q,107,none⟩ (.slice a n cp)=W2:=hW2
 have hc0:W1.cell? ⟨q,107,none⟩=some (.slice none 0 0):=hL.cell 107 (by rw [← thZ_cells];kernel_rfl)
 have hf0:W1.frozen? ⟨q,107,none⟩=false:=hL.free _
 obtain ⟨tc,htz,hsc2,HT,HF⟩:=get_tail HB.out ho hp1 hp2 hin hr hgot hLr
 clear hL hLr hthl ho hin hr hgot hp1 hp2 HC 
 go_wp2_with (first
  | (at_builtin;fail)
  | (refine wpList_load_row rfl 42 _ rfl q rfl 42 tc (0,0) _ HT.out.1 Tryz.underlying42 rfl HT.out.2 ?_))
 exact bodyPost_ret (v:=.agg tc) (results_cell_row (p:=4) (ty:=42) (by kernel_rfl) _ _ r 42 tc (0,0) _ rfl HF.out.1 Tryz.underlying42 rfl HT.out.2) rfl HF.out.2
theorem part7 {w w':World} {g k:Nat} {xs:List UInt8} {c:Nat} {st0:Option Nat} {e:Ending} (h:GetDi g k xs c w (getDi xs st0) e w'):∃  x st,e=.returned (.agg (dfC x.d))∧thL x=([.slice none 0 0,.slice none 0 0,.int .i64 0,.slice none 0 0,.slice none 0 0] ++ (otC otZ).toList ++ (refC rfZ).toList ++ [.slice none 0 0]) ++ (dfC x.d).toList ++ []∧W.Only g w w' none∧ThIn w' w.heap.size x∧W.RSt w' g k xs c st∧Got (getTh xs st0 7) x st:=by
 obtain ⟨ho,⟨d,p,e1,e2,hown,hok,hr⟩ | ⟨e1,e2,hr⟩⟩:=h
 ·
  have z:=thZ_in w' w.heap.size
  refine ⟨{ thZ with d:=d },some p,e2,by simp only [thL,List.append_assoc,List.append_nil];rfl,ho,{ z with d:=hown },hr,.inl ⟨p,?_,rfl⟩⟩
  unfold getTh
  rw [e1]
  rfl
 ·
  refine ⟨thZ,none,e2,by simp only [thL,List.append_assoc,List.append_nil];rfl,ho,thZ_in _ _,hr,.inr ⟨?_,rfl,rfl⟩⟩
  unfold getTh
  rw [e1]
  rfl
theorem get7_any (w:World) (g k:Nat) (xs:List UInt8) (c:Nat) (st0:Option Nat) (h:W.RSt w g k xs c st0) (hx:xs.length < 1000000) :
  Calls Tryz.prog 26 #[.pointer (some ⟨g,0,none⟩),.int .i64 7] w (GetTh g k xs c w (getTh xs st0 7)):=by
 obtain ⟨W0,HW,b1,b2,b3⟩:=box_th w
 have hr0:=h.below b3
 have HLT:=Hj h.lt
 have H:=Hj (Aj hr0 hx)
 obtain ⟨res,hres⟩:∃ r,r=getTh xs st0 7:=⟨_,rfl⟩
 have HC:=Hj ((getDiff_any W0 g k xs c st0 hr0 H.out.2).mono fun e w'=>part7)
 rw [← hres] at HC ⊢
 clear h hx hr0 hres
 go_enter Tryz.func26,Tryz.ntmps26
 go_wp2_with fail
 clear HW
 obtain ⟨r,hr⟩:∃ p,p=w.heap.size:=⟨_,rfl⟩
 obtain ⟨q,hq⟩:∃ q,q=w.heap.size+1:=⟨_,rfl⟩
 rw [← hq,← hr]
 rw [← hq] at b2
 rw [← hr] at b1
 have HB:=Hj (th_sep HLT.out b1 b2 b3 hr hq)
 clear b1 b2 b3 hr hq
 refine HC.out.mono ?_
 rintro e W1 ⟨x,st,rfl,hthl,ho,hin,hr,hgot⟩
 have hL:=ho.lies HB.out.2.1 HB.out.2.2.2.2.2.2.1
 have hLr:=ho.lies HB.out.1 HB.out.2.2.2.2.2.1
 rw [thZ_cells] at hL
 obtain ⟨cs,hcs⟩:∃ y,y=dfC x.d:=⟨_,rfl⟩
 have hcz:cs.size=5:=by rw [hcs];exact rfl
 have hco:cs.all (·.oneCell')=true:=by rw [hcs];exact dfG_one x.d
 rw [← hcs] at hthl ⊢
 have hsc:(storeCells ⟨q,108,none⟩ cs.toList 0).run Tryz.prog W1=.ok () (W1.setCells q 108 cs.toList):=sc_mid hL 108 cs (by rw [hcz,thC_size thZ rfl rfl rfl];decide) hco
 have hIc:=Hj (show (Tryz.prog.info? 40).map (·.size)=some cs.size by rw [hcz];kernel_rfl)
 obtain ⟨hp1,hp2⟩:=th_put (U:=W1) (q:=q) 108 cs.toList x ([.slice none 0 0,.slice none 0 0,.int .i64 0,.slice none 0 0,.slice none 0 0] ++ (otC otZ).toList ++ (refC rfZ).toList ++ [.slice none 0 0]) (dfC dfZ).toList [] hL (by simp only [thL,List.append_assoc,List.append_nil];rfl) hthl (by rw [Array.length_toList,Array.length_toList,hcz];kernel_rfl) (by kernel_rfl)
 obtain ⟨W2,hW2⟩:∃ W2,W1.setCells q 108 cs.toList=W2:=⟨_,rfl⟩
 rw [hW2] at hsc hp1 hp2
 obtain ⟨tc,htz,hsc2,HT,HF⟩:=get_tail HB.out ho hp1 hp2 hin hr hgot hLr
 clear hL hLr hthl ho hin hr hgot hp1 hp2 HC hcs hco
 go_wp2_with (first
  | (at_builtin;fail)
  | (refine wpList_load_row rfl 42 _ rfl q rfl 42 tc (0,0) _ HT.out.1 Tryz.underlying42 rfl HT.out.2 ?_))
 exact bodyPost_ret (v:=.agg tc) (results_cell_row (p:=4) (ty:=42) (by kernel_rfl) _ _ r 42 tc (0,0) _ rfl HF.out.1 Tryz.underlying42 rfl HT.out.2) rfl HF.out.2
end Go.Proofs.YtilbbemdinpjcaaGreat.P
namespace Go.Proofs.YtilbbemdinpjcaaGreat.P
set_option maxRecDepth 100000
open Go.RowKit Go.Sort
def putS (st:Option (List UInt8)) (x:Th):Nat→Option (List UInt8)
 | 0=>if T.rightB x.ns then termS st x.ns else none
 | 1=>if mintB x.l then asListS st x.l else none
 | 2=>if rightV x.v then valS st x.v else none
 | 3=>if wellT nzT x.t then totS st x.t else none
 | 4=>if rightOB x.o then outS st x.o else none
 | 5=>if rightRefB x.r then refS st x.r else none
 | 6=>if rightEB x.es then ensS st x.es else none
 | _=>if rightDB x.d then diffS st x.d else none
def cntTh (x:Th):Nat→Nat
 | 0=>T.cost x.ns
 | 1=>cntA x.l
 | 2=>cntV x.v
 | 3=>cntT x.t
 | 4=>cntO x.o
 | 5=>0
 | 6=>cntE x.es
 | _=>cntE x.d.s+cntE x.d.m+x.d.l.length
end Go.Proofs.YtilbbemdinpjcaaGreat.P
