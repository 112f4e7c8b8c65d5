/-
  pack: the getter's diff.
-/
import Derived.Test.YtilbbemdinpjcaaGreatJYc
set_option maxHeartbeats 16000000
namespace Go.Proofs.YtilbbemdinpjcaaGreat.P
set_option maxRecDepth 100000
open Go.RowKit Go.Sort
def rowE (xs:List UInt8):Nat→List (Rf × OutV)→Option Nat→Option (List (Rf × OutV) × Option Nat)
 | 0,acc,st=>some (acc,st)
 | n+1,acc,st=>match entD xs st with
   | some (y,p)=>rowE xs n (acc ++ [y]) (some p)
   | none=>none
def enV (e:En):Rf × OutV:=(e.r,outV e.o)
def EnMem (V:World) (B:Nat) (e:En):Prop:=RfOk e.r∧OutIn V B e.o
def EnFar (v:Value) (e:En):Prop:=∀ j,v.ownBlock=some j→(Value.slice e.o.v.pa e.o.v.l.length e.o.v.c).ownBlock≠some j∧(Value.slice e.o.tp e.o.ns.length e.o.tc).ownBlock≠some j
def EntsG (g k:Nat) (xs:List UInt8) (c:Nat) (w:World) (d:Option (List (Rf × OutV) × Option Nat)) (e:Ending) (w':World):Prop :=
 W.Only g w w' none∧((∃ l v st,e=.returned v∧w'.ownsRow w.heap.size 81 102 v l.length (cellsF enC l)∧(∀ x ∈ l,EnMem w' w.heap.size x∧EnFar v x)∧W.RSt w' g k xs c st∧d=some (l.map enV,st)) ∨ (Fault e∧d=none∧∃ st,W.RSt w' g k xs c st))
structure RLE (W0 Z:World) (g k:Nat) (xs:List UInt8) (c:Nat) (res:Option (List (Rf × OutV) × Option Nat)) (n:Nat) (l:List En) (st:Option Nat) (v:Value):Prop where
 res:res=rowE xs n (l.map enV) st
 rd:W.RSt Z g k xs c st
 only:W.Only g W0 Z none
 own:Z.ownsRow W0.heap.size 81 102 v l.length (cellsF enC l)
 none:st=none→l=[]
 some:∀ a,st=some a→l.length≤a
 each:∀ x ∈ l,EnMem Z W0.heap.size x∧EnFar v x
theorem infoEn:(Tryz.prog.info? 81).map (fun i=>(i.zero.map (·.cells.size),i.size,i.bytes))=some (some 102,102,176):=by kernel_rfl
theorem OutIn.only {V V':World} {g B:Nat} {o:Ot} (h:OutIn V B o) (ho:W.Only g V V' none) (hg:g < B):OutIn V' B o :=
 ⟨h.1,h.2.1,W.own_only h.2.2.1 ho (fun e=>by have:=(W.own_block h.2.2.1 _ e).1;omega) (fun _ _=>by simp),ownT_only h.2.2.2.1 ho hg,h.2.2.2.2⟩
theorem OutIn.grown {V V':World} {B:Nat} {o:Ot} {b:Option Nat} (h:OutIn V B o) (hg:V.grownBy V' b) (hf:∀ j,b=some j→(Value.slice o.v.pa o.v.l.length o.v.c).ownBlock≠some j∧(Value.slice o.tp o.ns.length o.tc).ownBlock≠some j):OutIn V' B o :=
 ⟨h.1,h.2.1,W.own_kept h.2.2.1 hg (fun j e e2=>(hf j e2).1 e),W.own_kept h.2.2.2.1 hg (fun j e e2=>(hf j e2).2 e),h.2.2.2.2⟩
theorem OutIn.blk {V:World} {B:Nat} {o:Ot} (h:OutIn V B o):(∀ j,(Value.slice o.v.pa o.v.l.length o.v.c).ownBlock=some j→B≤j∧j < V.heap.size)∧∀ j,(Value.slice o.tp o.ns.length o.tc).ownBlock=some j→B≤j∧j < V.heap.size :=
 ⟨W.own_block h.2.2.1,W.own_block h.2.2.2.1⟩
attribute [-go_sem] Instr.build Instr.buildSlice
theorem rowEntry_any (w:World) (g k:Nat) (xs:List UInt8) (c:Nat) (st0:Option Nat) (n:Nat) (h:W.RSt w g k xs c st0) (hx:xs.length < 1000000) (hn:n < 9223372036854775808) :
 Calls Tryz.prog 231 #[.agg #[.pointer (some ⟨g,0,none⟩)],.int .i64 n,.func (Fn.func 232) #[] #[]] w (EntsG g k xs c w (rowE xs n [] st0)):=by
 obtain ⟨res,hres⟩:∃ r,r=rowE xs n [] st0:=⟨_,rfl⟩
 rw [← hres]
 obtain ⟨hA,hb⟩:=box_one w (.pointer (some ⟨g,0,none⟩)) 174
 have hsl:∀ (W:World) (av:Array Value),av.size=102→(Instr.buildSlice 38 1 #[(0,.agg av)]).run Tryz.prog W=.ok (.slice (some ⟨W.heap.size,0,none⟩) 1 1) (W.alloc (.cells av 81)):=fun W av has=>run_slice1 W 38 81 102 176 av Tryz.underlying38 infoEn (by decide) (by decide) has
 have HSL:=Hj hsl
 have HLT:=Hj h.lt
 have HX:=Hj hx
 have hr0:=h.below hb
 have H:=Hj (Aj hres hr0)
 clear h hres hr0 hsl hx
 have hcf:=fun cap V=>T.callK 232 Tryz.f232 Tryz.func232 (by kernel_rfl) (by kernel_rfl) cap V
 go_enter Tryz.func231,Tryz.ntmps231
 go_upto_region 1 with fail
 generalize w.alloc (.cells #[.pointer (some ⟨g,0,none⟩)] 174)=W0 at hA hb H ⊢
 obtain ⟨p0,hp0⟩:∃ p,p=w.heap.size:=⟨_,rfl⟩
 rw [← hp0] at hA ⊢
 have HA:=Hj (Aj hA (Aj hb hp0))
 clear hA hb hp0
 go_upto_region 3 with fail
 go_loopw [7,9] (fun v i Z=>∃ (m:Nat) (l:List En) (st:Option Nat),m≤n∧i=.int .i64 m∧RLE W0 Z g k xs c res (n - m) l st v) (fun _ i _=>(n - intOf i).toNat)
 case atStart=>exact ⟨0,[],st0,Nat.zero_le _,by go_num,⟨H.out.1,H.out.2,W.Only.refl _ _ _,World.ownsRow_nil _ _ _ _,fun _=>rfl,fun _ _=>Nat.zero_le _,fun x hx=>by cases hx⟩⟩
 case round =>
  obtain ⟨m,l,st,hm,rfl,hT⟩:=hrel
  have hpg:p0≠g:=by rw [HA.out.2.2];have:=HLT.out;omega
  have hl0:=hT.only.lies HA.out.1 hpg
  by_cases hlt:m < n
  · have q0:(m:Int) < (n:Int):=by omega
    have q1:(m:Int)+1≤9223372036854775807:=by omega
    have q2:(0:Int)≤(m:Int):=by omega
    have c0:=hl0.cell 0 (v:=.pointer (some ⟨g,0,none⟩)) rfl
    have hC:=getterEntry_any wr g k xs c st hT.rd HX.out
    obtain ⟨ed,hed⟩:∃ d,d=entD xs st:=⟨_,rfl⟩
    rw [← hed] at hC
    have HC:=Hj hC
    have hne:(n - m)=(n - (m+1))+1:=by omega
    have HT:=Hj (Aj hT (Aj hed (Aj hpg (Aj hm (Aj hlt hl0)))))
    have HNE:=Hj hne
    clear hT hed hpg hm hlt hC hl0 hne
    go_wp2_with (at_builtin;fail)
    refine HC.out.mono ?_
    rintro e W2 ⟨ho2,hcase⟩
    rcases hcase with ⟨x,st1,rfl,hx32,hin,hr2,hd⟩ | ⟨⟨mm,rfl⟩,hd,st1,hr2⟩
    case inr =>
     have HF:=Hj (Aj ((W.only_below HA.out.2.1).trans0 (HT.out.1.only.trans0 ho2)) (Aj hd hr2))
     clear ho2 hd hr2 HC c0
     go_wp2_with (at_builtin;fail)
     refine ⟨rfl,HF.out.1,.inr ⟨⟨mm,rfl⟩,?_,st1,HF.out.2.2⟩⟩
     rw [HT.out.1.res,HNE.out]
     simp only [rowE]
     rw [← HT.out.2.1,HF.out.2.1]
    obtain ⟨cs,hcs⟩:∃ y,y=enC x:=⟨_,rfl⟩
    have has:cs.size=102:=by rw [hcs,enC,Array.size_append,refC_size _ hx32.1,otC_size _ hin.1 hin.2.1]
    have hsl:=fun W=>HSL.out W cs has
    have hone:cs.all (·.oneCell')=true:=by rw [hcs];exact enG_one x.r x.o
    rw [← hcs]
    have hX:=W.own_only HT.out.1.own ho2 (fun e=>by have:=(W.own_block HT.out.1.own _ e).1;have:=HA.out.2.1.size;have:=HLT.out;omega) (fun _ _=>by simp)
    have hb3:Below W2.heap.size W2 (W2.alloc (.cells cs 81)):=(Below.refl _ _).alloc (Nat.le_refl _) _
    have hL3:=Lies.new W2 cs 81
    have hX3:=ownsRow_below hX hb3
    have hr3:=hr2.below hb3
    have ho3:=(HT.out.1.only.trans0 ho2).trans0 (W.only_below hb3)
    have hl3:=(ho2.lies HT.out.2.2.2.2.2 HT.out.2.2.1).below hb3 (ho2.lies HT.out.2.2.2.2.2 HT.out.2.2.1).lt
    have hlen:l.length+1≤1000000:=by
     have:=HX.out
     cases hst:st with
     | none=>rw [HT.out.1.none hst];simp
     | some a =>
       have h1:=HT.out.1.some a hst
       have h2:=HT.out.1.rd
       rw [hst] at h2
       have:=h2.1
       omega
    have hea:∀ z ∈ l ++ [x],EnMem (W2.alloc (.cells cs 81)) W0.heap.size z∧EnFar u7 z:=fun z hz=>by
     rcases List.mem_append.1 hz with h1 | h1
     · have:=HT.out.1.each z h1
       exact ⟨⟨this.1.1,(this.1.2.only ho2 (by have:=HA.out.2.1.size;have:=HLT.out;omega)).below hb3⟩,this.2⟩
     · rw [List.mem_singleton] at h1
       rw [h1]
       refine ⟨⟨hx32,(hin.weak HT.out.1.only.size).below hb3⟩,fun j hj => ?_⟩
       have hjl:=(W.own_block HT.out.1.own j hj).2
       exact ⟨fun e=>by have:=(hin.blk.1 j e).1;omega,fun e=>by have:=(hin.blk.2 j e).1;omega⟩
    have H3:=Hj (Aj hX3 (Aj (show Lies (W2.alloc (.cells cs 81)) W2.heap.size (enC x) 81 by rw [← hcs];exact hL3) (Aj hr3 (Aj ho3 (Aj hl3 (Aj hlen (Aj (W.own_block hX) (Aj hd (Aj hea (Aj (show (enC x).size=102 by rw [← hcs];exact has) (show (enC x).all (·.oneCell')=true by rw [← hcs];exact hone)))))))))))
    clear hX hb3 hL3 hX3 hr3 ho3 hl3 hlen hr2 ho2 c0 hd hea hin has hone hcs hx32
    go_upto_region 5 with (first
     | (at_builtin;go_must (refine wpList_append_F enC 102 176 38 81 Tryz.underlying38 infoEn (by decide) (by decide) rfl _ _ rfl W0.heap.size W2.heap.size u7 l x rfl H3.out.1 rfl H3.out.2.1 H3.out.2.2.2.2.2.2.2.2.2.1 H3.out.2.2.2.2.2.2.2.2.2.2 H3.out.2.2.2.2.2.1 H3.out.2.2.2.1.size ?_;intro v' W7 hown7 hgrow7 hat7;have HO7:=Hj (Aj hown7 (Aj hgrow7 hat7));clear hown7 hgrow7 hat7)))
    have hl7:=T.grown_lies HO7.out.2.1 H3.out.2.2.2.2.1 (fun e=>by have:=(H3.out.2.2.2.2.2.2.1 _ e.symm).1;have:=HA.out.1.lt;omega)
    have hr7:=rd_grown H3.out.2.2.1 HO7.out.2.1 (fun e=>by have:=(H3.out.2.2.2.2.2.2.1 _ e).1;have:=HA.out.2.1.size;have:=HLT.out;omega) (fun e=>by have:=(H3.out.2.2.2.2.2.2.1 _ e).1;have:=HA.out.2.1.size;have:=HLT.out;omega)
    have ho7:=grown_on0 H3.out.2.2.2.1 HO7.out.2.1 (fun j e=>(H3.out.2.2.2.2.2.2.1 _ e).1)
    have he7:∀ z ∈ l ++ [x],EnMem W7 W0.heap.size z∧EnFar v' z:=fun z hz=>by
     have h1:=H3.out.2.2.2.2.2.2.2.2.1 z hz
     refine ⟨⟨h1.1.1,h1.1.2.grown HO7.out.2.1 h1.2⟩,fun j hj => ?_⟩
     rcases HO7.out.2.2 with e | e
     · exact h1.2 j (by rw [← e];exact hj)
     · have hje:=Option.some.inj (e.symm.trans hj)
       exact ⟨fun e2=>by have:=(h1.1.2.blk.1 j e2).2;omega,fun e2=>by have:=(h1.1.2.blk.2 j e2).2;omega⟩
    obtain ⟨y,hy⟩:∃ y,y=st1.isSome:=⟨_,rfl⟩
    have hS:=sound_any W7 g k xs c st1 hr7
    rw [← hy] at hS
    have HS:=Hj hS
    have c0:=hl7.cell 0 (v:=.pointer (some ⟨g,0,none⟩)) rfl
    have H7:=Hj (Aj hr7 (Aj ho7 (Aj hy (Aj he7 HO7.out.1))))
    clear hl7 hr7 ho7 hS hy he7
    go_wp2_with (at_builtin;fail)
    refine HS.out.mono ?_
    rintro e W8 ⟨rfl,hb8⟩
    have H8:=Hj hb8
    have hsb:=fun W=>run_bool1 W y
    clear hb8 c0
    go_wp2_with (at_builtin;fail)
    refine (must1 _ _).mono ?_
    rintro e W9 ⟨hm,hb9⟩
    have hb:=H8.out.trans (hb9.mono H8.out.size)
    have h1:=H7.out.1.below hb
    have h2:=H7.out.2.1.trans0 (W.only_below hb)
    have h3:=ownsRow_below H7.out.2.2.2.2 hb
    have h4:∀ z ∈ l ++ [x],EnMem W9 W0.heap.size z∧EnFar v' z:=fun z hz=>⟨⟨(H7.out.2.2.2.1 z hz).1.1,(H7.out.2.2.2.1 z hz).1.2.below hb⟩,(H7.out.2.2.2.1 z hz).2⟩
    have H9:=Hj (Aj h1 (Aj h2 (Aj h3 h4)))
    clear hb hb9 h1 h2 h3 h4
    rcases hm with ⟨rfl,rfl⟩ | ⟨rfl,mm,rfl⟩
    · go_wp2_with (at_builtin;fail)
      go_roundw
      case rel =>
       have hsm:st1.isSome=true:=H7.out.2.2.1.symm
       obtain ⟨p,hp⟩:=Option.isSome_iff_exists.1 hsm
       have hde:=H3.out.2.2.2.2.2.2.2.1
       rw [hp] at hde
       have hde:ed=some (enV x,p):=hde
       refine ⟨m+1,l ++ [x],st1,HT.out.2.2.2.2.1,by go_num,?_,H9.out.1,H9.out.2.1,H9.out.2.2.1,fun e => ?_,fun a e => ?_,H9.out.2.2.2⟩
       · rw [HT.out.1.res,HNE.out]
         simp only [rowE]
         rw [← HT.out.2.1,hde,List.map_append,hp]
         rfl
       · rw [e] at hsm;cases hsm
       · rw [hp] at e
         obtain rfl:=Option.some.inj e
         obtain ⟨d,hd,hle⟩:=entD_some (HT.out.2.1.symm.trans hde)
         have:=HT.out.1.some d hd
         rw [List.length_append,List.length_singleton]
         omega
      case measure =>
       have:=HT.out.2.2.2.2.1
       simp [intOf]
       omega
    · go_wp2_with (at_builtin;fail)
      refine ⟨rfl,(W.only_below HA.out.2.1).trans0 H9.out.2.1,.inr ⟨⟨mm,rfl⟩,?_,st1,H9.out.1⟩⟩
      rw [HT.out.1.res,HNE.out]
      simp only [rowE]
      have hno:st1=none:=by
       cases hst:st1 with
       | none=>rfl
       | some a =>
         have:=H7.out.2.2.1
         rw [hst] at this
         cases this
      have hde:=H3.out.2.2.2.2.2.2.2.1
      rw [hno] at hde
      have hde:ed=none:=hde
      rw [← HT.out.2.1,hde]
  · have q0:¬ (m:Int) < (n:Int):=by omega
    have HT:=Hj (Aj hT (show n - m=0 by omega))
    clear hT hl0 hpg hlt hm
    go_wp2_with (at_builtin;fail)
    go_ret
    refine ⟨(W.only_below HA.out.2.1).trans0 HT.out.1.only,.inl ⟨l,_,st,rfl,ownsRow_weak HT.out.1.own HA.out.2.1.size,fun z hz=>⟨⟨(HT.out.1.each z hz).1.1,(HT.out.1.each z hz).1.2.weak HA.out.2.1.size⟩,(HT.out.1.each z hz).2⟩,HT.out.1.rd,?_⟩⟩
    have h1:=HT.out.1.res
    rw [HT.out.2] at h1
    exact h1
end Go.Proofs.YtilbbemdinpjcaaGreat.P
namespace Go.Proofs.YtilbbemdinpjcaaGreat.P
set_option maxRecDepth 100000
open Go.RowKit Go.Sort
def entriesD (xs:List UInt8) (st:Option Nat):Option (List (Rf × OutV) × Option Nat):=rowE xs (W.numV xs st 4) [] (W.numS xs st 4)
theorem entsG_forms {f:FuncId} {args:Array Value} {V w:World} {g k:Nat} {xs:List UInt8} {c:Nat} {o:Option (List (Rf × OutV) × Option Nat)} (h:Calls Tryz.prog f args V (EntsG g k xs c w o)) :
  Calls Tryz.prog f args V fun e w'=>(∃ v,e=.returned v∧(W.Only g w w' none∧∃ l st,w'.ownsRow w.heap.size 81 102 v l.length (cellsF enC l)∧(∀ x ∈ l,EnMem w' w.heap.size x∧EnFar v x)∧W.RSt w' g k xs c st∧o=some (l.map enV,st))) ∨ (∃ ch,e=.panicked ch∧(W.Only g w w' none∧Fault (.panicked ch)∧o=none∧∃ st,W.RSt w' g k xs c st)) :=
 h.mono fun e w' hr=>by
  rcases hr with ⟨h1,⟨l,v,st,rfl,h2,h5,h3,h4⟩ | ⟨⟨n,rfl⟩,h2,h3⟩⟩
  ·
   exact .inl ⟨v,rfl,h1,l,st,h2,h5,h3,h4⟩
  ·
   exact .inr ⟨_,rfl,h1,⟨n,rfl⟩,h2,h3⟩
theorem getterEntries_any (w:World) (g k:Nat) (xs:List UInt8) (c:Nat) (st:Option Nat) (h:W.RSt w g k xs c st) (hx:xs.length < 1000000) :
  Calls Tryz.prog 158 #[.agg #[.pointer (some ⟨g,0,none⟩)]] w (EntsG g k xs c w (entriesD xs st)):=by
 obtain ⟨res,hres⟩:∃ r,r=entriesD xs st:=⟨_,rfl⟩
 rw [← hres]
 obtain ⟨hA,hb⟩:=box_one w (.pointer (some ⟨g,0,none⟩)) 174
 obtain ⟨n,hn⟩:∃ n:Nat,n=W.numV xs st 4:=⟨_,rfl⟩
 obtain ⟨s1,hs1⟩:∃ s,s=W.numS xs st 4:=⟨_,rfl⟩
 have HN:=Hj (Aj hn hs1)
 have HLT:=Hj h.lt
 have H:=Hj (Aj hres (Aj (h.below hb) (Aj hx (show n < 9223372036854775808 by have:=numV_four xs st;omega))))
 clear h hres hx hn hs1
 go_enter Tryz.func158,Tryz.ntmps158
 go_upto_region 1 with fail
 generalize w.alloc (.cells #[.pointer (some ⟨g,0,none⟩)] 174)=W0 at hA hb H ⊢
 obtain ⟨p,hp⟩:∃ p,p=w.heap.size:=⟨_,rfl⟩
 rw [← hp] at hA ⊢
 have hpg:p≠g:=by have:=HLT.out;omega
 have HB:=Hj (Aj hA (Aj hb (Aj hp hpg)))
 clear hA hb hp hpg
 refine wp_region_held (S:=fun V=>V.cell? ⟨p,0,none⟩=some (.pointer (some ⟨g,0,none⟩))) (by kernel_rfl) ?_
 change wpAnyH _ _ _ _ _ 6 _ _ (World.drew W0)
 have hcur:(World.drew W0).cell? ⟨p,0,none⟩=some (.pointer (some ⟨g,0,none⟩)):=HB.out.1.cell 0 rfl
 have hd:Below W0.heap.size W0 W0.drew:=(Below.refl _ _).drew
 have hr0:=H.out.2.1.below hd
 have ho0:W.Only g W0 W0.drew none:=W.only_below hd
 refine tk 0 (.agg #[.pointer (some ⟨g,0,none⟩)]) 3 rfl rfl hcur ?_ (by intro w' hS';unfold execOp;simp [go_sem,hS'])
 refine tk 1 (.pointer (some ⟨p,0,none⟩)) 4 rfl rfl hcur ?_
 refine tk 2 (.pointer (some ⟨g,0,none⟩)) 5 rfl rfl hcur ?_ (by intro w' hS';unfold execOp;simp [go_sem,hS'])
 generalize W0.drew=U0 at hcur hr0 ho0 ⊢
 clear hd
 refine held_one (i:=3) (by kernel_rfl) _ rfl (wpOp_callG rfl (by rfl) 6 rfl 224 #[.pointer (some ⟨g,0,none⟩)] (by unfold execOp;simp [go_sem]) (fun v w'=>v=.int .i64 (n:Int)∧W.RSt w' g k xs c s1∧W.Only g U0 w' none) ((W.ask54_st U0 g k xs c st hr0).mono fun e w' k=>⟨_,k.1,by rw [HN.out.1],by rw [HN.out.2];exact k.2.1,k.2.2⟩) ?_)
 rintro _ U1 ⟨rfl,hr1,hn⟩
 have hcur:=(onlyCell hn (Nat.lt_of_lt_of_le HB.out.1.lt ho0.size) HB.out.2.2.2).trans hcur
 have ho1:=ho0.trans0 hn
 refine ⟨hcur,?_⟩
 simp only [Sj]
 clear hn hr0 ho0
 have hfin:∀ o,o=rowE xs n [] s1→res=o:=fun o e=>by rw [e,H.out.1,HN.out.1,HN.out.2];rfl
 refine held_one (i:=4) (by kernel_rfl) _ rfl (wpOp_callP rfl (by rfl) 7 rfl 231 #[.agg #[.pointer (some ⟨g,0,none⟩)],.int .i64 (n:Int),.func (Fn.func 232) #[] #[]] (by unfold execOp;simp [go_sem]) _ _ (entsG_forms (rowEntry_any U1 g k xs c s1 n hr1 H.out.2.2.1 H.out.2.2.2)) ?_ ?_)
 ·
  rintro v U2 ⟨hn,l,s2,hown,hea,hr2,hres⟩
  have hcur:=(onlyCell hn (Nat.lt_of_lt_of_le HB.out.1.lt ho1.size) HB.out.2.2.2).trans hcur
  have ho2:=ho1.trans0 hn
  have HF:=Hj (Aj (ownsRow_weak hown (Nat.le_trans HB.out.2.1.size ho1.size)) (Aj hr2 (Aj ((W.only_below HB.out.2.1).trans0 ho2) (Aj (hfin _ hres.symm) (show ∀ x ∈ l,EnMem U2 w.heap.size x∧EnFar v x from fun x hx=>⟨⟨(hea x hx).1.1,(hea x hx).1.2.weak (Nat.le_trans HB.out.2.1.size ho1.size)⟩,(hea x hx).2⟩)))))
  refine ⟨hcur,?_⟩
  simp only [Sj]
  refine tk 5 v 2 rfl rfl hcur ?_
  refine held_done (by kernel_rfl) ?_
  clear hn hr1 ho1 ho2 hown hr2 hcur hres hfin hea
  go_wp2_with fail
  go_ret
  exact ⟨HF.out.2.2.1,.inl ⟨l,v,s2,rfl,HF.out.1,HF.out.2.2.2.2,HF.out.2.1,HF.out.2.2.2.1⟩⟩
 ·
  rintro ch U2 ⟨hn,hf,hres,s2,hr2⟩
  have ho2:=(W.only_below HB.out.2.1).trans0 (ho1.trans0 hn)
  show bodyPost Tryz.prog Tryz.f158 _ (Exit.panic _) _ _
  exact ⟨rfl,ho2,.inr ⟨hf,hfin _ hres.symm,s2,hr2⟩⟩
end Go.Proofs.YtilbbemdinpjcaaGreat.P
namespace Go.Proofs.YtilbbemdinpjcaaGreat.P
set_option maxRecDepth 100000
open Go.RowKit Go.Sort
structure DfV where
 s:List (Rf × OutV)
 m:List (Rf × OutV)
 fe:Int
 fo:Int
 l:List To
def diV (d:Df):DfV:=⟨d.s.map enV,d.m.map enV,d.fe,d.fo,d.l⟩
def i64V (xs:List UInt8) (st:Option Nat):Int:=IntKind.i64.wrap (W.numV xs st 8)
def diffD (xs:List UInt8) (st:Option Nat):Option (DfV × Option Nat):=match entriesD xs st with
 | none=>none
 | some (s,s1)=>match entriesD xs s1 with
   | none=>none
   | some (m,s2)=>match totalsD xs (W.numS xs (W.numS xs s2 8) 8) with
     | none=>none
     | some (l,s3)=>some (⟨s,m,i64V xs s2,i64V xs (W.numS xs s2 8),l⟩,s3)
theorem own_form {w:World} {B:Nat} {ty:TypeId} {sz n:Nat} {v:Value} {l:List Value} (h:w.ownsRow B ty sz v n l):∃ a cp,v=.slice a n cp∧n≤cp∧n≤maxLen:=by
 rcases h.2 with ⟨h1,h2⟩ | ⟨g,cap,cur,h1,_,_,h4,h5,_⟩
 ·
  exact ⟨none,0,by rw [h1,h2],by omega,by rw [h2];exact Nat.zero_le _⟩
 ·
  exact ⟨_,cap,h1,h4,Nat.le_trans h4 h5⟩
theorem EnMem.only {V V':World} {g B:Nat} {e:En} (h:EnMem V B e) (ho:W.Only g V V' none) (hg:g < B):EnMem V' B e:=⟨h.1,h.2.only ho hg⟩
theorem EnMem.below {V V':World} {B:Nat} {e:En} (h:EnMem V B e) (hb:Below V.heap.size V V'):EnMem V' B e:=⟨h.1,h.2.below hb⟩
theorem EnMem.weak {V:World} {B B':Nat} {e:En} (h:EnMem V B e) (hb:B'≤B):EnMem V B' e:=⟨h.1,h.2.weak hb⟩
theorem EnMem.row {V:World} {B q:Nat} {e:En} (h:EnMem V B e) (hq:q < B) (cs:Array Value):EnMem (V.setRow q cs) B e:=⟨h.1,h.2.row hq cs⟩
def OwnEs (V:World) (B:Nat) (v:Value) (l:List En):Prop:=V.ownsRow B 81 102 v l.length (cellsF enC l)∧∀ x ∈ l,EnMem V B x∧EnFar v x
theorem OwnEs.only {V V':World} {g B:Nat} {v:Value} {l:List En} (h:OwnEs V B v l) (ho:W.Only g V V' none) (hg:g < B):OwnEs V' B v l :=
 ⟨W.own_only h.1 ho (fun e=>by have:=(W.own_block h.1 _ e).1;omega) (fun _ _=>by simp),fun x hx=>⟨(h.2 x hx).1.only ho hg,(h.2 x hx).2⟩⟩
theorem OwnEs.below {V V':World} {B:Nat} {v:Value} {l:List En} (h:OwnEs V B v l) (hb:Below V.heap.size V V'):OwnEs V' B v l :=
 ⟨ownsRow_below h.1 hb,fun x hx=>⟨(h.2 x hx).1.below hb,(h.2 x hx).2⟩⟩
theorem OwnEs.weak {V:World} {B B':Nat} {v:Value} {l:List En} (h:OwnEs V B v l) (hb:B'≤B):OwnEs V B' v l :=
 ⟨ownsRow_weak h.1 hb,fun x hx=>⟨(h.2 x hx).1.weak hb,(h.2 x hx).2⟩⟩
theorem OwnEs.row {V:World} {B q:Nat} {v:Value} {l:List En} (h:OwnEs V B v l) (hq:q < B) (cs:Array Value):OwnEs (V.setRow q cs) B v l :=
 ⟨own_row h.1 hq cs,fun x hx=>⟨(h.2 x hx).1.row hq cs,(h.2 x hx).2⟩⟩
theorem OwnEs.rowE {V:World} {B:Nat} {v:Value} {l:List En} (h:OwnEs V B v l):∃ a cp,v=.slice a l.length cp∧l.length≤cp∧RowE V a l:=by
 obtain ⟨a0,cp0,_,_,hml⟩:=own_form h.1
 rcases own_at enC 102 (fun a ha=>by unfold enC;rw [Array.size_append,refC_size _ (h.2 a ha).1.1.1,otC_size _ (h.2 a ha).1.2.1 (h.2 a ha).1.2.2.1]) h.1 with ⟨h1,rfl⟩ | ⟨g,cap,h1,h2,h3,h4,h5,_⟩
 ·
  exact ⟨none,0,h1,Nat.le_refl _,hml,fun h0=>absurd h0 (by simp)⟩
 ·
  refine ⟨_,cap,h1,h4,hml,fun _=>⟨g,0,rfl,h3,fun i e he=>⟨h5 i e he,?_,?_⟩⟩⟩
  ·
   exact (h.2 e (List.mem_of_getElem? he)).1.1
  ·
   exact (h.2 e (List.mem_of_getElem? he)).1.2.ok
def DfIn (V:World) (B:Nat) (d:Df):Prop:=OwnEs V B (.slice d.ps d.s.length d.cs) d.s∧OwnEs V B (.slice d.pm d.m.length d.cm) d.m∧OwnTo V B (.slice d.pt d.l.length d.ct) d.l∧I64 d.fe∧I64 d.fo∧(∀ a ∈ d.l,ToOk a)∧d.l.length≤maxLen
def DiG (g k:Nat) (xs:List UInt8) (c:Nat) (w:World) (o:Option (DfV × Option Nat)) (e:Ending) (w':World):Prop :=
 W.Only g w w' none∧((∃ d st,e=.returned (.agg (dfC d))∧DfIn w' w.heap.size d∧W.RSt w' g k xs c st∧o=some (diV d,st)) ∨ (Fault e∧o=none∧∃ st,W.RSt w' g k xs c st))
theorem i64V_in (xs:List UInt8) (st:Option Nat):I64 (i64V xs st):=by
 unfold I64 i64V
 rw [IntKind.wrap_i64]
 omega
theorem diffD_no1 {xs:List UInt8} {st:Option Nat} (h:entriesD xs st=none):diffD xs st=none:=by unfold diffD;rw [h]
theorem diffD_no2 {xs:List UInt8} {st s1:Option Nat} {s:List (Rf × OutV)} (h:entriesD xs st=some (s,s1)) (h2:entriesD xs s1=none):diffD xs st=none:=by unfold diffD;rw [h];simp only;rw [h2]
theorem diffD_no3 {xs:List UInt8} {st s1 s2:Option Nat} {s m:List (Rf × OutV)} (h:entriesD xs st=some (s,s1)) (h2:entriesD xs s1=some (m,s2)) (h3:totalsD xs (W.numS xs (W.numS xs s2 8) 8)=none):diffD xs st=none:=by unfold diffD;rw [h];simp only;rw [h2];simp only;rw [h3]
theorem diffD_yes {xs:List UInt8} {st s1 s2 s3:Option Nat} {s m:List (Rf × OutV)} {l:List To} (h:entriesD xs st=some (s,s1)) (h2:entriesD xs s1=some (m,s2)) (h3:totalsD xs (W.numS xs (W.numS xs s2 8) 8)=some (l,s3)):diffD xs st=some (⟨s,m,i64V xs s2,i64V xs (W.numS xs s2 8),l⟩,s3):=by unfold diffD;rw [h];simp only;rw [h2];simp only;rw [h3]
theorem getterDiff_any (w:World) (g k:Nat) (xs:List UInt8) (c:Nat) (st:Option Nat) (h:W.RSt w g k xs c st) (hx:xs.length < 1000000) :
  Calls Tryz.prog 160 #[.agg #[.pointer (some ⟨g,0,none⟩)]] w (DiG g k xs c w (diffD xs st)):=by
 obtain ⟨res,hres⟩:∃ r,r=diffD xs st:=⟨_,rfl⟩
 rw [← hres]
 obtain ⟨b1,b2,b3,b4⟩:=box_two w #[.pointer (some ⟨g,0,none⟩)] (#[.slice none 0 0,.slice none 0 0,.int .i64 0,.int .i64 0,.slice none 0 0]:Array Value) 174 40
 have HLT:=Hj h.lt
 have H:=Hj (Aj hres (Aj h hx))
 clear h hres hx
 obtain ⟨W0,HW⟩:∃ W0,(w.alloc (.cells #[.pointer (some ⟨g,0,none⟩)] 174)).alloc (.cells (#[.slice none 0 0,.slice none 0 0,.int .i64 0,.int .i64 0,.slice none 0 0]:Array Value) 40)=W0:=⟨_,rfl⟩
 go_enter Tryz.func160,Tryz.ntmps160
 go_upto_region 1 with fail
 rw [HW] at b1 b2 b3 b4
 clear HW
 obtain ⟨p,hp⟩:∃ p,p=w.heap.size:=⟨_,rfl⟩
 obtain ⟨q,hq⟩:∃ q,q=w.heap.size+1:=⟨_,rfl⟩
 rw [← hq] at b2 ⊢
 rw [← hp] at b1 ⊢
 have hpg:p≠g:=by have:=HLT.out;omega
 have hqg:q≠g:=by have:=HLT.out;omega
 have HB:=Hj (Aj b1 (Aj b2 (Aj b3 (Aj hp (Aj hq (Aj hpg (Aj hqg b4)))))))
 clear b1 b2 b3 b4 hp hq hpg hqg
 refine wp_region_held (S:=fun V=>V.cell? ⟨p,0,none⟩=some (.pointer (some ⟨g,0,none⟩))) (by kernel_rfl) ?_
 change wpAnyH _ _ _ _ _ 14 _ _ (World.drew W0)
 have hd:Below W0.heap.size W0 W0.drew:=(Below.refl _ _).drew
 have hS0:OS W0 W0.drew g k xs c p st:=⟨HB.out.1.cell 0 rfl,H.out.2.1.below (HB.out.2.2.1.trans (hd.mono HB.out.2.2.1.size)),W.only_below hd⟩
 refine tk 0 (.agg #[.pointer (some ⟨g,0,none⟩)]) 3 rfl rfl hS0.cur ?_ (by intro w' hS';unfold execOp;simp [go_sem,hS'])
 refine tk 2 (.agg #[.pointer (some ⟨g,0,none⟩)]) 5 rfl rfl hS0.cur ?_ (by intro w' hS';unfold execOp;simp [go_sem,hS'])
 refine tk 4 (.pointer (some ⟨p,0,none⟩)) 7 rfl rfl hS0.cur ?_
 refine tk 5 (.pointer (some ⟨g,0,none⟩)) 8 rfl rfl hS0.cur ?_ (by intro w' hS';unfold execOp;simp [go_sem,hS'])
 refine tk 7 (.pointer (some ⟨p,0,none⟩)) 10 rfl rfl hS0.cur ?_
 refine tk 8 (.pointer (some ⟨g,0,none⟩)) 11 rfl rfl hS0.cur ?_ (by intro w' hS';unfold execOp;simp [go_sem,hS'])
 refine tk 10 (.agg #[.pointer (some ⟨g,0,none⟩)]) 13 rfl rfl hS0.cur ?_ (by intro w' hS';unfold execOp;simp [go_sem,hS'])
 clear hd
 generalize W0.drew=U0 at hS0 ⊢
 have hpl:=HB.out.1.lt
 have hgl:g < W0.heap.size:=by have:=HLT.out;have:=HB.out.2.2.1.size;omega
 refine held_one (i:=1) (by kernel_rfl) _ rfl (wpOp_callP rfl (by rfl) 4 rfl 158 #[.agg #[.pointer (some ⟨g,0,none⟩)]] (by unfold execOp;simp [go_sem]) _ _ (entsG_forms (getterEntries_any U0 g k xs c st hS0.rd H.out.2.2)) ?_ ?_)
 rotate_left
 ·
  rintro ch U2 ⟨hn,hf,hres,s2,hr2⟩
  show bodyPost Tryz.prog Tryz.f160 _ (Exit.panic _) _ _
  exact ⟨rfl,(W.only_below HB.out.2.2.1).trans0 (hS0.on.trans0 hn),.inr ⟨hf,by rw [H.out.1];exact diffD_no1 hres,s2,hr2⟩⟩
 rintro _ U1 ⟨hn,l1,s1,hown1,hea1,hr1,hres1⟩
 obtain ⟨a1,c1,rfl,hc1,_⟩:=own_form hown1
 have hS1:=hS0.step hpl HB.out.2.2.2.2.2.1 hn hr1
 have hE1:OwnEs U1 W0.heap.size (.slice a1 l1.length c1) l1:=OwnEs.weak ⟨hown1,hea1⟩ hS0.on.size
 refine ⟨hS1.cur,?_⟩
 simp only [Sj]
 clear hn hr1 hS0 hown1 hea1
 refine held_one (i:=3) (by kernel_rfl) _ rfl (wpOp_callP rfl (by rfl) 6 rfl 158 #[.agg #[.pointer (some ⟨g,0,none⟩)]] (by unfold execOp;simp [go_sem]) _ _ (entsG_forms (getterEntries_any U1 g k xs c s1 hS1.rd H.out.2.2)) ?_ ?_)
 rotate_left
 ·
  rintro ch U2 ⟨hn,hf,hres,s2,hr2⟩
  show bodyPost Tryz.prog Tryz.f160 _ (Exit.panic _) _ _
  exact ⟨rfl,(W.only_below HB.out.2.2.1).trans0 (hS1.on.trans0 hn),.inr ⟨hf,by rw [H.out.1];exact diffD_no2 hres1 hres,s2,hr2⟩⟩
 rintro _ U2 ⟨hn,l2,s2,hown2,hea2,hr2,hres2⟩
 obtain ⟨a2,c2,rfl,hc2,_⟩:=own_form hown2
 have hS2:=hS1.step hpl HB.out.2.2.2.2.2.1 hn hr2
 have hE2:OwnEs U2 W0.heap.size (.slice a2 l2.length c2) l2:=OwnEs.weak ⟨hown2,hea2⟩ hS1.on.size
 have hE1:=hE1.only hn hgl
 refine ⟨hS2.cur,?_⟩
 simp only [Sj]
 clear hn hr2 hS1 hown2 hea2
 obtain ⟨fe,hfe⟩:∃ x:Int,x=i64V xs s2:=⟨_,rfl⟩
 obtain ⟨s3,hs3⟩:∃ s,s=W.numS xs s2 8:=⟨_,rfl⟩
 refine held_one (i:=6) (by kernel_rfl) _ rfl (wpOp_callG rfl (by rfl) 9 rfl 221 #[.pointer (some ⟨g,0,none⟩)] (by unfold execOp;simp [go_sem]) (fun v w'=>v=.int .i64 fe∧W.RSt w' g k xs c s3∧W.Only g U2 w' none) ((W.ask56_st U2 g k xs c s2 hS2.rd).mono fun e w' k=>⟨_,k.1,by rw [hfe];rfl,by rw [hs3];exact k.2.1,k.2.2⟩) ?_)
 rintro _ U3 ⟨rfl,hr3,hn⟩
 have hS3:=hS2.step hpl HB.out.2.2.2.2.2.1 hn hr3
 have hE1:=hE1.only hn hgl
 have hE2:=hE2.only hn hgl
 refine ⟨hS3.cur,?_⟩
 simp only [Sj]
 clear hn hr3 hS2
 obtain ⟨fo,hfo⟩:∃ x:Int,x=i64V xs s3:=⟨_,rfl⟩
 obtain ⟨s4,hs4⟩:∃ s,s=W.numS xs s3 8:=⟨_,rfl⟩
 refine held_one (i:=9) (by kernel_rfl) _ rfl (wpOp_callG rfl (by rfl) 12 rfl 221 #[.pointer (some ⟨g,0,none⟩)] (by unfold execOp;simp [go_sem]) (fun v w'=>v=.int .i64 fo∧W.RSt w' g k xs c s4∧W.Only g U3 w' none) ((W.ask56_st U3 g k xs c s3 hS3.rd).mono fun e w' k=>⟨_,k.1,by rw [hfo];rfl,by rw [hs4];exact k.2.1,k.2.2⟩) ?_)
 rintro _ U4 ⟨rfl,hr4,hn⟩
 have hS4:=hS3.step hpl HB.out.2.2.2.2.2.1 hn hr4
 have hE1:=hE1.only hn hgl
 have hE2:=hE2.only hn hgl
 refine ⟨hS4.cur,?_⟩
 simp only [Sj]
 clear hn hr4 hS3
 have hs34:W.numS xs (W.numS xs s2 8) 8=s4:=by rw [hs4,hs3]
 refine held_one (i:=11) (by kernel_rfl) _ rfl (wpOp_callP rfl (by rfl) 14 rfl 152 #[.agg #[.pointer (some ⟨g,0,none⟩)]] (by unfold execOp;simp [go_sem]) _ _ (rowG_forms (getterTotals_any U4 g k xs c s4 hS4.rd H.out.2.2)) ?_ ?_)
 rotate_left
 ·
  rintro ch U5 ⟨hn,hf,hres,s5,hr5⟩
  show bodyPost Tryz.prog Tryz.f160 _ (Exit.panic _) _ _
  exact ⟨rfl,(W.only_below HB.out.2.2.1).trans0 (hS4.on.trans0 hn),.inr ⟨hf,by rw [H.out.1];exact diffD_no3 hres1 hres2 (by rw [hs34];exact hres),s5,hr5⟩⟩
 rintro _ U5 ⟨hn,l3,s5,hown3,hr5,hres3⟩
 obtain ⟨hl3,hok3⟩:=rowTotals_ok rfl l3 s5 hres3
 obtain ⟨a3,c3,rfl,_,_⟩:=own_form hown3
 have hS5:=hS4.step hpl HB.out.2.2.2.2.2.1 hn hr5
 have hT3:OwnTo U5 W0.heap.size (.slice a3 l3.length c3) l3:=ownsRow_weak hown3 hS4.on.size
 have hE1:=hE1.only hn hgl
 have hE2:=hE2.only hn hgl
 have hA2:=hS5.on.lies HB.out.2.1 HB.out.2.2.2.2.2.2.1
 refine ⟨hS5.cur,?_⟩
 simp only [Sj]
 have hyes:res=some (⟨l1.map enV,l2.map enV,fe,fo,l3⟩,s5):=by
  rw [H.out.1,hfe,hfo,hs3]
  exact diffD_yes hres1 hres2 (by rw [hs34];exact hres3)
 have hI1:I64 fe:=by rw [hfe];exact i64V_in _ _
 have hI2:I64 fo:=by rw [hfo];exact i64V_in _ _
 clear hn hr5 hS4 hown3 hfe hs3 hfo hs4 hs34 hres1 hres2 hres3 hc1 hc2
 obtain ⟨n1,hn1⟩:∃ n,n=l1.length:=⟨_,rfl⟩
 obtain ⟨n2,hn2⟩:∃ n,n=l2.length:=⟨_,rfl⟩
 obtain ⟨n3,hn3⟩:∃ n,n=l3.length:=⟨_,rfl⟩
 rw [← hn1,← hn2,← hn3]
 refine tk 12 (.agg #[.slice a1 n1 c1,.slice a2 n2 c2,.int .i64 fe,.int .i64 fo,.slice a3 n3 c3]) 15 rfl rfl hS5.cur ?_
 refine held_one (i:=13) (by kernel_rfl) _ rfl (wpOp_storeRow rfl rfl rfl 40 (.tmp 2) (.tmp 15) rfl q #[.slice a1 n1 c1,.slice a2 n2 c2,.int .i64 fe,.int .i64 fo,.slice a3 n3 c3] rfl rfl 40 _ hA2 (by kernel_rfl) rfl (by simp [Value.oneCell']) ?_)
 obtain ⟨cs,hcs⟩:∃ x:Array Value,x=#[.slice a1 n1 c1,.slice a2 n2 c2,.int .i64 fe,.int .i64 fo,.slice a3 n3 c3]:=⟨_,rfl⟩
 have hI:(Tryz.prog.info? 40).map (·.size)=some cs.size:=by rw [hcs];kernel_rfl
 rw [← hcs]
 refine ⟨by rw [show (U5.setRow q cs).cell? ⟨p,0,none⟩=U5.cell? ⟨p,0,none⟩ by simp only [World.cell?];rw [setRow_other _ _ _ _ (by have:=HB.out.2.2.2.1;have:=HB.out.2.2.2.2.1;omega)]];exact hS5.cur,?_⟩
 refine held_done (by kernel_rfl) ?_
 have hqk:q≠k:=by have:=HB.out.2.2.2.2.1;have:=HLT.out;omega
 have hqW:q < W0.heap.size:=HB.out.2.1.lt
 have hsz:=HB.out.2.2.1.size
 have HI:=Hj hI
 have HF:=Hj (Aj (hA2.setRow cs) (show DiG g k xs c w res (.returned (.agg cs)) (U5.setRow q cs) from ⟨W.only_row ((W.only_below HB.out.2.2.1).trans0 hS5.on) (k:=q) (by rw [HB.out.2.2.2.2.1];exact Nat.le_succ _) cs,.inl ⟨⟨a1,l1,c1,a2,l2,c2,fe,fo,a3,l3,c3⟩,s5,by rw [hcs,hn1,hn2,hn3];rfl,⟨(hE1.row hqW cs).weak hsz,(hE2.row hqW cs).weak hsz,ownsRow_weak (own_row hT3 hqW cs) hsz,hI1,hI2,hok3,hl3⟩,rst_row hS5.rd cs HB.out.2.2.2.2.2.2.1 hqk,hyes⟩⟩))
 clear hS5 hA2 hE1 hE2 hT3 hyes hI1 hI2 hl3 hok3 hn1 hn2 hn3 hI hqk hqW hsz hcs hpl hgl
 go_wp2_with fail
 exact bodyPost_ret (v:=.agg cs) (results_cell_row (p:=2) (ty:=40) (by kernel_rfl) _ _ q 40 cs (0,0) _ rfl HF.out.1 Tryz.underlying40 rfl HI.out) rfl HF.out.2
end Go.Proofs.YtilbbemdinpjcaaGreat.P
