/-
  A region whose order Go leaves open, by what holds whenever a set of its operations has come up; here: up to a call that is thrown.
  Text, not met.
  Text, whose bytes are not all there; Text, not met; Hash.
-/
import Derived.Test.YtilbbemdinpjcaaGreatJWRTzero
import Derived.RegionTactic
namespace Go.Proofs.YtilbbemdinpjcaaGreat.W
open Go.RowKit
section
variable {P:Program} {ops:Array Oper} {Q:Exit→Act→World→Prop} {md:Region.Mode}
theorem count_true (l:Array Bool) (i:Nat) (h:l.getD i true=false):(l.setIfInBounds i true).toList.count false+1=l.toList.count false:=by
 have hi:i < l.size:=by
  apply Decidable.byContradiction
  intro hn
  rw [Array.getD_eq_getD_getElem?,Array.getElem?_eq_none (by omega)] at h
  cases h
 have hv:l.toList[i]'(by simpa using hi)=false:=by
  rw [Array.getD_eq_getD_getElem?,Array.getElem?_eq_getElem hi] at h
  simpa using h
 rw [Array.toList_setIfInBounds,List.count_set (by simpa using hi),hv]
 have hm:false ∈ l.toList:=by rw [← hv];exact List.getElem_mem _
 have hp:0 < l.toList.count false:=List.count_pos_iff.2 hm
 generalize l.toList.count false=c at hp ⊢
 have e:(if (true == false)=true then 1 else 0:Nat)=0:=rfl
 have e2:(if (false == false)=true then 1 else 0:Nat)=1:=rfl
 rw [e,e2]
 omega
theorem wpAny_inv (I:Array Bool→Act→World→Prop) (hdone:∀ l a w,I l a w→Region.ready md ops l=[]→Q .normal a w)
 (hstep:∀ l a w i,I l a w→i ∈ Region.ready md ops l→wpOp P ops Q i (I (l.setIfInBounds i true)) a w) :
 ∀ fuel l a w,l.toList.count false≤fuel→I l a w→wpAny P md ops Q fuel l a w:=by
 intro fuel
 induction fuel with
 | zero =>
   intro l a w hc hI
   have hr:Region.ready md ops l=[]:=by
    rw [List.eq_nil_iff_forall_not_mem]
    intro i hi
    have:=count_true l i (mem_ready.1 hi).1
    omega
   exact ⟨hr,hdone _ _ _ hI hr⟩
 | succ fuel ih =>
   intro l a w hc hI
   refine ⟨fun h=>hdone _ _ _ hI h,fun i hi=>wpOp_mono (fun a' w' h'=>ih _ a' w' ?_ h') (hstep l a w i hI hi)⟩
   have:=count_true l i (mem_ready.1 hi).1
   omega
end
section
variable {P:Program} {ops:Array Oper} {Q:Exit→Act→World→Prop}
theorem wanted_bare {o:Oper} {a:Act} (hg:o.guard=none):Region.wanted o (yielded ops a.tmps)=true:=by simp [Region.wanted,hg]
theorem wpOp_wp {i:Nat} {o:Oper} {a:Act} {w:World} {K:Act→World→Prop} (hi:ops[i]? = some o) (hg:o.guard=none) (h:o.wp P a w K Q):wpOp P ops Q i K a w:=by
 unfold wpOp
 rw [hi]
 show if Region.wanted o (yielded ops a.tmps)=true then _ else _
 rw [if_pos (wanted_bare hg)]
 exact .inl h
theorem wpOp_call {i:Nat} {o:Oper} {a:Act} {w:World} {K:Act→World→Prop} (hi:ops[i]? = some o) (hg:o.guard=none) (f:FuncId) (args:Array Value)
  (hr:(execOp a.eval o).run P w=.ok (.enter f args) w) (R:Value→World→Prop) (hc:Calls P f args w fun e w'=>∃ v,e=.returned v∧R v w') (h:∀ v w',R v w'→K (a.put o.dst v) w'):wpOp P ops Q i K a w:=by
 unfold wpOp
 rw [hi]
 show if Region.wanted o (yielded ops a.tmps)=true then _ else _
 rw [if_pos (wanted_bare hg)]
 refine .inl ?_
 unfold Oper.wp
 rw [hr,Oper.upon_enter]
 refine hc.mono fun e w' hh => ?_
 obtain ⟨v,rfl,hR⟩:=hh
 exact h v w' hR
theorem wpOp_thrown {i:Nat} {o:Oper} {a:Act} {w:World} {K:Act→World→Prop} (hi:ops[i]? = some o) (hg:o.guard=none) (f:FuncId) (args:Array Value)
  (hr:(execOp a.eval o).run P w=.ok (.enter f args) w) (R:List PanicEntry→World→Prop) (hc:Calls P f args w fun e w'=>∃ c,e=.panicked c∧R c w') (h:∀ c w',R c w'→Q (.panic c) a w'):wpOp P ops Q i K a w:=by
 unfold wpOp
 rw [hi]
 show if Region.wanted o (yielded ops a.tmps)=true then _ else _
 rw [if_pos (wanted_bare hg)]
 refine .inl ?_
 unfold Oper.wp
 rw [hr,Oper.upon_enter]
 refine hc.mono fun e w' hh => ?_
 obtain ⟨v,rfl,hR⟩:=hh
 exact h v w' hR
end
end Go.Proofs.YtilbbemdinpjcaaGreat.W
namespace Go.Proofs.YtilbbemdinpjcaaGreat.W
open Go.RowKit
def Trio (b0 b1 b2:Bool):Array Bool:=#[b0,b1,b2,false,false,false,false]
def trioRow (r:List Nat) (b0 b1 b2:Bool):Bool:=r.all (fun i=>(i == 0 && !b0) || (i == 1 && !b1) || (i == 2 && !b2) || (i == 3 && b1 && b2)) && !r.isEmpty
def trioB (ops:Array Oper):Bool:=[false,true].all fun b0=>[false,true].all fun b1=>[false,true].all fun b2=>trioRow (Region.ready .any ops (Trio b0 b1 b2)) b0 b1 b2
theorem all_two {p:Bool→Bool} (h:[false,true].all p=true) (b:Bool):p b=true:=by
 simp at h
 cases b
 ·
  exact h.1
 ·
  exact h.2
theorem trio_of {ops:Array Oper} (h:trioB ops=true) (b0 b1 b2:Bool):trioRow (Region.ready .any ops (Trio b0 b1 b2)) b0 b1 b2=true:=all_two (all_two (all_two h b0) b1) b2
theorem trio_nil {ops:Array Oper} {b0 b1 b2:Bool} (hnil:Region.ready .any ops (Trio b0 b1 b2)=[]) (h:trioB ops=true):False:=by
 have ht:=trio_of h b0 b1 b2
 rw [hnil] at ht
 simp [trioRow] at ht
theorem trio_mem {ops:Array Oper} {b0 b1 b2:Bool} {i:Nat} (hi:i ∈ Region.ready .any ops (Trio b0 b1 b2)) (h:trioB ops=true):i=0∧b0=false ∨ i=1∧b1=false ∨ i=2∧b2=false ∨ i=3∧b1=true∧b2=true:=by
 have ht:=trio_of h b0 b1 b2
 unfold trioRow at ht
 rw [Bool.and_eq_true] at ht
 have hi2:=List.all_eq_true.1 ht.1 i hi
 simp only [Bool.or_eq_true,Bool.and_eq_true,beq_iff_eq,Bool.not_eq_true'] at hi2
 rcases hi2 with ((h | h) | h) | ⟨⟨h1,h2⟩,h3⟩
 ·
  exact .inl h
 ·
  exact .inr (.inl h)
 ·
  exact .inr (.inr (.inl h))
 ·
  exact .inr (.inr (.inr ⟨h1,h2,h3⟩))
def TAct (p q:Nat) (v3 v4 v5:Value):Act:=⟨#[.pointer (some ⟨p,0,none⟩),.pointer (some ⟨q,0,none⟩),.string ⟨#[]⟩,v3,v4,v5,undef,undef,undef],[]⟩
def TrioI (W:World) (p q g:Nat) (m:Int) (l:Array Bool) (a:Act) (w:World):Prop :=
 w=W.drew∧∃ b0 b1 b2,l=Trio b0 b1 b2∧∃ v3 v4 v5,a=TAct p q v3 v4 v5∧(b1=true→v4=.pointer (some ⟨g,0,none⟩))∧(b2=true→v5=.int .i64 m)
set_option maxRecDepth 100000 in
theorem text1_bad (W:World) (p q g k:Nat) (xs:List UInt8) (c0 a:Nat) (m:Int) (hp:W.cell? ⟨p,0,none⟩=some (.pointer (some ⟨g,0,none⟩))) (hq:W.cell? ⟨q,0,none⟩=some (.int .i64 m)) (h:Rdr W g k xs c0 a false) (ha:a≤xs.length)
  (hm:xs.length < a+2 ∨ m < beVal ((xs.drop a).take 2)) :
  Calls Tryz.prog 282 #[.pointer (some ⟨p,0,none⟩),.pointer (some ⟨q,0,none⟩)] W fun e W'=>Unmet e∧(∃ a',Rdr W' g k xs c0 a' false)∧Only g W W' none:=by
 have hbd:Below W.heap.size W W.drew:=⟨rfl,rfl,rfl,Nat.le_refl _,fun _ _=>rfl⟩
 have hu:=upto_bad W.drew g k xs c0 a m 2 (h.below hbd) ha (by omega) hm
 have HBD:=Lib.hid hbd
 clear hbd
 have HU:=Lib.hid hu
 clear hu h hm
 go_enter Tryz.func282,Tryz.ntmps282
 go_upto_region 1 with fail
 refine wp_region_any (by kernel_rfl) ?_
 change wpAny _ _ _ _ _ _ _ (World.drew W)
 have hp':W.drew.cell? ⟨p,0,none⟩=some (.pointer (some ⟨g,0,none⟩)):=hp
 have hq':W.drew.cell? ⟨q,0,none⟩=some (.int .i64 m):=hq
 refine wpAny_inv (TrioI W p q g m) ?_ ?_ _ _ _ _ (by decide) ⟨rfl,false,false,false,rfl,undef,undef,undef,rfl,(fun h=>by cases h),(fun h=>by cases h)⟩
 ·
  rintro l a w ⟨rfl,b0,b1,b2,rfl,v3,v4,v5,rfl,h1,h2⟩ hnil
  exact (trio_nil hnil (by kernel_rfl)).elim
 ·
  rintro l a w i ⟨rfl,b0,b1,b2,rfl,v3,v4,v5,rfl,h1,h2⟩ hi
  rcases trio_mem hi (by kernel_rfl) with ⟨rfl,rfl⟩ | ⟨rfl,rfl⟩ | ⟨rfl,rfl⟩ | ⟨rfl,rfl,rfl⟩
  ·
   refine wpOp_wp rfl rfl ?_
   unfold TAct
   simp [Oper.wp,execOp,go_sem,hp,hq]
   refine ⟨rfl,true,b1,b2,rfl,_,v4,v5,rfl,?_,?_⟩
   ·
    exact h1
   ·
    exact h2
  ·
   refine wpOp_wp rfl rfl ?_
   unfold TAct
   simp [Oper.wp,execOp,go_sem,hp,hq]
   refine ⟨rfl,b0,true,b2,rfl,v3,_,v5,rfl,?_,?_⟩
   ·
    exact fun _=>rfl
   ·
    exact h2
  ·
   refine wpOp_wp rfl rfl ?_
   unfold TAct
   simp [Oper.wp,execOp,go_sem,hp,hq]
   refine ⟨rfl,b0,b1,true,rfl,v3,v4,_,rfl,?_,?_⟩
   ·
    exact h1
   ·
    exact fun _=>rfl
  ·
   obtain rfl:=h1 rfl
   obtain rfl:=h2 rfl
   refine wpOp_thrown rfl rfl 269 #[.pointer (some ⟨g,0,none⟩),.int .i64 m,.int .i64 2] (by simp [execOp,go_sem,TAct,Act.eval]) (fun c W'=>(∃ v,c=[{ v:=.iface 64 v,recovered:=false }])∧(∃ a',Rdr W' g k xs c0 a' false)∧Only g W W' none) ?_ ?_
   ·
    exact HU.out.mono fun e W' ⟨⟨v,he⟩,h3,h4⟩=>⟨_,he,⟨v,rfl⟩,h3,(only_below HBD.out).trans0 h4⟩
   ·
    rintro c W' ⟨⟨v,rfl⟩,h3,h4⟩
    exact ⟨rfl,⟨_,rfl⟩,h3,h4⟩
end Go.Proofs.YtilbbemdinpjcaaGreat.W
namespace Go.Proofs.YtilbbemdinpjcaaGreat.W
open Go.RowKit
def Quad (b0 b1 b2 b3:Bool):Array Bool:=#[b0,b1,b2,b3,false,false,false]
def quadRow (r:List Nat) (b0 b1 b2 b3:Bool):Bool:=(b3 && !(b1 && b2)) || (r.all (fun i=>(i == 0 && !b0) || (i == 1 && !b1) || (i == 2 && !b2) || (i == 3 && b1 && b2 && !b3) || (i == 4 && b0 && b3)) && !r.isEmpty)
def quadB (ops:Array Oper):Bool:=[false,true].all fun b0=>[false,true].all fun b1=>[false,true].all fun b2=>[false,true].all fun b3=>quadRow (Region.ready .any ops (Quad b0 b1 b2 b3)) b0 b1 b2 b3
theorem quad_of {ops:Array Oper} (h:quadB ops=true) (b0 b1 b2 b3:Bool):quadRow (Region.ready .any ops (Quad b0 b1 b2 b3)) b0 b1 b2 b3=true:=all_two (all_two (all_two (all_two h b0) b1) b2) b3
theorem quad_nil {ops:Array Oper} {b0 b1 b2 b3:Bool} (hnil:Region.ready .any ops (Quad b0 b1 b2 b3)=[]) (hb:b3=true→b1=true∧b2=true) (h:quadB ops=true):False:=by
 have ht:=quad_of h b0 b1 b2 b3
 rw [hnil] at ht
 simp [quadRow] at ht
 have:=hb ht.1
 simp [this] at ht
theorem quad_mem {ops:Array Oper} {b0 b1 b2 b3:Bool} {i:Nat} (hi:i ∈ Region.ready .any ops (Quad b0 b1 b2 b3)) (hb:b3=true→b1=true∧b2=true) (h:quadB ops=true) :
  i=0∧b0=false ∨ i=1∧b1=false ∨ i=2∧b2=false ∨ i=3∧b1=true∧b2=true∧b3=false ∨ i=4∧b0=true∧b3=true:=by
 have ht:=quad_of h b0 b1 b2 b3
 unfold quadRow at ht
 have hz:(b3 && !(b1 && b2))=false:=by
  cases b3
  ·
   rfl
  ·
   obtain ⟨h1,h2⟩:=hb rfl
   simp [h1,h2]
 rw [hz,Bool.false_or,Bool.and_eq_true] at ht
 have hi2:=List.all_eq_true.1 ht.1 i hi
 simp only [Bool.or_eq_true,Bool.and_eq_true,beq_iff_eq,Bool.not_eq_true'] at hi2
 rcases hi2 with (((h | h) | h) | ⟨⟨⟨h1,h2⟩,h3⟩,h4⟩) | ⟨⟨h1,h2⟩,h3⟩
 ·
  exact .inl h
 ·
  exact .inr (.inl h)
 ·
  exact .inr (.inr (.inl h))
 ·
  exact .inr (.inr (.inr (.inl ⟨h1,h2,h3,h4⟩)))
 ·
  exact .inr (.inr (.inr (.inr ⟨h1,h2,h3⟩)))
def QAct (p q:Nat) (v3 v4 v5 v6:Value):Act:=⟨#[.pointer (some ⟨p,0,none⟩),.pointer (some ⟨q,0,none⟩),.string ⟨#[]⟩,v3,v4,v5,v6,undef,undef],[]⟩
def QW (W:World) (g k:Nat) (xs:List UInt8) (c a:Nat) (b3:Bool) (w:World):Prop:=(b3=false∧w=W.drew) ∨ (b3=true∧Rdr w g k xs c (a+2) false∧Only g W w none)
def QuadI (W:World) (p q g k:Nat) (xs:List UInt8) (c a:Nat) (m:Int) (n:Nat) (l:Array Bool) (x:Act) (w:World):Prop :=
 ∃ b0 b1 b2 b3,l=Quad b0 b1 b2 b3∧QW W g k xs c a b3 w∧(b3=true→b1=true∧b2=true)∧∃ v3 v4 v5 v6,x=QAct p q v3 v4 v5 v6∧(b0=true→v3=.pointer (some ⟨g,0,none⟩))∧(b1=true→v4=.pointer (some ⟨g,0,none⟩))∧(b2=true→v5=.int .i64 m)∧(b3=true→v6=.int .i64 n)
set_option maxRecDepth 100000 in
theorem text1_bad2 (W:World) (p q g k:Nat) (xs:List UInt8) (c a:Nat) (m:Int) (n:Nat) (hp:W.cell? ⟨p,0,none⟩=some (.pointer (some ⟨g,0,none⟩))) (hq:W.cell? ⟨q,0,none⟩=some (.int .i64 m)) (hpl:p < W.heap.size) (hql:q < W.heap.size) (hpg:p≠g) (hqg:q≠g) (h:Rdr W g k xs c a false)
  (hn:a+2≤xs.length) (hv:beVal ((xs.drop a).take 2)=n) (hm:(n:Int)≤m) (hlt:xs.length < a+2+n) :
  Calls Tryz.prog 282 #[.pointer (some ⟨p,0,none⟩),.pointer (some ⟨q,0,none⟩)] W fun e W'=>Unmet e∧(∃ a',Rdr W' g k xs c a' false)∧Only g W W' none:=by
 have hbd:Below W.heap.size W W.drew:=⟨rfl,rfl,rfl,Nat.le_refl _,fun _ _=>rfl⟩
 have hu:=upto_good W.drew g k xs c a (h.below hbd) m 2 (by omega) hn (by rw [hv];exact hm)
 rw [hv] at hu
 have HU:=Lib.hid hu
 have HBD:=Lib.hid hbd
 have hnx:∀ V,Rdr V g k xs c (a+2) false→Only g W V none→Calls Tryz.prog 276 #[.pointer (some ⟨g,0,none⟩),.int .i64 n] V fun e V'=>∃ ch,e=.panicked ch∧(∃ v,ch=[{ v:=.iface 64 v,recovered:=false }])∧(∃ a',Rdr V' g k xs c a' false)∧Only g W V' none:=fun V hV ho =>
  (next_bad V g k xs c (a+2) hV hn n (.inr (by omega))).mono fun e V' ⟨⟨v,he⟩,hb⟩=>⟨_,he,⟨v,rfl⟩,⟨_,hV.below hb⟩,ho.trans0 (only_below hb)⟩
 have HNX:=Lib.hid hnx
 clear hbd hu h hm hv hnx hlt
 go_enter Tryz.func282,Tryz.ntmps282
 go_upto_region 1 with fail
 refine wp_region_any (by kernel_rfl) ?_
 change wpAny _ _ _ _ _ _ _ (World.drew W)
 have hpc:∀ b3 w,QW W g k xs c a b3 w→w.cell? ⟨p,0,none⟩=some (.pointer (some ⟨g,0,none⟩))∧w.cell? ⟨q,0,none⟩=some (.int .i64 m):=by
  rintro b3 w (⟨_,rfl⟩ | ⟨_,_,ho⟩)
  ·
   exact ⟨hp,hq⟩
  ·
   exact ⟨(ho.cell hpl hpg).trans hp,(ho.cell hql hqg).trans hq⟩
 refine wpAny_inv (QuadI W p q g k xs c a m n) ?_ ?_ _ _ _ _ (by decide) ⟨false,false,false,false,rfl,.inl ⟨rfl,rfl⟩,(fun h=>by cases h),undef,undef,undef,undef,rfl,(fun h=>by cases h),(fun h=>by cases h),(fun h=>by cases h),(fun h=>by cases h)⟩
 ·
  rintro l x w ⟨b0,b1,b2,b3,rfl,hw,hb,_⟩ hnil
  exact (quad_nil hnil hb (by kernel_rfl)).elim
 ·
  rintro l x w i ⟨b0,b1,b2,b3,rfl,hw,hb,v3,v4,v5,v6,rfl,h0,h1,h2,h3⟩ hi
  obtain ⟨cp,cq⟩:=hpc b3 w hw
  rcases quad_mem hi hb (by kernel_rfl) with ⟨rfl,rfl⟩ | ⟨rfl,rfl⟩ | ⟨rfl,rfl⟩ | ⟨rfl,rfl,rfl,rfl⟩ | ⟨rfl,rfl,rfl⟩
  ·
   refine wpOp_wp rfl rfl ?_
   unfold QAct
   simp [Oper.wp,execOp,go_sem,cp,cq]
   exact ⟨true,b1,b2,b3,rfl,hw,hb,_,v4,v5,v6,rfl,fun _=>rfl,h1,h2,h3⟩
  ·
   refine wpOp_wp rfl rfl ?_
   unfold QAct
   simp [Oper.wp,execOp,go_sem,cp,cq]
   exact ⟨b0,true,b2,b3,rfl,hw,fun h=>⟨rfl,(hb h).2⟩,v3,_,v5,v6,rfl,h0,fun _=>rfl,h2,h3⟩
  ·
   refine wpOp_wp rfl rfl ?_
   unfold QAct
   simp [Oper.wp,execOp,go_sem,cp,cq]
   exact ⟨b0,b1,true,b3,rfl,hw,fun h=>⟨(hb h).1,rfl⟩,v3,v4,_,v6,rfl,h0,h1,fun _=>rfl,h3⟩
  ·
   obtain rfl:=h1 rfl
   obtain rfl:=h2 rfl
   obtain rfl:w=W.drew:=by
    rcases hw with ⟨_,h⟩ | ⟨h,_⟩
    ·
     exact h
    ·
     cases h
   refine wpOp_call rfl rfl 269 #[.pointer (some ⟨g,0,none⟩),.int .i64 m,.int .i64 2] (by simp [execOp,go_sem,QAct,Act.eval]) (fun v W'=>v=.int .i64 n∧Rdr W' g k xs c (a+2) false∧Only g W W' none) ?_ ?_
   ·
    exact HU.out.mono fun e W' ⟨he,h3,h4⟩=>⟨_,he,rfl,h3,(only_below HBD.out).trans0 h4⟩
   ·
    rintro v W' ⟨rfl,h3',h4'⟩
    exact ⟨b0,true,true,true,rfl,.inr ⟨rfl,h3',h4'⟩,fun _=>⟨rfl,rfl⟩,v3,_,_,_,rfl,h0,fun _=>rfl,fun _=>rfl,fun _=>rfl⟩
  ·
   obtain rfl:=h0 rfl
   obtain rfl:=h3 rfl
   rcases hw with ⟨h,_⟩ | ⟨_,hr,ho⟩
   ·
    cases h
   refine wpOp_thrown rfl rfl 276 #[.pointer (some ⟨g,0,none⟩),.int .i64 n] (by simp [execOp,go_sem,QAct,Act.eval]) _ (HNX.out w hr ho) ?_
   rintro ch W' ⟨⟨v,rfl⟩,h3',h4'⟩
   exact ⟨rfl,⟨_,rfl⟩,h3',h4'⟩
set_option maxRecDepth 100000 in
theorem rtext_bad (w:World) (g k:Nat) (xs:List UInt8) (c a:Nat) (m:Int) (h:Rdr w g k xs c a false) (ha:a≤xs.length) (hm:xs.length < a+2 ∨ m < beVal ((xs.drop a).take 2) ∨ xs.length < a+2+beVal ((xs.drop a).take 2)) :
 Calls Tryz.prog 254 #[.pointer (some ⟨g,0,none⟩),.int .i64 m] w fun e w'=>e=.returned (.string ⟨#[]⟩)∧Rdr w' g k xs c a true∧Only g w w' none:=by
 have hmf:∀ (fn:Fn) (first cap:Array Value) (w:World),(Instr.makeFunc fn first cap).run Tryz.prog w=.ok (.func fn first cap) w:=fun _ _ _ _=>rfl
 have hgl:=h.1.lt
 obtain ⟨hr,hb⟩:=rdr_pair h (.pointer (some ⟨g,0,none⟩)) (.int .i64 m) 56 3
 have ht:=tell83_unmet _ g k xs c a 282 #[.pointer (some ⟨w.heap.size,0,none⟩),.pointer (some ⟨w.heap.size+1,0,none⟩)] hr (callK 282 Tryz.f282 Tryz.func282 (by kernel_rfl) (by kernel_rfl) _)
  (fun W hW hR=>by
    have cp:W.cell? ⟨w.heap.size,0,none⟩=some (.pointer (some ⟨g,0,none⟩)):=by rw [hW.cell (p:=⟨w.heap.size,0,none⟩) (by simp;omega)];simp [go_sem]
    have cq:W.cell? ⟨w.heap.size+1,0,none⟩=some (.int .i64 m):=by rw [hW.cell (p:=⟨w.heap.size+1,0,none⟩) (by simp)];simp [go_sem]
    have hsz:=hW.size
    simp at hsz
    by_cases h1:xs.length < a+2 ∨ m < beVal ((xs.drop a).take 2)
    · exact text1_bad W _ _ g k xs c a m cp cq hR ha h1
    · exact text1_bad2 W _ _ g k xs c a m _ cp cq (by omega) (by omega) (by omega) (by omega) hR (by omega) rfl (by omega) (by omega))
 have HT:=Lib.hid ht
 have HB:=Lib.hid hb
 clear ht hb hr h hm hgl
 go_enter Tryz.func254,Tryz.ntmps254
 go_wp2_with fail
 refine HT.out.mono ?_
 rintro e w1 ⟨rfl,hr,ho⟩
 have HR:=Lib.hid (And.intro hr ((only_below HB.out).trans0 ho))
 clear hr ho
 go_wp2_with fail
 go_ret
 exact ⟨rfl,HR.out⟩
end Go.Proofs.YtilbbemdinpjcaaGreat.W
