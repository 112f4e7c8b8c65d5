/-
  pack: the getter's bundle.
-/
import Derived.Test.YtilbbemdinpjcaaGreatJQr
set_option maxHeartbeats 16000000
namespace Go.Proofs.YtilbbemdinpjcaaGreat.P
set_option maxRecDepth 100000
open Go.RowKit Go.Sort
def rowD {α:Type} (one:Option Nat→α) (nx:Option Nat→Option Nat):Nat→List α→Option Nat→Option (List α × Option Nat)
 | 0,acc,st=>some (acc,st)
 | n+1,acc,st=>if (nx st).isSome then rowD one nx n (acc ++ [one st]) (nx st) else none
def RowG {α:Type} (ty:TypeId) (sz:Nat) (f:α→Array Value) (g k:Nat) (xs:List UInt8) (c:Nat) (w:World) (o:Option (List α × Option Nat)) (e:Ending) (w':World):Prop :=
 W.Only g w w' none∧((∃ l v st,e=.returned v∧w'.ownsRow w.heap.size ty sz v l.length (cellsF f l)∧W.RSt w' g k xs c st∧o=some (l,st)) ∨ (Fault e∧o=none∧∃ st,W.RSt w' g k xs c st))
structure RL {α:Type} (ty:TypeId) (sz:Nat) (f:α→Array Value) (one:Option Nat→α) (nx:Option Nat→Option Nat) (W0 Z:World) (g k:Nat) (xs:List UInt8) (c:Nat) (res:Option (List α × Option Nat)) (n:Nat) (l:List α) (st:Option Nat) (v:Value):Prop where
 res:res=rowD one nx n l st
 rd:W.RSt Z g k xs c st
 only:W.Only g W0 Z none
 own:Z.ownsRow W0.heap.size ty sz v l.length (cellsF f l)
 none:st=none→l=[]
 some:∀ a,st=some a→l.length≤a
theorem wpList_append_F {α:Type} (f:α→Array Value) (k b:Nat) (t e:TypeId) (ht:Tryz.prog.underlying t=some (.slice e)) (hi:(Tryz.prog.info? e).map (fun i=>(i.zero.map (·.cells.size),i.size,i.bytes))=some (some k,k,b)) (hk:0 < k) (hb:b≤1000)
  {ops:Array Oper} {rest:List Oper} {o:Oper} {a:Act} {w:World} {Q:Exit→Act→World→Prop} (hgd:o.guard=none) (s x:Operand) (ho:o.op=.call { callee:=.builtin .append,args:=#[s,x],argTypes:=#[t,t] })
  (B g:Nat) (v:Value) (ys:List α) (y:α) (hs:a.eval s=v) (hown:w.ownsRow B e k v ys.length (cellsF f ys)) (hx:a.eval x=.slice (some ⟨g,0,none⟩) 1 1) (hl:Lies w g (f y) e) (hsz:(f y).size=k) (hone:(f y).all (·.oneCell')=true) (hlen:ys.length+1≤1000000) (hB:B≤w.heap.size)
  (h:∀ v' w',w'.ownsRow B e k v' (ys ++ [y]).length (cellsF f (ys ++ [y]))→w.grownBy w' v.ownBlock→(v'.ownBlock=v.ownBlock ∨ v'.ownBlock=some w.heap.size)→wpList Tryz.prog ops Q rest (a.put o.dst v') w') :
  wpList Tryz.prog ops Q (o :: rest) a w:=by
 obtain ⟨i0,z0,hi0,hz0,hz1,hz2,hz3⟩:=info_parts hi
 have hbb:(ys.length+1) * b≤1000000 * 1000:=Nat.mul_le_mul hlen hb
 refine wpList_append_own_at w hgd s x t ho B e i0 z0 k b ht hi0 hz0 hz1 hz2 hz3 hk v ys.length _ hs hown ⟨g,0,none⟩ 1 1 (cellsF f [y]) hx (cellsF_len f k _ fun a ha=>by rw [List.mem_singleton.1 ha];exact hsz) (src_one f hl) (cellsF_one f _ fun a ha=>by rw [List.mem_singleton.1 ha];exact hone) (by unfold maxLen;omega) (by omega) hB ?_
 intro v' w' h2 h3 _ h5
 exact h v' w' (by rw [List.length_append,cellsF_app];exact h2) h3 h5
theorem ownsRow_weak {w:World} {B B':Nat} {ty:TypeId} {sz:Nat} {v:Value} {n:Nat} {l:List Value} (h:w.ownsRow B ty sz v n l) (hb:B'≤B):w.ownsRow B' ty sz v n l:=by
 refine ⟨h.1,?_⟩
 rcases h.2 with h2 | ⟨g,cap,cur,h1,h2,h3⟩
 ·
  exact .inl h2
 ·
  exact .inr ⟨g,cap,cur,h1,Nat.le_trans hb h2,h3⟩
theorem grown_on0 {g:Nat} {w w1 w2:World} {v:Value} (h:W.Only g w w1 none) (hg:w1.grownBy w2 v.ownBlock) (hv:∀ j,v.ownBlock=some j→w.heap.size≤j):W.Only g w w2 none:=by
 have k:=W.grown_only hg g
 cases hb:v.ownBlock with
 | none=>rw [hb] at k;exact h.trans0 k
 | some j =>
   rw [hb] at k
   exact ⟨k.os.trans h.os,k.tape.trans h.tape,k.output.trans h.output,Nat.le_trans h.size k.size,fun i hi h1 h2=>(k.block i (Nat.lt_of_lt_of_le hi h.size) h1 (fun e=>by have:=hv j hb;have:=Option.some.inj e;omega)).trans (h.block i hi h1 h2)⟩
theorem numS_some {xs:List UInt8} {st:Option Nat} {n p:Nat} (h:W.numS xs st n=some p):∃ a,st=some a∧p=a+n:=by
 cases st with
 | none=>cases h
 | some a =>
   simp only [W.numS] at h
   split at h
   · exact ⟨a,rfl,(Option.some.inj h).symm⟩
   · cases h
theorem textS_some {xs:List UInt8} {st:Option Nat} {m:Int} {p:Nat} (h:W.textS xs st m=some p):∃ a,st=some a∧a+2≤p:=by
 cases st with
 | none=>cases h
 | some a =>
   simp only [W.textS] at h
   split at h
   · have:=Option.some.inj h
     exact ⟨a,rfl,by omega⟩
   · cases h
theorem asE_some {xs:List UInt8} {st:Option Nat} {p:Nat} (h:asE xs st=some p):∃ a,st=some a∧a+1≤p:=by
 obtain ⟨b,h1,rfl⟩:=numS_some h
 obtain ⟨d,h2,h3⟩:=textS_some h1
 obtain ⟨a,h4,rfl⟩:=numS_some h2
 exact ⟨a,h4,by omega⟩
theorem toE_some {xs:List UInt8} {st:Option Nat} {p:Nat} (h:toE xs st=some p):∃ a,st=some a∧a+1≤p:=by
 obtain ⟨b,h1,rfl⟩:=numS_some h
 obtain ⟨a,h2,h3⟩:=asE_some h1
 exact ⟨a,h2,by omega⟩
theorem run_bool1 (W:World) (y:Bool):(Instr.buildSlice 180 1 #[(0,.bool y)]).run Tryz.prog W=.ok (.slice (some ⟨W.heap.size,0,none⟩) 1 1) (W.alloc (.cells #[.bool y] 4)):=by kernel_rfl
attribute [-go_sem] Instr.build Instr.buildSlice
theorem rowAsset_any (w:World) (g k:Nat) (xs:List UInt8) (c:Nat) (st0:Option Nat) (n:Nat) (h:W.RSt w g k xs c st0) (hx:xs.length < 1000000) (hn:n < 9223372036854775808) :
 Calls Tryz.prog 216 #[.agg #[.pointer (some ⟨g,0,none⟩)],.int .i64 n,.func (Fn.func 218) #[] #[]] w (RowG 146 34 asC g k xs c w (rowD (asV xs) (asE xs) n [] st0)):=by
 obtain ⟨res,hres⟩:∃ r,r=rowD (asV xs) (asE xs) n [] st0:=⟨_,rfl⟩
 rw [← hres]
 obtain ⟨hA,hb⟩:=box_one w (.pointer (some ⟨g,0,none⟩)) 174
 have hsl:∀ (W:World) (av:Array Value),av.size=34→(Instr.buildSlice 25 1 #[(0,.agg av)]).run Tryz.prog W=.ok (.slice (some ⟨W.heap.size,0,none⟩) 1 1) (W.alloc (.cells av 146)):=fun W av has=>run_slice1 W 25 146 34 56 av Tryz.underlying25 info54 (by decide) (by decide) has
 have HSL:=Hj hsl
 have HLT:=Hj h.lt
 have HX:=Hj hx
 have hr0:=h.below hb
 have H:=Hj (Aj hres hr0)
 clear h hres hr0 hsl hx
 have hcf:=fun cap V=>T.callK 218 Tryz.f218 Tryz.func218 (by kernel_rfl) (by kernel_rfl) cap V
 go_enter Tryz.func216,Tryz.ntmps216
 go_upto_region 1 with fail
 generalize w.alloc (.cells #[.pointer (some ⟨g,0,none⟩)] 174)=W0 at hA hb H ⊢
 obtain ⟨p0,hp0⟩:∃ p,p=w.heap.size:=⟨_,rfl⟩
 rw [← hp0] at hA ⊢
 have HA:=Hj (Aj hA (Aj hb hp0))
 clear hA hb hp0
 go_upto_region 3 with fail
 go_loopw [7,9] (fun v i Z=>∃ (m:Nat) (l:List As) (st:Option Nat),m≤n∧i=.int .i64 m∧RL 146 34 asC (asV xs) (asE xs) W0 Z g k xs c res (n - m) l st v) (fun _ i _=>(n - intOf i).toNat)
 case atStart=>exact ⟨0,[],st0,Nat.zero_le _,by go_num,⟨H.out.1,H.out.2,W.Only.refl _ _ _,World.ownsRow_nil _ _ _ _,fun _=>rfl,fun _ _=>Nat.zero_le _⟩⟩
 case round =>
  obtain ⟨m,l,st,hm,rfl,hT⟩:=hrel
  have hpg:p0≠g:=by rw [HA.out.2.2];have:=HLT.out;omega
  have hl0:=hT.only.lies HA.out.1 hpg
  by_cases hlt:m < n
  · have q0:(m:Int) < (n:Int):=by omega
    have q1:(m:Int)+1≤9223372036854775807:=by omega
    have q2:(0:Int)≤(m:Int):=by omega
    have c0:=hl0.cell 0 (v:=.pointer (some ⟨g,0,none⟩)) rfl
    have hC:=getterAsset_any wr g k xs c st hT.rd
    obtain ⟨cs,hcs⟩:∃ x,x=asC ((asV xs) st):=⟨_,rfl⟩
    rw [show asC ((asV xs) st)=cs from hcs.symm] at hC
    have has:cs.size=34:=by rw [hcs];exact asC_size _ (hashV_len xs st)
    have HC:=Hj hC
    have hsl:=fun W=>HSL.out W cs has
    have HT:=Hj (Aj hT (Aj hcs (Aj hpg (Aj hm (Aj hlt hl0)))))
    clear hT hcs has hpg hm hlt hC hl0
    go_wp2_with (at_builtin;fail)
    refine HC.out.mono ?_
    rintro e W2 ⟨rfl,hr2,ho2⟩
    have hX:=W.own_only HT.out.1.own ho2 (fun e=>by have:=(W.own_block HT.out.1.own _ e).1;have:=HA.out.2.1.size;have:=HLT.out;omega) (fun _ _=>by simp)
    have hb3:Below W2.heap.size W2 (W2.alloc (.cells cs 146)):=(Below.refl _ _).alloc (Nat.le_refl _) _
    have hL3:=Lies.new W2 cs 146
    have hX3:=ownsRow_below hX hb3
    have hr3:=hr2.below hb3
    have ho3:=(HT.out.1.only.trans0 ho2).trans0 (W.only_below hb3)
    have hl3:=(ho2.lies HT.out.2.2.2.2.2 HT.out.2.2.1).below hb3 (ho2.lies HT.out.2.2.2.2.2 HT.out.2.2.1).lt
    have hlen:l.length+1≤1000000:=by
     have:=HX.out
     cases hst:st with
     | none=>rw [HT.out.1.none hst];simp
     | some a =>
       have h1:=HT.out.1.some a hst
       have h2:=HT.out.1.rd
       rw [hst] at h2
       have:=h2.1
       omega
    have H3:=Hj (Aj hX3 (Aj hL3 (Aj hr3 (Aj ho3 (Aj hl3 (Aj hlen (W.own_block hX)))))))
    clear hX hb3 hL3 hX3 hr3 ho3 hl3 hlen hr2 ho2 c0
    have HOne:=Hj (show cs.all (·.oneCell')=true by rw [HT.out.2.1];exact asC_one _)
    go_upto_region 5 with (first
     | (at_builtin;go_must (refine wpList_append_F asC 34 56 25 146 Tryz.underlying25 info54 (by decide) (by decide) rfl _ _ rfl W0.heap.size W2.heap.size _ l ((asV xs) st) rfl H3.out.1 rfl (by rw [← HT.out.2.1];exact H3.out.2.1) (asC_size _ (hashV_len xs st)) (asC_one _) H3.out.2.2.2.2.2.1 H3.out.2.2.2.1.size ?_;intro v' W7 hown7 hgrow7 _;have HO7:=Hj (Aj hown7 hgrow7);clear hown7 hgrow7)))
    obtain ⟨st1,hst1⟩:∃ s,s=(asE xs) st:=⟨_,rfl⟩
    have hl7:=T.grown_lies HO7.out.2 H3.out.2.2.2.2.1 (fun e=>by have:=(H3.out.2.2.2.2.2.2 _ e.symm).1;have:=HA.out.1.lt;omega)
    have hr7:=rd_grown H3.out.2.2.1 HO7.out.2 (fun e=>by have:=(H3.out.2.2.2.2.2.2 _ e).1;have:=HA.out.2.1.size;have:=HLT.out;omega) (fun e=>by have:=(H3.out.2.2.2.2.2.2 _ e).1;have:=HA.out.2.1.size;have:=HLT.out;omega)
    have ho7:=grown_on0 H3.out.2.2.2.1 HO7.out.2 (fun j e=>(H3.out.2.2.2.2.2.2 _ e).1)
    rw [← hst1] at hr7
    obtain ⟨y,hy⟩:∃ y,y=st1.isSome:=⟨_,rfl⟩
    have hS:=sound_any W7 g k xs c st1 hr7
    rw [← hy] at hS
    have HS:=Hj hS
    have c0:=hl7.cell 0 (v:=.pointer (some ⟨g,0,none⟩)) rfl
    have H7:=Hj (Aj hr7 (Aj ho7 (Aj hy (Aj hst1 HO7.out.1))))
    clear hl7 hr7 ho7 hS hy hst1
    go_wp2_with (at_builtin;fail)
    refine HS.out.mono ?_
    rintro e W8 ⟨rfl,hb8⟩
    have H8:=Hj hb8
    have hsb:=fun W=>run_bool1 W y
    clear hb8 c0
    go_wp2_with (at_builtin;fail)
    refine (must1 _ _).mono ?_
    rintro e W9 ⟨hm,hb9⟩
    have hb:=H8.out.trans (hb9.mono H8.out.size)
    have h1:=H7.out.1.below hb
    have h2:=H7.out.2.1.trans0 (W.only_below hb)
    have h3:=ownsRow_below H7.out.2.2.2.2 hb
    have H9:=Hj (Aj h1 (Aj h2 h3))
    clear hb hb9 h1 h2 h3
    rcases hm with ⟨rfl,rfl⟩ | ⟨rfl,mm,rfl⟩
    · go_wp2_with (at_builtin;fail)
      go_roundw
      case rel =>
       have hsm:st1.isSome=true:=H7.out.2.2.1.symm
       refine ⟨m+1,l ++ [(asV xs) st],st1,HT.out.2.2.2.2.1,by go_num,?_,H9.out.1,H9.out.2.1,H9.out.2.2,fun e => ?_,fun a e => ?_⟩
       · rw [HT.out.1.res,show n - m=(n - (m+1))+1 by have:=HT.out.2.2.2.2.1;omega]
         simp only [rowD]
         rw [← H7.out.2.2.2.1,if_pos hsm]
       · rw [e] at hsm;cases hsm
       · obtain ⟨d,hd,hle⟩:=asE_some (H7.out.2.2.2.1.symm.trans e)
         have:=HT.out.1.some d hd
         rw [List.length_append,List.length_singleton]
         omega
      case measure =>
       have:=HT.out.2.2.2.2.1
       simp [intOf]
       omega
    · go_wp2_with (at_builtin;fail)
      refine ⟨rfl,(W.only_below HA.out.2.1).trans0 H9.out.2.1,.inr ⟨⟨mm,rfl⟩,?_,st1,H9.out.1⟩⟩
      rw [HT.out.1.res,show n - m=(n - (m+1))+1 by have:=HT.out.2.2.2.2.1;omega]
      simp only [rowD]
      rw [← H7.out.2.2.2.1,if_neg (by rw [← H7.out.2.2.1];exact Bool.false_ne_true)]
  · have q0:¬ (m:Int) < (n:Int):=by omega
    have HT:=Hj (Aj hT (show n - m=0 by omega))
    clear hT hl0 hpg hlt hm
    go_wp2_with (at_builtin;fail)
    go_ret
    refine ⟨(W.only_below HA.out.2.1).trans0 HT.out.1.only,.inl ⟨l,_,st,rfl,ownsRow_weak HT.out.1.own HA.out.2.1.size,HT.out.1.rd,?_⟩⟩
    have h1:=HT.out.1.res
    rw [HT.out.2] at h1
    exact h1
theorem rowTotal_any (w:World) (g k:Nat) (xs:List UInt8) (c:Nat) (st0:Option Nat) (n:Nat) (h:W.RSt w g k xs c st0) (hx:xs.length < 1000000) (hn:n < 9223372036854775808) :
 Calls Tryz.prog 223 #[.agg #[.pointer (some ⟨g,0,none⟩)],.int .i64 n,.func (Fn.func 225) #[] #[]] w (RowG 150 35 toC g k xs c w (rowD (toV xs) (toE xs) n [] st0)):=by
 obtain ⟨res,hres⟩:∃ r,r=rowD (toV xs) (toE xs) n [] st0:=⟨_,rfl⟩
 rw [← hres]
 obtain ⟨hA,hb⟩:=box_one w (.pointer (some ⟨g,0,none⟩)) 174
 have hsl:∀ (W:World) (av:Array Value),av.size=35→(Instr.buildSlice 28 1 #[(0,.agg av)]).run Tryz.prog W=.ok (.slice (some ⟨W.heap.size,0,none⟩) 1 1) (W.alloc (.cells av 150)):=fun W av has=>run_slice1 W 28 150 35 64 av Tryz.underlying28 info48 (by decide) (by decide) has
 have HSL:=Hj hsl
 have HLT:=Hj h.lt
 have HX:=Hj hx
 have hr0:=h.below hb
 have H:=Hj (Aj hres hr0)
 clear h hres hr0 hsl hx
 have hcf:=fun cap V=>T.callK 225 Tryz.f225 Tryz.func225 (by kernel_rfl) (by kernel_rfl) cap V
 go_enter Tryz.func223,Tryz.ntmps223
 go_upto_region 1 with fail
 generalize w.alloc (.cells #[.pointer (some ⟨g,0,none⟩)] 174)=W0 at hA hb H ⊢
 obtain ⟨p0,hp0⟩:∃ p,p=w.heap.size:=⟨_,rfl⟩
 rw [← hp0] at hA ⊢
 have HA:=Hj (Aj hA (Aj hb hp0))
 clear hA hb hp0
 go_upto_region 3 with fail
 go_loopw [7,9] (fun v i Z=>∃ (m:Nat) (l:List To) (st:Option Nat),m≤n∧i=.int .i64 m∧RL 150 35 toC (toV xs) (toE xs) W0 Z g k xs c res (n - m) l st v) (fun _ i _=>(n - intOf i).toNat)
 case atStart=>exact ⟨0,[],st0,Nat.zero_le _,by go_num,⟨H.out.1,H.out.2,W.Only.refl _ _ _,World.ownsRow_nil _ _ _ _,fun _=>rfl,fun _ _=>Nat.zero_le _⟩⟩
 case round =>
  obtain ⟨m,l,st,hm,rfl,hT⟩:=hrel
  have hpg:p0≠g:=by rw [HA.out.2.2];have:=HLT.out;omega
  have hl0:=hT.only.lies HA.out.1 hpg
  by_cases hlt:m < n
  · have q0:(m:Int) < (n:Int):=by omega
    have q1:(m:Int)+1≤9223372036854775807:=by omega
    have q2:(0:Int)≤(m:Int):=by omega
    have c0:=hl0.cell 0 (v:=.pointer (some ⟨g,0,none⟩)) rfl
    have hC:=getterTotal_any wr g k xs c st hT.rd
    obtain ⟨cs,hcs⟩:∃ x,x=toC ((toV xs) st):=⟨_,rfl⟩
    rw [show toC ((toV xs) st)=cs from hcs.symm] at hC
    have has:cs.size=35:=by rw [hcs];exact toC_size _ (hashV_len xs st)
    have HC:=Hj hC
    have hsl:=fun W=>HSL.out W cs has
    have HT:=Hj (Aj hT (Aj hcs (Aj hpg (Aj hm (Aj hlt hl0)))))
    clear hT hcs has hpg hm hlt hC hl0
    go_wp2_with (at_builtin;fail)
    refine HC.out.mono ?_
    rintro e W2 ⟨rfl,hr2,ho2⟩
    have hX:=W.own_only HT.out.1.own ho2 (fun e=>by have:=(W.own_block HT.out.1.own _ e).1;have:=HA.out.2.1.size;have:=HLT.out;omega) (fun _ _=>by simp)
    have hb3:Below W2.heap.size W2 (W2.alloc (.cells cs 150)):=(Below.refl _ _).alloc (Nat.le_refl _) _
    have hL3:=Lies.new W2 cs 150
    have hX3:=ownsRow_below hX hb3
    have hr3:=hr2.below hb3
    have ho3:=(HT.out.1.only.trans0 ho2).trans0 (W.only_below hb3)
    have hl3:=(ho2.lies HT.out.2.2.2.2.2 HT.out.2.2.1).below hb3 (ho2.lies HT.out.2.2.2.2.2 HT.out.2.2.1).lt
    have hlen:l.length+1≤1000000:=by
     have:=HX.out
     cases hst:st with
     | none=>rw [HT.out.1.none hst];simp
     | some a =>
       have h1:=HT.out.1.some a hst
       have h2:=HT.out.1.rd
       rw [hst] at h2
       have:=h2.1
       omega
    have H3:=Hj (Aj hX3 (Aj hL3 (Aj hr3 (Aj ho3 (Aj hl3 (Aj hlen (W.own_block hX)))))))
    clear hX hb3 hL3 hX3 hr3 ho3 hl3 hlen hr2 ho2 c0
    have HOne:=Hj (show cs.all (·.oneCell')=true by rw [HT.out.2.1];exact toC_one _)
    go_upto_region 5 with (first
     | (at_builtin;go_must (refine wpList_append_F toC 35 64 28 150 Tryz.underlying28 info48 (by decide) (by decide) rfl _ _ rfl W0.heap.size W2.heap.size _ l ((toV xs) st) rfl H3.out.1 rfl (by rw [← HT.out.2.1];exact H3.out.2.1) (toC_size _ (hashV_len xs st)) (toC_one _) H3.out.2.2.2.2.2.1 H3.out.2.2.2.1.size ?_;intro v' W7 hown7 hgrow7 _;have HO7:=Hj (Aj hown7 hgrow7);clear hown7 hgrow7)))
    obtain ⟨st1,hst1⟩:∃ s,s=(toE xs) st:=⟨_,rfl⟩
    have hl7:=T.grown_lies HO7.out.2 H3.out.2.2.2.2.1 (fun e=>by have:=(H3.out.2.2.2.2.2.2 _ e.symm).1;have:=HA.out.1.lt;omega)
    have hr7:=rd_grown H3.out.2.2.1 HO7.out.2 (fun e=>by have:=(H3.out.2.2.2.2.2.2 _ e).1;have:=HA.out.2.1.size;have:=HLT.out;omega) (fun e=>by have:=(H3.out.2.2.2.2.2.2 _ e).1;have:=HA.out.2.1.size;have:=HLT.out;omega)
    have ho7:=grown_on0 H3.out.2.2.2.1 HO7.out.2 (fun j e=>(H3.out.2.2.2.2.2.2 _ e).1)
    rw [← hst1] at hr7
    obtain ⟨y,hy⟩:∃ y,y=st1.isSome:=⟨_,rfl⟩
    have hS:=sound_any W7 g k xs c st1 hr7
    rw [← hy] at hS
    have HS:=Hj hS
    have c0:=hl7.cell 0 (v:=.pointer (some ⟨g,0,none⟩)) rfl
    have H7:=Hj (Aj hr7 (Aj ho7 (Aj hy (Aj hst1 HO7.out.1))))
    clear hl7 hr7 ho7 hS hy hst1
    go_wp2_with (at_builtin;fail)
    refine HS.out.mono ?_
    rintro e W8 ⟨rfl,hb8⟩
    have H8:=Hj hb8
    have hsb:=fun W=>run_bool1 W y
    clear hb8 c0
    go_wp2_with (at_builtin;fail)
    refine (must1 _ _).mono ?_
    rintro e W9 ⟨hm,hb9⟩
    have hb:=H8.out.trans (hb9.mono H8.out.size)
    have h1:=H7.out.1.below hb
    have h2:=H7.out.2.1.trans0 (W.only_below hb)
    have h3:=ownsRow_below H7.out.2.2.2.2 hb
    have H9:=Hj (Aj h1 (Aj h2 h3))
    clear hb hb9 h1 h2 h3
    rcases hm with ⟨rfl,rfl⟩ | ⟨rfl,mm,rfl⟩
    · go_wp2_with (at_builtin;fail)
      go_roundw
      case rel =>
       have hsm:st1.isSome=true:=H7.out.2.2.1.symm
       refine ⟨m+1,l ++ [(toV xs) st],st1,HT.out.2.2.2.2.1,by go_num,?_,H9.out.1,H9.out.2.1,H9.out.2.2,fun e => ?_,fun a e => ?_⟩
       · rw [HT.out.1.res,show n - m=(n - (m+1))+1 by have:=HT.out.2.2.2.2.1;omega]
         simp only [rowD]
         rw [← H7.out.2.2.2.1,if_pos hsm]
       · rw [e] at hsm;cases hsm
       · obtain ⟨d,hd,hle⟩:=toE_some (H7.out.2.2.2.1.symm.trans e)
         have:=HT.out.1.some d hd
         rw [List.length_append,List.length_singleton]
         omega
      case measure =>
       have:=HT.out.2.2.2.2.1
       simp [intOf]
       omega
    · go_wp2_with (at_builtin;fail)
      refine ⟨rfl,(W.only_below HA.out.2.1).trans0 H9.out.2.1,.inr ⟨⟨mm,rfl⟩,?_,st1,H9.out.1⟩⟩
      rw [HT.out.1.res,show n - m=(n - (m+1))+1 by have:=HT.out.2.2.2.2.1;omega]
      simp only [rowD]
      rw [← H7.out.2.2.2.1,if_neg (by rw [← H7.out.2.2.1];exact Bool.false_ne_true)]
  · have q0:¬ (m:Int) < (n:Int):=by omega
    have HT:=Hj (Aj hT (show n - m=0 by omega))
    clear hT hl0 hpg hlt hm
    go_wp2_with (at_builtin;fail)
    go_ret
    refine ⟨(W.only_below HA.out.2.1).trans0 HT.out.1.only,.inl ⟨l,_,st,rfl,ownsRow_weak HT.out.1.own HA.out.2.1.size,HT.out.1.rd,?_⟩⟩
    have h1:=HT.out.1.res
    rw [HT.out.2] at h1
    exact h1
end Go.Proofs.YtilbbemdinpjcaaGreat.P
namespace Go.Proofs.YtilbbemdinpjcaaGreat.P
set_option maxRecDepth 100000
open Go.RowKit Go.Sort
def assetsD (xs:List UInt8) (st:Option Nat):Option (List As × Option Nat):=rowD (asV xs) (asE xs) (W.countV xs st 30) [] (W.countS xs st 30)
def totalsD (xs:List UInt8) (st:Option Nat):Option (List To × Option Nat):=rowD (toV xs) (toE xs) (W.numV xs st 4) [] (W.numS xs st 4)
theorem rowG_forms {α:Type} {f:FuncId} {args:Array Value} {V w:World} {ty:TypeId} {sz:Nat} {enc:α→Array Value} {g k:Nat} {xs:List UInt8} {c:Nat} {o:Option (List α × Option Nat)} (h:Calls Tryz.prog f args V (RowG ty sz enc g k xs c w o)) :
  Calls Tryz.prog f args V fun e w'=>(∃ v,e=.returned v∧(W.Only g w w' none∧∃ l st,w'.ownsRow w.heap.size ty sz v l.length (cellsF enc l)∧W.RSt w' g k xs c st∧o=some (l,st))) ∨ (∃ ch,e=.panicked ch∧(W.Only g w w' none∧Fault (.panicked ch)∧o=none∧∃ st,W.RSt w' g k xs c st)) :=
 h.mono fun e w' hr=>by
  rcases hr with ⟨h1,⟨l,v,st,rfl,h2,h3,h4⟩ | ⟨⟨n,rfl⟩,h2,h3⟩⟩
  ·
   exact .inl ⟨v,rfl,h1,l,st,h2,h3,h4⟩
  ·
   exact .inr ⟨_,rfl,h1,⟨n,rfl⟩,h2,h3⟩
theorem countV_lt (xs:List UInt8) (st:Option Nat):W.countV xs st 30≤30:=by
 cases st with
 | none=>simp [W.countV]
 | some a =>
   simp only [W.countV]
   split
   · rename_i h
     have:=h.2
     omega
   · simp
theorem getterAssets_any (w:World) (g k:Nat) (xs:List UInt8) (c:Nat) (st:Option Nat) (h:W.RSt w g k xs c st) (hx:xs.length < 1000000) :
  Calls Tryz.prog 147 #[.agg #[.pointer (some ⟨g,0,none⟩)]] w (RowG 146 34 asC g k xs c w (assetsD xs st)):=by
 obtain ⟨res,hres⟩:∃ r,r=assetsD xs st:=⟨_,rfl⟩
 rw [← hres]
 obtain ⟨hA,hb⟩:=box_one w (.pointer (some ⟨g,0,none⟩)) 174
 obtain ⟨n,hn⟩:∃ n:Nat,n=W.countV xs st 30:=⟨_,rfl⟩
 obtain ⟨s1,hs1⟩:∃ s,s=W.countS xs st 30:=⟨_,rfl⟩
 have HN:=Hj (Aj hn hs1)
 have HLT:=Hj h.lt
 have H:=Hj (Aj hres (Aj (h.below hb) (Aj hx (show n < 9223372036854775808 by have:=countV_lt xs st;omega))))
 clear h hres hx hn hs1
 go_enter Tryz.func147,Tryz.ntmps147
 go_upto_region 1 with fail
 generalize w.alloc (.cells #[.pointer (some ⟨g,0,none⟩)] 174)=W0 at hA hb H ⊢
 obtain ⟨p,hp⟩:∃ p,p=w.heap.size:=⟨_,rfl⟩
 rw [← hp] at hA ⊢
 have hpg:p≠g:=by have:=HLT.out;omega
 have HB:=Hj (Aj hA (Aj hb (Aj hp hpg)))
 clear hA hb hp hpg
 refine wp_region_held (S:=fun V=>V.cell? ⟨p,0,none⟩=some (.pointer (some ⟨g,0,none⟩))) (by kernel_rfl) ?_
 change wpAnyH _ _ _ _ _ 6 _ _ (World.drew W0)
 have hcur:(World.drew W0).cell? ⟨p,0,none⟩=some (.pointer (some ⟨g,0,none⟩)):=HB.out.1.cell 0 rfl
 have hd:Below W0.heap.size W0 W0.drew:=(Below.refl _ _).drew
 have hr0:=H.out.2.1.below hd
 have ho0:W.Only g W0 W0.drew none:=W.only_below hd
 refine tk 0 (.agg #[.pointer (some ⟨g,0,none⟩)]) 3 rfl rfl hcur ?_ (by intro w' hS';unfold execOp;simp [go_sem,hS'])
 refine tk 1 (.pointer (some ⟨p,0,none⟩)) 4 rfl rfl hcur ?_
 refine tk 2 (.pointer (some ⟨g,0,none⟩)) 5 rfl rfl hcur ?_ (by intro w' hS';unfold execOp;simp [go_sem,hS'])
 generalize W0.drew=U0 at hcur hr0 ho0 ⊢
 clear hd
 refine held_one (i:=3) (by kernel_rfl) _ rfl (wpOp_callG rfl (by rfl) 6 rfl 217 #[.pointer (some ⟨g,0,none⟩),.int .i64 30] (by unfold execOp;simp [go_sem]) (fun v w'=>v=.int .i64 (n:Int)∧W.RSt w' g k xs c s1∧W.Only g U0 w' none) ((W.count_rst U0 g k xs c st 30 hr0).mono fun e w' k=>⟨_,k.1,by rw [HN.out.1],by rw [HN.out.2];exact k.2.1,k.2.2⟩) ?_)
 rintro _ U1 ⟨rfl,hr1,hn⟩
 have hcur:=(onlyCell hn (Nat.lt_of_lt_of_le HB.out.1.lt ho0.size) HB.out.2.2.2).trans hcur
 have ho1:=ho0.trans0 hn
 refine ⟨hcur,?_⟩
 simp only [Sj]
 clear hn hr0 ho0
 have hfin:∀ o,o=rowD (asV xs) (asE xs) n [] s1→res=o:=fun o e=>by rw [e,H.out.1,HN.out.1,HN.out.2];rfl
 refine held_one (i:=4) (by kernel_rfl) _ rfl (wpOp_callP rfl (by rfl) 7 rfl 216 #[.agg #[.pointer (some ⟨g,0,none⟩)],.int .i64 (n:Int),.func (Fn.func 218) #[] #[]] (by unfold execOp;simp [go_sem]) _ _ (rowG_forms (rowAsset_any U1 g k xs c s1 n hr1 H.out.2.2.1 H.out.2.2.2)) ?_ ?_)
 ·
  rintro v U2 ⟨hn,l,s2,hown,hr2,hres⟩
  have hcur:=(onlyCell hn (Nat.lt_of_lt_of_le HB.out.1.lt ho1.size) HB.out.2.2.2).trans hcur
  have ho2:=ho1.trans0 hn
  have HF:=Hj (Aj (ownsRow_weak hown (Nat.le_trans HB.out.2.1.size ho1.size)) (Aj hr2 (Aj ((W.only_below HB.out.2.1).trans0 ho2) (hfin _ hres.symm))))
  refine ⟨hcur,?_⟩
  simp only [Sj]
  refine tk 5 v 2 rfl rfl hcur ?_
  refine held_done (by kernel_rfl) ?_
  clear hn hr1 ho1 ho2 hown hr2 hcur hres hfin
  go_wp2_with fail
  go_ret
  exact ⟨HF.out.2.2.1,.inl ⟨l,v,s2,rfl,HF.out.1,HF.out.2.1,HF.out.2.2.2⟩⟩
 ·
  rintro ch U2 ⟨hn,hf,hres,s2,hr2⟩
  have ho2:=(W.only_below HB.out.2.1).trans0 (ho1.trans0 hn)
  show bodyPost Tryz.prog Tryz.f147 _ (Exit.panic _) _ _
  exact ⟨rfl,ho2,.inr ⟨hf,hfin _ hres.symm,s2,hr2⟩⟩
theorem getterTotals_any (w:World) (g k:Nat) (xs:List UInt8) (c:Nat) (st:Option Nat) (h:W.RSt w g k xs c st) (hx:xs.length < 1000000) :
  Calls Tryz.prog 152 #[.agg #[.pointer (some ⟨g,0,none⟩)]] w (RowG 150 35 toC g k xs c w (totalsD xs st)):=by
 obtain ⟨res,hres⟩:∃ r,r=totalsD xs st:=⟨_,rfl⟩
 rw [← hres]
 obtain ⟨hA,hb⟩:=box_one w (.pointer (some ⟨g,0,none⟩)) 174
 obtain ⟨n,hn⟩:∃ n:Nat,n=W.numV xs st 4:=⟨_,rfl⟩
 obtain ⟨s1,hs1⟩:∃ s,s=W.numS xs st 4:=⟨_,rfl⟩
 have HN:=Hj (Aj hn hs1)
 have HLT:=Hj h.lt
 have H:=Hj (Aj hres (Aj (h.below hb) (Aj hx (show n < 9223372036854775808 by have:=numV_four xs st;omega))))
 clear h hres hx hn hs1
 go_enter Tryz.func152,Tryz.ntmps152
 go_upto_region 1 with fail
 generalize w.alloc (.cells #[.pointer (some ⟨g,0,none⟩)] 174)=W0 at hA hb H ⊢
 obtain ⟨p,hp⟩:∃ p,p=w.heap.size:=⟨_,rfl⟩
 rw [← hp] at hA ⊢
 have hpg:p≠g:=by have:=HLT.out;omega
 have HB:=Hj (Aj hA (Aj hb (Aj hp hpg)))
 clear hA hb hp hpg
 refine wp_region_held (S:=fun V=>V.cell? ⟨p,0,none⟩=some (.pointer (some ⟨g,0,none⟩))) (by kernel_rfl) ?_
 change wpAnyH _ _ _ _ _ 6 _ _ (World.drew W0)
 have hcur:(World.drew W0).cell? ⟨p,0,none⟩=some (.pointer (some ⟨g,0,none⟩)):=HB.out.1.cell 0 rfl
 have hd:Below W0.heap.size W0 W0.drew:=(Below.refl _ _).drew
 have hr0:=H.out.2.1.below hd
 have ho0:W.Only g W0 W0.drew none:=W.only_below hd
 refine tk 0 (.agg #[.pointer (some ⟨g,0,none⟩)]) 3 rfl rfl hcur ?_ (by intro w' hS';unfold execOp;simp [go_sem,hS'])
 refine tk 1 (.pointer (some ⟨p,0,none⟩)) 4 rfl rfl hcur ?_
 refine tk 2 (.pointer (some ⟨g,0,none⟩)) 5 rfl rfl hcur ?_ (by intro w' hS';unfold execOp;simp [go_sem,hS'])
 generalize W0.drew=U0 at hcur hr0 ho0 ⊢
 clear hd
 refine held_one (i:=3) (by kernel_rfl) _ rfl (wpOp_callG rfl (by rfl) 6 rfl 224 #[.pointer (some ⟨g,0,none⟩)] (by unfold execOp;simp [go_sem]) (fun v w'=>v=.int .i64 (n:Int)∧W.RSt w' g k xs c s1∧W.Only g U0 w' none) ((W.ask54_st U0 g k xs c st hr0).mono fun e w' k=>⟨_,k.1,by rw [HN.out.1],by rw [HN.out.2];exact k.2.1,k.2.2⟩) ?_)
 rintro _ U1 ⟨rfl,hr1,hn⟩
 have hcur:=(onlyCell hn (Nat.lt_of_lt_of_le HB.out.1.lt ho0.size) HB.out.2.2.2).trans hcur
 have ho1:=ho0.trans0 hn
 refine ⟨hcur,?_⟩
 simp only [Sj]
 clear hn hr0 ho0
 have hfin:∀ o,o=rowD (toV xs) (toE xs) n [] s1→res=o:=fun o e=>by rw [e,H.out.1,HN.out.1,HN.out.2];rfl
 refine held_one (i:=4) (by kernel_rfl) _ rfl (wpOp_callP rfl (by rfl) 7 rfl 223 #[.agg #[.pointer (some ⟨g,0,none⟩)],.int .i64 (n:Int),.func (Fn.func 225) #[] #[]] (by unfold execOp;simp [go_sem]) _ _ (rowG_forms (rowTotal_any U1 g k xs c s1 n hr1 H.out.2.2.1 H.out.2.2.2)) ?_ ?_)
 ·
  rintro v U2 ⟨hn,l,s2,hown,hr2,hres⟩
  have hcur:=(onlyCell hn (Nat.lt_of_lt_of_le HB.out.1.lt ho1.size) HB.out.2.2.2).trans hcur
  have ho2:=ho1.trans0 hn
  have HF:=Hj (Aj (ownsRow_weak hown (Nat.le_trans HB.out.2.1.size ho1.size)) (Aj hr2 (Aj ((W.only_below HB.out.2.1).trans0 ho2) (hfin _ hres.symm))))
  refine ⟨hcur,?_⟩
  simp only [Sj]
  refine tk 5 v 2 rfl rfl hcur ?_
  refine held_done (by kernel_rfl) ?_
  clear hn hr1 ho1 ho2 hown hr2 hcur hres hfin
  go_wp2_with fail
  go_ret
  exact ⟨HF.out.2.2.1,.inl ⟨l,v,s2,rfl,HF.out.1,HF.out.2.1,HF.out.2.2.2⟩⟩
 ·
  rintro ch U2 ⟨hn,hf,hres,s2,hr2⟩
  have ho2:=(W.only_below HB.out.2.1).trans0 (ho1.trans0 hn)
  show bodyPost Tryz.prog Tryz.f152 _ (Exit.panic _) _ _
  exact ⟨rfl,ho2,.inr ⟨hf,hfin _ hres.symm,s2,hr2⟩⟩
end Go.Proofs.YtilbbemdinpjcaaGreat.P
namespace Go.Proofs.YtilbbemdinpjcaaGreat.P
set_option maxRecDepth 100000
open Go.RowKit Go.Sort
def valD (xs:List UInt8) (st:Option Nat):Option ((Int × List As) × Option Nat):=(assetsD xs (W.numS xs st 8)).map fun x=>((IntKind.i64.wrap (W.numV xs st 8),x.1),x.2)
def ValG (g k:Nat) (xs:List UInt8) (c:Nat) (w:World) (o:Option ((Int × List As) × Option Nat)) (e:Ending) (w':World):Prop :=
 W.Only g w w' none∧((∃ x l a n cp st,e=.returned (.agg #[.int .i64 x,.slice a n cp])∧OwnAs w' w.heap.size (.slice a n cp) l∧W.RSt w' g k xs c st∧o=some ((x,l),st)) ∨ (Fault e∧o=none∧∃ st,W.RSt w' g k xs c st))
theorem rst_row {w:World} {g k:Nat} {xs:List UInt8} {c:Nat} {st:Option Nat} {q:Nat} (hr:W.RSt w g k xs c st) (cs:Array Value) (hq:q≠g) (hqk:q≠k):W.RSt (w.setRow q cs) g k xs c st:=by
 cases st with
 | none=>obtain ⟨a,h⟩:=hr;exact ⟨a,h.row q cs hq hqk⟩
 | some a=>exact ⟨hr.1,hr.2.row q cs hq hqk⟩
theorem own_row {w:World} {B:Nat} {ty:TypeId} {sz n:Nat} {v:Value} {l:List Value} {q:Nat} (h:w.ownsRow B ty sz v n l) (hq:q < B) (cs:Array Value):(w.setRow q cs).ownsRow B ty sz v n l:=by
 refine ⟨h.1,?_⟩
 rcases h.2 with h2 | ⟨g,cap,cur,h1,h2,h3,h4⟩
 ·
  exact .inl h2
 ·
  exact .inr ⟨g,cap,cur,h1,h2,by rw [setRow_other _ _ _ _ (by omega)];exact h3,h4⟩
theorem own_slice {w:World} {B:Nat} {ty:TypeId} {sz n:Nat} {v:Value} {l:List Value} (h:w.ownsRow B ty sz v n l):∃ a m cp,v=.slice a m cp:=by
 rcases h.2 with ⟨h1,_⟩ | ⟨g,cap,cur,h1,_⟩
 ·
  exact ⟨_,_,_,h1⟩
 ·
  exact ⟨_,_,_,h1⟩
theorem getterValue_any (w:World) (g k:Nat) (xs:List UInt8) (c:Nat) (st:Option Nat) (h:W.RSt w g k xs c st) (hx:xs.length < 1000000) :
  Calls Tryz.prog 150 #[.agg #[.pointer (some ⟨g,0,none⟩)]] w (ValG g k xs c w (valD xs st)):=by
 obtain ⟨res,hres⟩:∃ r,r=valD xs st:=⟨_,rfl⟩
 rw [← hres]
 obtain ⟨x,hxv⟩:∃ x:Int,x=IntKind.i64.wrap (W.numV xs st 8):=⟨_,rfl⟩
 obtain ⟨s1,hs1⟩:∃ s,s=W.numS xs st 8:=⟨_,rfl⟩
 obtain ⟨b1,b2,b3,b4⟩:=box_two w #[.pointer (some ⟨g,0,none⟩)] (#[.int .i64 0,.slice none 0 0]:Array Value) 174 27
 have HN:=Hj (Aj hxv hs1)
 have HLT:=Hj h.lt
 have H:=Hj (Aj hres (Aj h hx))
 clear h hres hx hxv hs1
 obtain ⟨W0,HW⟩:∃ W0,(w.alloc (.cells #[.pointer (some ⟨g,0,none⟩)] 174)).alloc (.cells (#[.int .i64 0,.slice none 0 0]:Array Value) 27)=W0:=⟨_,rfl⟩
 go_enter Tryz.func150,Tryz.ntmps150
 go_upto_region 1 with fail
 rw [HW] at b1 b2 b3 b4
 clear HW
 obtain ⟨p,hp⟩:∃ p,p=w.heap.size:=⟨_,rfl⟩
 obtain ⟨q,hq⟩:∃ q,q=w.heap.size+1:=⟨_,rfl⟩
 rw [← hq] at b2 ⊢
 rw [← hp] at b1 ⊢
 have hpg:p≠g:=by have:=HLT.out;omega
 have hqg:q≠g:=by have:=HLT.out;omega
 have HB:=Hj (Aj b1 (Aj b2 (Aj b3 (Aj hp (Aj hq (Aj hpg (Aj hqg b4)))))))
 clear b1 b2 b3 b4 hp hq hpg hqg
 refine wp_region_held (S:=fun V=>V.cell? ⟨p,0,none⟩=some (.pointer (some ⟨g,0,none⟩))) (by kernel_rfl) ?_
 change wpAnyH _ _ _ _ _ 7 _ _ (World.drew W0)
 have hcur:(World.drew W0).cell? ⟨p,0,none⟩=some (.pointer (some ⟨g,0,none⟩)):=HB.out.1.cell 0 rfl
 have hd:Below W0.heap.size W0 W0.drew:=(Below.refl _ _).drew
 refine tk 0 (.pointer (some ⟨p,0,none⟩)) 3 rfl rfl hcur ?_
 refine tk 1 (.pointer (some ⟨g,0,none⟩)) 4 rfl rfl hcur ?_ (by intro w' hS';unfold execOp;simp [go_sem,hS'])
 refine tk 3 (.agg #[.pointer (some ⟨g,0,none⟩)]) 6 rfl rfl hcur ?_ (by intro w' hS';unfold execOp;simp [go_sem,hS'])
 have hr0:=H.out.2.1.below (HB.out.2.2.1.trans (hd.mono HB.out.2.2.1.size))
 have ho0:W.Only g W0 W0.drew none:=W.only_below hd
 generalize W0.drew=U0 at hcur hr0 ho0 ⊢
 clear hd
 refine held_one (i:=2) (by kernel_rfl) _ rfl (wpOp_callG rfl (by rfl) 5 rfl 221 #[.pointer (some ⟨g,0,none⟩)] (by unfold execOp;simp [go_sem]) (fun v w'=>v=.int .i64 x∧W.RSt w' g k xs c s1∧W.Only g U0 w' none) ((W.ask56_st U0 g k xs c st hr0).mono fun e w' k=>⟨_,k.1,by rw [HN.out.1],by rw [HN.out.2];exact k.2.1,k.2.2⟩) ?_)
 rintro _ U1 ⟨rfl,hr1,hn⟩
 have hcur:=(onlyCell hn (Nat.lt_of_lt_of_le HB.out.1.lt ho0.size) HB.out.2.2.2.2.2.1).trans hcur
 have ho1:=ho0.trans0 hn
 refine ⟨hcur,?_⟩
 simp only [Sj]
 clear hn hr0 ho0
 have hfin:∀ o:Option (List As × Option Nat),assetsD xs s1=o→res=o.map fun y=>((x,y.1),y.2):=fun o e=>by rw [← e,H.out.1,HN.out.1,HN.out.2];rfl
 refine held_one (i:=4) (by kernel_rfl) _ rfl (wpOp_callP rfl (by rfl) 7 rfl 147 #[.agg #[.pointer (some ⟨g,0,none⟩)]] (by unfold execOp;simp [go_sem]) _ _ (rowG_forms (getterAssets_any U1 g k xs c s1 hr1 H.out.2.2)) ?_ ?_)
 ·
  rintro v U2 ⟨hn,l,s2,hown,hr2,hres⟩
  obtain ⟨a,n,cp,rfl⟩:=own_slice hown
  have hcur:=(onlyCell hn (Nat.lt_of_lt_of_le HB.out.1.lt ho1.size) HB.out.2.2.2.2.2.1).trans hcur
  have ho2:=ho1.trans0 hn
  have hA2:=ho2.lies HB.out.2.1 HB.out.2.2.2.2.2.2.1
  have how:OwnAs U2 (w.heap.size+2) (.slice a n cp) l:=ownsRow_weak hown (by rw [← HB.out.2.2.2.2.2.2.2];exact ho1.size)
  have HF:=Hj (Aj how (Aj hr2 (Aj ho2 (Aj (hfin _ hres) hA2))))
  refine ⟨hcur,?_⟩
  simp only [Sj]
  refine tk 5 (.agg #[.int .i64 x,.slice a n cp]) 8 rfl rfl hcur ?_
  refine held_one (i:=6) (by kernel_rfl) _ rfl (wpOp_storeRow rfl rfl rfl 27 (.tmp 2) (.tmp 8) rfl q #[.int .i64 x,.slice a n cp] rfl rfl 27 _ hA2 (by kernel_rfl) rfl (by simp [Value.oneCell']) ?_)
  refine ⟨by rw [show (U2.setRow q #[.int .i64 x,.slice a n cp]).cell? ⟨p,0,none⟩=U2.cell? ⟨p,0,none⟩ by simp only [World.cell?];rw [setRow_other _ _ _ _ (by have:=HB.out.2.2.2.1;have:=HB.out.2.2.2.2.1;omega)]];exact hcur,?_⟩
  refine held_done (by kernel_rfl) ?_
  clear hn hr1 ho1 ho2 hown hr2 hcur hres hfin hA2 how
  go_wp2_with fail
  have hkq:q≠k:=by have:=HB.out.2.2.2.2.1;have:=HLT.out;omega
  refine bodyPost_ret (v:=.agg #[.int .i64 x,.slice a n cp]) (results_cell_row (p:=2) (ty:=27) (by kernel_rfl) _ _ q 27 #[.int .i64 x,.slice a n cp] (0,0) _ rfl (HF.out.2.2.2.2.setRow _) Tryz.underlying27 rfl (by kernel_rfl)) rfl ?_
  exact ⟨W.only_row ((W.only_below HB.out.2.2.1).trans0 HF.out.2.2.1) (by rw [HB.out.2.2.2.2.1];omega) _,.inl ⟨x,l,a,n,cp,s2,rfl,ownsRow_weak (own_row HF.out.1 (by rw [HB.out.2.2.2.2.1];omega) _) (by omega),rst_row HF.out.2.1 _ HB.out.2.2.2.2.2.2.1 hkq,HF.out.2.2.2.1⟩⟩
 ·
  rintro ch U2 ⟨hn,hf,hres,s2,hr2⟩
  have ho2:=(W.only_below HB.out.2.2.1).trans0 (ho1.trans0 hn)
  show bodyPost Tryz.prog Tryz.f150 _ (Exit.panic _) _ _
  exact ⟨rfl,ho2,.inr ⟨hf,hfin _ hres,s2,hr2⟩⟩
end Go.Proofs.YtilbbemdinpjcaaGreat.P
