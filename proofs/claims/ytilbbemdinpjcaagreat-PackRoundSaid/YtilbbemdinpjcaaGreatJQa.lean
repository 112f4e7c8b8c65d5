/-
  pack: the getter's term.
-/
import Derived.Test.YtilbbemdinpjcaaGreatJPz
import Derived.Test.YtilbbemdinpjcaaGreatJTTap
set_option maxHeartbeats 16000000
namespace Go.Proofs.YtilbbemdinpjcaaGreat.P
set_option maxRecDepth 100000
open Go.RowKit
theorem decT_no {xs:List UInt8} {f l:Nat} {acc:List T.Nd} {st:Option Nat} (h:kindIn (W.numV xs st 1)=false):decT xs f (l+1) acc st=none:=by
 cases f with
 | zero=>rfl
 | succ f=>simp only [decT,h,Bool.false_eq_true,if_false]
theorem decT_next {xs:List UInt8} {f l:Nat} {acc:List T.Nd} {st:Option Nat} (h:kindIn (W.numV xs st 1)=true):decT xs (f+1) (l+1) acc st=decT xs f (l+(ndV xs (W.numS xs st 1) (W.numV xs st 1)).kids.toNat) (acc ++ [ndV xs (W.numS xs st 1) (W.numV xs st 1)]) (ndP xs (W.numS xs st 1) (W.numV xs st 1)):=by
 simp only [decT,h,if_true]
theorem decT_end {xs:List UInt8} {f:Nat} {acc:List T.Nd} {st:Option Nat}:decT xs f 0 acc st=st.map fun p=>(acc,p):=by cases f <;> rfl
def TermG (g k:Nat) (xs:List UInt8) (c:Nat) (w:World) (o:Option (List T.Nd × Nat)) (e:Ending) (w':World):Prop :=
 W.Only g w w' none∧((∃ ns a n cp st,e=.returned (.agg #[.slice a n cp])∧T.OwnT w' w.heap.size (.slice a n cp) ns∧ns.length≤100∧(∀ x ∈ ns,NdIn x)∧W.RSt w' g k xs c st∧o=st.map fun p=>(ns,p)) ∨ (Fault e∧o=none∧∃ st,W.RSt w' g k xs c st))
def lenAt (t:Nat) (w:World):Nat:=match w.cell? ⟨t,0,none⟩ with
 | some (.slice _ n _)=>n
 | _=>0
theorem lenAt_of {t:Nat} {w:World} {a:Option Addr} {n cp:Nat} (h:w.cell? ⟨t,0,none⟩=some (.slice a n cp)):lenAt t w=n:=by unfold lenAt;rw [h]
theorem box_three (w:World) (A C D:Array Value) (t s r:TypeId):Lies (((w.alloc (.cells A t)).alloc (.cells C s)).alloc (.cells D r)) w.heap.size A t∧Lies (((w.alloc (.cells A t)).alloc (.cells C s)).alloc (.cells D r)) (w.heap.size+1) C s∧Lies (((w.alloc (.cells A t)).alloc (.cells C s)).alloc (.cells D r)) (w.heap.size+2) D r∧Below w.heap.size w (((w.alloc (.cells A t)).alloc (.cells C s)).alloc (.cells D r))∧(((w.alloc (.cells A t)).alloc (.cells C s)).alloc (.cells D r)).heap.size=w.heap.size+3:=by
 obtain ⟨h1,h2,h3,h4⟩:=box_two w A C t s
 have h5:=Lies.new ((w.alloc (.cells A t)).alloc (.cells C s)) D r
 rw [h4] at h5
 exact ⟨h1.alloc _,h2.alloc _,h5,h3.alloc h3.size _,by simp⟩
structure TL (W1 V:World) (g k:Nat) (xs:List UInt8) (c:Nat) (t0 B:Nat) (res:Option (List T.Nd × Nat)) (L:Nat) (ns:List T.Nd) (st:Option Nat) (a:Option Addr) (n cp:Nat):Prop where
 len:ns.length≤100
 left:L≤1+ns.length * 65535
 res:res=decT xs (100 - ns.length) L ns st
 ins:∀ x ∈ ns,NdIn x
 rd:W.RSt V g k xs c st
 only:W.Only g W1 V (some t0)
 own:T.OwnT V B (.slice a n cp) ns
 box:Lies V t0 #[.slice a n cp] 24
theorem own_n {w:World} {B n cp:Nat} {a:Option Addr} {ns:List T.Nd} (h:T.OwnT w B (.slice a n cp) ns):n=ns.length:=by
 rcases h.form with ⟨h1,h2⟩ | ⟨g,cap,h1,-⟩
 ·
  cases h1;rw [h2];rfl
 ·
  cases h1;rfl
theorem ownT_weak {w:World} {B B':Nat} {v:Value} {ns:List T.Nd} (h:T.OwnT w B v ns) (hb:B'≤B):T.OwnT w B' v ns:=by
 refine ⟨h.1,?_⟩
 rcases h.2 with h2 | ⟨g,cap,cur,h1,h2,h3⟩
 ·
  exact .inl h2
 ·
  exact .inr ⟨g,cap,cur,h1,Nat.le_trans hb h2,h3⟩
theorem ownT_only {w w':World} {g B:Nat} {v:Value} {ns:List T.Nd} (h:T.OwnT w B v ns) (ho:W.Only g w w' none) (hg:g < B):T.OwnT w' B v ns :=
 W.own_only h ho (fun e=>by have:=h.above e;omega) (fun _ _=>by simp)
theorem only_of {g t:Nat} {w w1 w2:World} (h:W.Only g w w1 (some t)) (k:W.Only g w1 w2 none):W.Only g w w2 (some t):=W.Only.trans h (k.weak (some t)) (.inl rfl)
theorem only_off {g t:Nat} {w w1 w2:World} (hb:Below w.heap.size w w1) (h:W.Only g w1 w2 (some t)) (ht:w.heap.size≤t):W.Only g w w2 none :=
 ⟨h.os.trans hb.os,h.tape.trans hb.tape,h.output.trans hb.output,Nat.le_trans hb.size h.size,fun j hj hg _=>(h.block j (Nat.lt_of_lt_of_le hj hb.size) hg (fun e=>by have:=Option.some.inj e;omega)).trans (hb.block j hj)⟩
theorem grown_on {g t:Nat} {w w1 w2:World} {v:Value} (h:W.Only g w w1 (some t)) (hg:w1.grownBy w2 v.ownBlock) (hv:∀ j,v.ownBlock=some j→w.heap.size≤j):W.Only g w w2 (some t):=by
 have k:=W.grown_only hg g
 cases hb:v.ownBlock with
 | none=>rw [hb] at k;exact only_of h k
 | some j=>exact W.Only.trans h k (.inr ⟨j,hb,hv j hb⟩)
theorem rd_grown {w w':World} {g k:Nat} {xs:List UInt8} {c:Nat} {st:Option Nat} {v:Value} (h:W.RSt w g k xs c st) (hg:w.grownBy w' v.ownBlock) (h1:v.ownBlock≠some g) (h2:v.ownBlock≠some k):W.RSt w' g k xs c st:=by
 cases hb:v.ownBlock with
 | none =>
   rw [hb] at hg
   exact h.below ⟨hg.os,hg.tape,hg.output,hg.size,fun j hj=>hg.block j hj (by simp)⟩
 | some j =>
   rw [hb] at hg h1 h2
   exact h.only (g':=j) ⟨hg.os,hg.tape,hg.output,hg.size,fun i hi hn _=>hg.block i hi (fun e=>hn (Option.some.inj e))⟩ (fun e=>h1 (by rw [e])) (fun e=>h2 (by rw [e]))
theorem onlyCell2 {g t:Nat} {w w':World} (h:W.Only g w w' (some t)) {b o:Nat} (hb:b < w.heap.size) (h1:b≠g) (h2:b≠t):w'.cell? ⟨b,o,none⟩=w.cell? ⟨b,o,none⟩:=by
 simp only [World.cell?]
 rw [h.block b hb h1 (fun e=>h2 (Option.some.inj e))]
theorem getterTerm_any (w:World) (g k:Nat) (xs:List UInt8) (c:Nat) (st0:Option Nat) (h:W.RSt w g k xs c st0) :
 Calls Tryz.prog 121 #[.agg #[.pointer (some ⟨g,0,none⟩)]] w (TermG g k xs c w (decT xs 100 1 [] st0)):=by
 obtain ⟨res,hres⟩:∃ r,r=decT xs 100 1 [] st0:=⟨_,rfl⟩
 rw [← hres]
 obtain ⟨b1,b2,b3,b4,b5⟩:=box_three w #[.pointer (some ⟨g,0,none⟩)] #[.slice none 0 0] #[.slice none 0 0] 174 24 24
 have hlt:=h.lt
 have H:=Hj (Aj h hres)
 have HLT:=Hj hlt
 have HK:=Hj (fun V=>kindsG_any V g)
 clear h hres hlt
 go_enter Tryz.func121,Tryz.ntmps121
 go_upto_region 2 with fail
 generalize (((w.alloc (.cells #[.pointer (some ⟨g,0,none⟩)] 174)).alloc (.cells #[.slice none 0 0] 24)).alloc (.cells #[.slice none 0 0] 24))=W0 at b1 b2 b3 b4 b5 ⊢
 obtain ⟨p0,hp0⟩:∃ p,p=w.heap.size:=⟨_,rfl⟩
 obtain ⟨r0,hr0⟩:∃ p,p=w.heap.size+1:=⟨_,rfl⟩
 obtain ⟨t0,ht0⟩:∃ p,p=w.heap.size+2:=⟨_,rfl⟩
 rw [← ht0] at b3
 rw [← hr0] at b2
 rw [← hp0] at b1
 rw [show w.heap.size+1+1=w.heap.size+2 from rfl,← ht0,← hr0,← hp0]
 have c0:=b1.cell 0 (v:=.pointer (some ⟨g,0,none⟩)) rfl
 have HA:=Hj (Aj b1 (Aj b2 (Aj b3 (Aj b4 b5))))
 have HN:=Hj (Aj hp0 (Aj hr0 ht0))
 clear b1 b2 b3 b4 b5 hp0 hr0 ht0
 go_wp2_with fail
 refine (HK.out _).mono ?_
 rintro e W1 ⟨rfl,l1,l2,hb1,hs1⟩
 clear c0
 obtain ⟨z,hz⟩:∃ z,z=W0.heap.size:=⟨_,rfl⟩
 rw [← hz] at l1 l2 hs1 ⊢
 have hL1:=HA.out.1.below hb1 HA.out.1.lt
 have hL2:=HA.out.2.1.below hb1 HA.out.2.1.lt
 have hL3:=HA.out.2.2.1.below hb1 HA.out.2.2.1.lt
 have hbw:=HA.out.2.2.2.1.trans (hb1.mono HA.out.2.2.2.1.size)
 have hgz:z=w.heap.size+3:=by rw [hz];exact HA.out.2.2.2.2
 have HW:=Hj (Aj hL1 (Aj hL2 (Aj l1 (Aj l2 (Aj hbw (Aj hgz hs1))))))
 have hstart:TL W1 W1 g k xs c t0 W1.heap.size res 1 [] st0 none 0 0:=⟨Nat.zero_le _,by simp,H.out.2,(fun x hx=>by cases hx),H.out.1.below hbw,W.Only.refl _ _ _,World.ownsRow_nil _ _ _ _,hL3⟩
 have HST:=Hj hstart
 clear hz l1 l2 hs1 hL1 hL2 hL3 hbw hgz hstart hb1
 go_upto_region 4 with fail
 go_loopw [5] (fun i Z=>∃ (L:Nat) (ns:List T.Nd) (st:Option Nat) (a:Option Addr) (n cp:Nat),i=.int .i64 L∧TL W1 Z g k xs c t0 W1.heap.size res L ns st a n cp) (fun _ Z=>100 - lenAt t0 Z)
 case atStart=>exact ⟨1,[],st0,none,0,0,by go_num,HST.out⟩
 case round =>
  obtain ⟨L,ns,st,a,n,cp,rfl,hT⟩:=hrel
  have HNL:=Hj (own_n hT.own)
  have c3:=hT.box.cell 0 (v:=.slice a n cp) rfl
  have hne1:p0≠g:=by rw [HN.out.1];have:=HLT.out;omega
  have hne2:r0≠g:=by rw [HN.out.2.1];have:=HLT.out;omega
  have hne3:t0≠g:=by rw [HN.out.2.2];have:=HLT.out;omega
  have hne4:z≠g:=by have:=HW.out.2.2.2.2.2.1;have:=HLT.out;omega
  have hne5:z+1≠g:=by have:=HW.out.2.2.2.2.2.1;have:=HLT.out;omega
  have hnt1:p0≠t0:=by rw [HN.out.1,HN.out.2.2];omega
  have hnt2:r0≠t0:=by rw [HN.out.2.1,HN.out.2.2];omega
  have hnt4:z≠t0:=by have:=HW.out.2.2.2.2.2.1;rw [HN.out.2.2];omega
  have hnt5:z+1≠t0:=by have:=HW.out.2.2.2.2.2.1;rw [HN.out.2.2];omega
  have HNE:=Hj (Aj hne1 (Aj hne2 (Aj hne3 (Aj hne4 (Aj hne5 (Aj hnt1 (Aj hnt2 (Aj hnt4 hnt5))))))))
  clear hne1 hne2 hne3 hne4 hne5 hnt1 hnt2 hnt4 hnt5
  cases L with
  | zero =>
    have q0:¬ (0:Int) < ((0:Nat):Int):=by omega
    have hL2:Lies wr r0 #[.slice none 0 0] 24:=(hT.only.block r0 HW.out.2.1.lt HNE.out.2.1 (fun e=>HNE.out.2.2.2.2.2.2.1 (Option.some.inj e))).trans HW.out.2.1
    have k2:=hL2.cell 0 (v:=.slice none 0 0) rfl
    have f2:=hL2.free 0
    have HT:=Hj (Aj hT hL2)
    clear hT hL2
    go_wp2_with fail
    have hof:wr.heap.size≤(wr.setCell ⟨r0,0,none⟩ (.slice a n cp)).heap.size:=by rw [W.size_set];exact Nat.le_refl _
    have hS:Lies (wr.setCell ⟨r0,0,none⟩ (.slice a n cp)) r0 #[.slice a n cp] 24:=HT.out.2.set 0 (.slice a n cp)
    refine bodyPost_ret (v:=.agg #[.slice a n cp]) (results_cell_row (p:=2) (ty:=24) (by kernel_rfl) _ _ r0 24 #[.slice a n cp] (0,0) _ rfl hS Tryz.underlying24 rfl (by kernel_rfl)) rfl ?_
    have hoo:W.Only g w (wr.setCell ⟨r0,0,none⟩ (.slice a n cp)) none:=by
     have h1:=only_off HW.out.2.2.2.2.1 HT.out.1.only (by rw [HN.out.2.2];omega)
     refine ⟨h1.os,h1.tape,h1.output,Nat.le_trans h1.size hof,fun j hj hg hn => ?_⟩
     rw [heap_setCell_other wr ⟨r0,0,none⟩ j _ (by show j≠r0;rw [HN.out.2.1];omega)]
     exact h1.block j hj hg hn
    refine ⟨hoo,.inl ⟨ns,a,n,cp,st,rfl,?_,HT.out.1.len,HT.out.1.ins,?_,?_⟩⟩
    · refine ownT_weak (B:=W1.heap.size) ?_ HW.out.2.2.2.2.1.size
      have hr0lt:=HW.out.2.1.lt
      refine W.own_only (g:=r0) HT.out.1.own (W.only_set r0 0 wr _) (fun e => ?_) (fun _ _=>by simp)
      have:=HT.out.1.own.above e
      omega
    · have hrs:=HT.out.1.rd
      exact hrs.only (W.only_set r0 0 wr _) (Ne.symm HNE.out.2.1) (by rw [HN.out.2.1];have:=HLT.out;omega)
    · rw [HT.out.1.res,decT_end]
  | succ L =>
    have q0:(0:Int) < ((L+1:Nat):Int):=by omega
    have c0:=(show Lies wr p0 #[.pointer (some ⟨g,0,none⟩)] 174 from (hT.only.block p0 HW.out.1.lt HNE.out.1 (fun e=>HNE.out.2.2.2.2.2.1 (Option.some.inj e))).trans HW.out.1).cell 0 (v:=.pointer (some ⟨g,0,none⟩)) rfl
    have HC:=Hj (W.ask25_st wr g k xs c st hT.rd)
    obtain ⟨kd,hkd⟩:∃ kd,kd=W.numV xs st 1:=⟨_,rfl⟩
    obtain ⟨st1,hst1⟩:∃ s,s=W.numS xs st 1:=⟨_,rfl⟩
    rw [← hkd,← hst1] at HC
    have HT:=Hj (Aj hT (Aj hkd hst1))
    clear hT hkd hst1
    go_wp2_with fail
    refine HC.out.mono ?_
    rintro e W2 ⟨rfl,hr2,ho2⟩
    have hgl:g < W1.heap.size:=Nat.lt_of_lt_of_le HLT.out.1 HW.out.2.2.2.2.1.size
    have hoo:=only_of HT.out.1.only ho2
    have hown:=ownT_only HT.out.1.own ho2 hgl
    have hbox:=ho2.lies HT.out.1.box HNE.out.2.2.1
    have hzl:z < W1.heap.size:=by have:=HW.out.2.2.2.2.2.2;omega
    have hpz:W2.cell? ⟨z,0,none⟩=some (.pointer (some ⟨g,0,none⟩)):=(onlyCell2 hoo hzl HNE.out.2.2.2.1 HNE.out.2.2.2.2.2.2.2.1).trans HW.out.2.2.1
    have hmp:W2.heap[z+1]? = some (.map (kindsG z) 6):=(hoo.block (z+1) (Array.getElem?_eq_some_iff.1 HW.out.2.2.2.1).1 HNE.out.2.2.2.2.1 (fun e=>HNE.out.2.2.2.2.2.2.2.2 (Option.some.inj e))).trans HW.out.2.2.2.1
    have c3:=hbox.cell 0 (v:=.slice a n cp) rfl
    have H2:=Hj (Aj hr2 (Aj hoo (Aj hown (Aj hbox (Aj hpz (Aj hzl hgl))))))
    clear hr2 ho2 hoo hown hbox hpz hzl hgl c0 HC
    cases hkk:kindIn (kd:Int) with
    | false =>
      have hlk:=kindG_no kd hkk W2 (z+1) z hmp
      have hq:=nilG_nil
      have hno:res=none:=by rw [HT.out.1.res];exact decT_no (by rw [← HT.out.2.1];exact hkk)
      have HNO:=Hj hno
      clear hmp hno hkk
      go_wp2_with fail
      refine (must2 _ _ _).mono ?_
      rintro e W3 ⟨hm,hb3⟩
      rcases hm with ⟨hx,rfl⟩ | ⟨hx,m,rfl⟩
      · simp at hx
      · have H3:=Hj hb3
        clear hx hb3 hlk hq c3
        go_wp2_with fail
        refine ⟨rfl,only_off HW.out.2.2.2.2.1 (only_of H2.out.2.1 (W.only_below H3.out)) (by rw [HN.out.2.2];omega),.inr ⟨⟨m,rfl⟩,HNO.out,st1,H2.out.1.below H3.out⟩⟩
    | true =>
      obtain ⟨K,hK⟩:=kindG_at kd hkk
      have hlk:=hK.1 W2 (z+1) z hmp
      have hcf:=hK.2.1
      have hq:=funcG_nil K
      have HK3:=Hj hK.2.2
      by_cases hn:n < 100
      · have q1:(n:Int) < 100:=by omega
        have HKK:=Hj (Aj hkk hn)
        clear hmp hK hkk hn
        go_wp2_with fail
        refine (must2 _ _ _).mono ?_
        rintro e W3 ⟨hm,hb3⟩
        have he:e=.returned (.tuple #[]):=by
         rcases hm with ⟨_,h⟩ | ⟨hx,_⟩
         · exact h
         · simp at hx
        subst he
        clear hm
        have hpz3:=(hb3.cell (p:=⟨z,0,none⟩) (Nat.lt_of_lt_of_le H2.out.2.2.2.2.2.1 H2.out.2.1.size)).trans H2.out.2.2.2.2.1
        have HCK:=Hj (HK3.out W3 g k xs c st1 z hpz3 (Nat.lt_of_lt_of_le (Nat.lt_of_lt_of_le H2.out.2.2.2.2.2.1 H2.out.2.1.size) hb3.size) HNE.out.2.2.2.1 (H2.out.1.below hb3))
        have hoo:=only_of H2.out.2.1 (W.only_below hb3)
        have hown:=H2.out.2.2.1.kept hb3
        have hbox:=H2.out.2.2.2.1.below hb3 H2.out.2.2.2.1.lt
        have H3:=Hj (Aj hoo (Aj hown hbox))
        obtain ⟨x,ex⟩:∃ x,x=ndV xs st1 kd:=⟨_,rfl⟩
        rw [← ex] at HCK
        have hxk:=ndV_kids xs st1 kd
        have hxi:=ndV_in xs st1 kd HKK.out.1
        have hxe:x.kind=kd:=by
         rw [ex]
         unfold ndV
         repeat' split
         all_goals rfl
        rw [← ex] at hxk hxi
        have HX:=Hj (Aj ex (Aj hxk (Aj hxi hxe)))
        obtain ⟨k1,n1,b1,t1,d1⟩:=x
        obtain rfl:k1=(kd:Int):=HX.out.2.2.2
        unfold restC at HCK
        simp only at HCK
        clear hb3 hpz3 hoo hown hbox hlk c3 ex hxk hxi hxe
        go_wp2_with fail
        refine HCK.out.mono ?_
        rintro e W4 hr
        obtain ⟨rfl,hr4,ho4⟩:=hr
        go_upto_region 11 with fail
        have hB5:Below W4.heap.size W4 (W4.alloc (.cells #[.int .i64 kd,.int .i64 n1,.int .u64 b1,.string t1,.int .i64 d1] 72)):=(Below.refl _ _).alloc (Nat.le_refl _) _
        have hL5:=Lies.new W4 #[.int .i64 kd,.int .i64 n1,.int .u64 b1,.string t1,.int .i64 d1] 72
        generalize W4.alloc (.cells #[.int .i64 kd,.int .i64 n1,.int .u64 b1,.string t1,.int .i64 d1] 72)=W5 at hB5 hL5 ⊢
        have ho5:=only_of (only_of H3.out.1 ho4) (W.only_below hB5)
        have hw4:=ownT_only H3.out.2.1 ho4 H2.out.2.2.2.2.2.2
        have hj4:=W.own_block hw4
        have hw5:=hw4.kept hB5
        have hx5:=(ho4.lies H3.out.2.2 HNE.out.2.2.1).below hB5 (Nat.lt_of_lt_of_le H3.out.2.2.lt ho4.size)
        have hr5:=hr4.below hB5
        have hq5:W1.heap.size≤W4.heap.size:=Nat.le_trans H3.out.1.size ho4.size
        obtain ⟨q,hq⟩:∃ q,q=W4.heap.size:=⟨_,rfl⟩
        rw [← hq] at hL5 hq5 hj4 ⊢
        clear hq hB5 ho4 hr4 hw4
        have c3:=hx5.cell 0 (v:=.slice a n cp) rfl
        have y0:=hL5.cell 0 (v:=.int .i64 kd) rfl
        have y1:=hL5.cell 1 (v:=.int .i64 n1) rfl
        have y2:=hL5.cell 2 (v:=.int .u64 b1) rfl
        have y3:=hL5.cell 3 (v:=.string t1) rfl
        have y4:=hL5.cell 4 (v:=.int .i64 d1) rfl
        have hB6:Below W5.heap.size W5 (W5.alloc (.cells #[.int .i64 kd,.int .i64 n1,.int .u64 b1,.string t1,.int .i64 d1] 72)):=(Below.refl _ _).alloc (Nat.le_refl _) _
        have hs6:=T.src_node (n:=⟨kd,n1,b1,t1,d1⟩) (Lies.new W5 #[.int .i64 kd,.int .i64 n1,.int .u64 b1,.string t1,.int .i64 d1] 72)
        have H6:=Hj (Aj (only_of ho5 (W.only_below hB6)) (Aj (hw5.kept hB6) (Aj (hx5.below hB6 hx5.lt) (Aj (hr5.below hB6) (Aj (hL5.below hB6 hL5.lt) (Aj hs6 hq5))))))
        have HLN:=Hj (show ns.length+1≤1000000 by have:=HT.out.1.len;omega)
        have HQT:=Hj hj4
        have HT0:=Hj (show t0 < W1.heap.size by rw [HN.out.2.2];have:=HW.out.2.2.2.2.2.1;have:=HW.out.2.2.2.2.2.2;omega)
        clear ho5 hw5 hx5 hr5 hL5 hB6 hs6 hq5 hj4
        go_upto_region 12 with (first
         | (at_builtin;go_must (refine T.wpList_append_T rfl _ _ rfl W1.heap.size _ _ ns [⟨kd,n1,b1,t1,d1⟩] rfl H6.out.2.1 rfl H6.out.2.2.2.2.2.1 HLN.out H6.out.1.size ?_;intro v' W7 hown7 hgrow7 _;obtain ⟨a7,n7,c7,rfl⟩:=hown7.isSlice;have HO7:=Hj (Aj hown7 hgrow7);have HB7:=Hj (T.grown_lies hgrow7 H6.out.2.2.1 (fun e=>by have:=(HQT.out _ e.symm).1;have:=HT0.out;omega));have k7:=HB7.out.cell 0 (v:=.slice a n cp) rfl;have f7:=HB7.out.free 0;clear hown7 hgrow7)))
        have hL7:=T.grown_lies HO7.out.2 H6.out.2.2.2.2.1 (fun e=>by have:=(HQT.out _ e.symm).2;omega)
        have hqt:q≠t0:=by have:=H6.out.2.2.2.2.2.2;have:=HT0.out;omega
        have hL8:Lies (W7.setCell ⟨t0,0,none⟩ (.slice a7 n7 c7)) q #[.int .i64 kd,.int .i64 n1,.int .u64 b1,.string t1,.int .i64 d1] 72:=(heap_setCell_other W7 ⟨t0,0,none⟩ q _ hqt).trans hL7
        have hX8:Lies (W7.setCell ⟨t0,0,none⟩ (.slice a7 n7 c7)) t0 #[.slice a7 n7 c7] 24:=HB7.out.set 0 (.slice a7 n7 c7)
        have hgw:W.Only g W1 W7 (some t0):=grown_on H6.out.1 HO7.out.2 (fun j e=>(HQT.out j e).1)
        have hS8:=W.only_set t0 0 W7 (.slice a7 n7 c7)
        have hG8:W.Only g W1 (W7.setCell ⟨t0,0,none⟩ (.slice a7 n7 c7)) (some t0):=⟨hS8.os.trans hgw.os,hS8.tape.trans hgw.tape,hS8.output.trans hgw.output,Nat.le_trans hgw.size hS8.size,fun j hj hg hn=>(hS8.block j (Nat.lt_of_lt_of_le hj hgw.size) (fun e=>hn (by rw [e])) (by simp)).trans (hgw.block j hj hg hn)⟩
        have hkl:k < W1.heap.size:=Nat.lt_of_lt_of_le HLT.out.2.1 HW.out.2.2.2.2.1.size
        have hR7:=rd_grown H6.out.2.2.2.1 HO7.out.2 (fun e=>by have:=(HQT.out _ e).1;have:=H2.out.2.2.2.2.2.2;omega) (fun e=>by have:=(HQT.out _ e).1;omega)
        have hR8:=hR7.only hS8 (Ne.symm HNE.out.2.2.1) (by rw [HN.out.2.2];have:=HLT.out;omega)
        have hW8:T.OwnT (W7.setCell ⟨t0,0,none⟩ (.slice a7 n7 c7)) W1.heap.size (.slice a7 n7 c7) (ns ++ [⟨kd,n1,b1,t1,d1⟩]):=W.own_only (g:=t0) HO7.out.1 hS8 (fun e=>by have:=HO7.out.1.above e;have:=HT0.out;omega) (fun _ _=>by simp)
        generalize W7.setCell ⟨t0,0,none⟩ (.slice a7 n7 c7)=W8 at hL8 hX8 hG8 hR8 hW8 ⊢
        have y4:=hL8.cell 4 (v:=.int .i64 d1) rfl
        have hd:=HX.out.2.1
        have hL0:=HT.out.1.left
        have hl0:=HT.out.1.len
        have b1':(0:Int)≤d1:=hd.1
        have b2':d1 < 65536:=hd.2
        have b3':(L:Int)≤6553600:=by omega
        have b4':(0:Int)≤(L:Int):=by omega
        have H8:=Hj (Aj hX8 (Aj hG8 (Aj hR8 hW8)))
        clear hL7 hqt hL8 hX8 hgw hS8 hG8 hkl hR7 hR8 hW8 hd hL0 hl0 y0 y1 y2 y3 k7 f7 c3
        go_wp2_with fail
        go_roundw
        case rel =>
         have hn7:=own_n H8.out.2.2.2
         refine ⟨L+d1.toNat,ns ++ [⟨kd,n1,b1,t1,d1⟩],ndP xs st1 kd,a7,n7,c7,?_,?_⟩
         · rw [show ((L+d1.toNat:Nat):Int)=(L:Int)+d1 by omega]
           go_num
         · have hnn:=HNL.out
           have hlt:=HKK.out.2
           refine ⟨?_,?_,?_,?_,H8.out.2.2.1,H8.out.2.1,H8.out.2.2.2,H8.out.1⟩
           · rw [List.length_append,List.length_singleton];omega
           · rw [List.length_append,List.length_singleton]
             have:=HT.out.1.left
             omega
           · rw [HT.out.1.res]
             have e1:100 - ns.length=(99 - ns.length)+1:=by omega
             have e2:100 - (ns ++ [(⟨kd,n1,b1,t1,d1⟩:T.Nd)]).length=99 - ns.length:=by rw [List.length_append,List.length_singleton];omega
             have e3:ndV xs (W.numS xs st 1) (W.numV xs st 1)=⟨kd,n1,b1,t1,d1⟩:=by rw [← HT.out.2.2,← HT.out.2.1];exact HX.out.1.symm
             rw [e1,e2,decT_next (by rw [← HT.out.2.1];exact HKK.out.1),e3,← HT.out.2.2,← HT.out.2.1]
           · intro y hy
             rcases List.mem_append.1 hy with h1 | h1
             · exact HT.out.1.ins y h1
             · rw [List.mem_singleton] at h1
               rw [h1]
               exact HX.out.2.2.1
        case measure =>
         have hn7:=own_n H8.out.2.2.2
         rw [List.length_append,List.length_singleton] at hn7
         rw [lenAt_of (H8.out.1.cell 0 (v:=.slice a7 n7 c7) rfl),lenAt_of (HT.out.1.box.cell 0 (v:=.slice a n cp) rfl),hn7,HNL.out]
         have:=HKK.out.2
         rw [HNL.out] at this
         omega
      · have q1:¬ (n:Int) < 100:=by omega
        have hno:res=none:=by
         have h1:=HT.out.1.res
         rw [show 100 - ns.length=0 by have:=HNL.out;omega] at h1
         rw [h1]
         rfl
        have HNO:=Hj hno
        clear hmp hno hkk hK hn
        go_wp2_with fail
        refine (must2 _ _ _).mono ?_
        rintro e W3 ⟨hm,hb3⟩
        rcases hm with ⟨hx,rfl⟩ | ⟨hx,m,rfl⟩
        · first
           | (simp at hx;done)
           | (simp at hx;omega)
        · have H3:=Hj hb3
          clear hx hb3 hlk hq c3
          go_wp2_with fail
          refine ⟨rfl,only_off HW.out.2.2.2.2.1 (only_of H2.out.2.1 (W.only_below H3.out)) (by rw [HN.out.2.2];omega),.inr ⟨⟨m,rfl⟩,HNO.out,st1,H2.out.1.below H3.out⟩⟩
end Go.Proofs.YtilbbemdinpjcaaGreat.P
