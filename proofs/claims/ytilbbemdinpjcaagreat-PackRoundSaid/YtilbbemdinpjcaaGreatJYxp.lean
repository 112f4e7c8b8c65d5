/-
  PackRound returns true for any thing and any bytes, and its arguments read as they did. No condition.
-/
import Derived.Test.YtilbbemdinpjcaaGreatJYw
import Derived.Test.YtilbbemdinpjcaaGreatRows
import Derived.Test.YtilbbemdinpjcaaGreatJQe
set_option maxHeartbeats 16000000
namespace Go.Proofs.YtilbbemdinpjcaaGreat.P
set_option maxRecDepth 100000
open Go.RowKit Go.Sort
theorem cntT_fit (l:List To) (h:∀ a ∈ l,ToFit a):cntT l≤3 * l.length:=by
 unfold cntT
 induction l with
 | nil=>exact Nat.le_refl _
 | cons a l ih =>
   have h1:=(h a List.mem_cons_self).2
   have h2:=ih fun b hb=>h b (List.mem_cons_of_mem _ hb)
   rw [List.map_cons,List.sum_cons,List.length_cons]
   omega
theorem sz_put {V:World} {x:Th} (hx:ThOk V x) (hc:cntAll x≤2000) (n:Nat):sz (putS (some []) x n)≤900000:=by
 unfold cntAll cntD at hc
 have z:sz (some ([]:List UInt8))=0:=rfl
 unfold putS
 split
 ·
  split
  ·
   have:=sz_term x.ns (some []);omega
  ·
   exact Nat.zero_le _
 ·
  split
  ·
   have:=sz_asL x.l (some []) (fun a ha=>(hx.a.2.1 a ha).1);omega
  ·
   exact Nat.zero_le _
 ·
  split
  ·
   have:=sz_val x.v (some []) (fun a ha=>(hx.v.2.2.2.1 a ha).1)
   have e:cntV x.v=1+cntA x.v.l:=rfl
   omega
  ·
   exact Nat.zero_le _
 ·
  split
  ·
   have:=sz_tot x.t (some []) (fun a ha=>(hx.tot.2.1 a ha).1);omega
  ·
   exact Nat.zero_le _
 ·
  split
  ·
   have:=sz_out (some []) x.o hx.o.ah hx.o.dh (fun a ha=>(hx.o.v.2.2.2.1 a ha).1);omega
  ·
   exact Nat.zero_le _
 ·
  split
  ·
   have:=sz_ref (some []) x.r hx.r.1;omega
  ·
   exact Nat.zero_le _
 ·
  split
  ·
   have:=sz_ens x.es (some []) (rowE_h hx.e);omega
  ·
   exact Nat.zero_le _
 ·
  split
  ·
   rename_i hr
   unfold rightDB at hr
   simp only [Bool.and_eq_true] at hr
   have h1:=sz_ens x.d.s (some []) (rowE_h hx.d.s)
   have h2:=sz_ens x.d.m (ensS (some []) x.d.s) (rowE_h hx.d.m)
   have h3:=sz_N (ensS (ensS (some []) x.d.s) x.d.m) (W.low64 x.d.fe) 8
   have h4:=sz_N (W.stepN (ensS (ensS (some []) x.d.s) x.d.m) (W.low64 x.d.fe) 8) (W.low64 x.d.fo) 8
   have h5:=sz_tot x.d.l (W.stepN (W.stepN (ensS (ensS (some []) x.d.s) x.d.m) (W.low64 x.d.fe) 8) (W.low64 x.d.fo) 8) (fun a ha=>(hx.d.l.2.1 a ha).1)
   have h6:=cntT_fit x.d.l (wellT_fit hr.1.2 hx.d.l.2.1)
   have e:diffS (some []) x.d=totS (W.stepN (W.stepN (ensS (ensS (some []) x.d.s) x.d.m) (W.low64 x.d.fe) 8) (W.low64 x.d.fo) 8) x.d.l:=rfl
   rw [e]
   omega
  ·
   exact Nat.zero_le _
theorem onlyT_ok {V:World} {x:Th} (h:ThOk V x) (n:Nat):ThOk V (onlyT x n):=by
 have z:=(thZ_in V 0).ok
 unfold onlyT
 split
 ·
  exact { z with t:=h.t }
 ·
  exact { z with a:=h.a }
 ·
  exact { z with v:=h.v }
 ·
  exact { z with tot:=h.tot }
 ·
  exact { z with o:=h.o }
 ·
  exact { z with r:=h.r }
 ·
  exact { z with e:=h.e }
 ·
  exact { z with d:=h.d }
theorem below_grown {B:Nat} {a w w':World} {o:Option Nat} (h:Below B a w) (hg:w.grownBy w' o) (ho:∀ j,o=some j→B≤j) (hB:B≤a.heap.size):Below B a w' :=
 ⟨hg.os.trans h.os,hg.tape.trans h.tape,hg.output.trans h.output,Nat.le_trans h.size hg.size,fun j hj=>(hg.block j (Nat.lt_of_lt_of_le (Nat.lt_of_lt_of_le hj hB) h.size) (fun e=>by have:=ho j e.symm;omega)).trans (h.block j hj)⟩
structure RoundAt (W0:World) (p:Nat) (xc:Array Value) (x:Th) (bv:Value) (ys:List UInt8):Prop where
 lies:Lies W0 p xc 42
 ok:ThOk W0 x
 bs:W.Bs W0 bv ys
theorem RoundAt.below {W0 V:World} {p:Nat} {xc:Array Value} {x:Th} {bv:Value} {ys:List UInt8} (h:RoundAt W0 p xc x bv ys) (hb:Below W0.heap.size W0 V):RoundAt V p xc x bv ys:=⟨h.lies.below hb h.lies.lt,h.ok.below hb,h.bs.below hb⟩
theorem RoundAt.at {W0:World} {p:Nat} {xc:Array Value} {x:Th} {bv:Value} {ys:List UInt8} (h:RoundAt W0 p xc x bv ys) (e:xc=thC x):ThAt W0 p x:=thAt_of (by rw [← e];exact h.lies) h.ok.o.ah h.ok.o.dh h.ok.r.1
attribute [-go_sem] Instr.build
theorem packRound_any (w:World) (x:Th) (bv:Value) (ys:List UInt8) (hx:ThRaw w x) (hb:W.Bs w bv ys) (hyl:ys.length≤140737488355328) :
 Calls Tryz.prog 6 #[.agg (thC x),bv] w fun e w'=>e=.returned (.bool true)∧Below w.heap.size w w':=by
 obtain ⟨A,cb,rfl⟩:=hb.form
 obtain ⟨N,hN⟩:∃ N,N=ys.length:=⟨_,rfl⟩
 have hNl:(N:Int)≤140737488355328:=by omega
 have hb0:Below w.heap.size w (w.alloc (.cells (thC x) 42)):=(Below.refl _ _).alloc (Nat.le_refl _) _
 have hL:=Lies.new w (thC x) 42
 obtain ⟨W0,HW⟩:∃ W0,w.alloc (.cells (thC x) 42)=W0:=⟨_,rfl⟩
 rw [HW] at hb0 hL
 obtain ⟨xc,hxc⟩:∃ y,y=thC x:=⟨_,rfl⟩
 have hI:(Tryz.prog.info? 42).map (·.size)=some xc.size:=by rw [hxc,thC_size x hx.o.ah hx.o.dh hx.r.1];exact info_thing
 obtain ⟨p,hp⟩:∃ p,p=w.heap.size:=⟨_,rfl⟩
 rw [← hxc] at HW hL ⊢
 rw [← hp] at hL
 rw [← hN]
 have HI:=Hj (Aj hI (Aj hxc hN))
 have H0:=Hj (Aj hb0 (Aj hL (Aj (hx.below hb0) (Aj (hb.below hb0) hx.put))))
 clear hx hb hyl hb0 hL hxc hI hN
 go_enter Tryz.func6,Tryz.ntmps6
 go_upto_region 1 with fail
 rw [← hp]
 clear HW hp
 go_wp2_with fail
 refine (awakeP_more W0).mono ?_
 rintro e w1 ⟨rfl,hb1,hp1⟩
 have HG:=Hj (show Calls Tryz.prog 9 #[.agg xc] w1 fun e w'=>GreatR (cntAll x) e∧Below w1.heap.size w1 w' by
  rw [HI.out.2.1]
  exact greatTh_any w1 x (H0.out.2.2.1.below hb1))
 have H1:=Hj (Aj hb1 (Aj (H0.out.2.1.below hb1 H0.out.2.1.lt) hp1))
 clear hb1 hp1
 go_wp2_with (first
  | (at_builtin;fail)
  | (refine wpList_load_row rfl 42 _ rfl p rfl 42 xc (0,0) _ H1.out.2.1 Tryz.underlying42 rfl HI.out.1 ?_))
 refine HG.out.mono ?_
 rintro e w2 ⟨⟨r,rfl,hr⟩,hb2⟩
 have hb02:=H1.out.1.trans (hb2.mono H1.out.1.size)
 have H2:=Hj (Aj hb02 (Aj hr (Nat.lt_of_lt_of_le H1.out.2.2 hb2.size)))
 clear hb2 hb02 hr HG
 cases r with
 | true =>
   go_wp2_with fail
   go_ret
   exact ⟨rfl,H0.out.1.trans (H2.out.1.mono H0.out.1.size)⟩
 | false =>
 by_cases hlt:2000 < N
 · have i1:(2000:Int) < (N:Int):=by omega
   clear hlt
   go_wp2_with fail
   go_ret
   exact ⟨rfl,H0.out.1.trans (H2.out.1.mono H0.out.1.size)⟩
 have i1:¬ (2000:Int) < (N:Int):=by omega
 have HY:=Hj (show ys.length≤2000 by rw [← HI.out.2.2];omega)
 have HCA:=Hj (H2.out.2.1 rfl)
 have HR:=Hj (show RoundAt w2 p xc x (.slice A ys.length cb) ys from ⟨H0.out.2.1.below H2.out.1 H0.out.2.1.lt,(H0.out.2.2.1.below H2.out.1).ok HCA.out,H0.out.2.2.2.1.below H2.out.1⟩)
 have HPI:=Hj H0.out.2.2.2.2
 have HFB:=Hj (H0.out.1.trans (H2.out.1.mono H0.out.1.size))
 have HPOS:=Hj H2.out.2.2
 clear hlt H0 H1 H2
 go_wp2_with fail
 go_loopw [5] (fun i Z=>∃ k:Nat,k≤8∧i=.int .i64 k∧Below w2.heap.size w2 Z) (fun i _=>8 - (intOf i).toNat)
 case atStart=>exact ⟨0,by omega,rfl,Below.refl _ _⟩
 case round =>
  obtain ⟨k,hk,rfl,hbw⟩:=hrel
  by_cases hlt:k < 8
  · have m1:(k:Int) < 8:=by omega
    have m2:(k:Int)+1≤9223372036854775807:=by omega
    have m0:(0:Int)≤(k:Int):=by omega
    have HK:=Hj hlt
    have HBW:=Hj hbw
    have HRr:=Hj (HR.out.below hbw)
    clear hk hlt hbw
    go_wp2_with fail
    refine (newW_any wr).mono ?_
    rintro e u1 ⟨rfl,⟨v1,hw1⟩,hbu1⟩
    have hst:Stays wr.heap.size u1 v1 fun V=>ThOk V x:=stays_low hw1 hbu1 (w0:=wr) fun V hV=>HRr.out.ok.below hV
    have hC:=putTh_any u1 x hst HPI.out hw1 (by simp only [sz,List.length_nil];omega) k HK.out (cntTh_le HCA.out k)
    rw [← HI.out.2.1] at hC
    obtain ⟨gw,hgw⟩:∃ y,y=wr.heap.size:=⟨_,rfl⟩
    obtain ⟨st,hst2⟩:∃ s,s=putS (some []) x k:=⟨_,rfl⟩
    rw [← hst2] at hC
    have HC:=Hj hC
    rw [← hgw] at HC ⊢
    have HU1:=Hj (Aj hbu1 (Aj hw1 (Aj hgw (Aj hst2 (HRr.out.lies.below hbu1 HRr.out.lies.lt)))))
    clear hbu1 hw1 hgw hst hC hst2
    go_wp2_with (first
     | (at_builtin;fail)
     | (refine wpList_load_row rfl 42 _ rfl p rfl 42 xc (0,0) _ HU1.out.2.2.2.2 Tryz.underlying42 rfl HI.out.1 ?_))
    refine HC.out.mono ?_
    rintro e u3 ⟨rfl,v3,hw3,hk3⟩
    have hbu3:Below wr.heap.size u1 u3:=hk3.low (by rw [← HU1.out.2.2.1];exact Nat.le_refl _) (fun y e=>(HU1.out.2.1.own y e).1) HU1.out.1.size
    have hsz:sz st≤900000:=by rw [HU1.out.2.2.2.1];exact sz_put HRr.out.ok HCA.out k
    have HC2:=Hj (bytesW_any u3 hw3 (by omega))
    have HU3:=Hj (Aj (HU1.out.1.trans hbu3) (Aj hsz HU1.out.2.2.2.1))
    clear hw3 hk3 hbu3 hsz HC
    go_wp2_with (at_builtin;fail)
    refine HC2.out.mono ?_
    rintro e u4 ⟨u,er,rfl,her,hown,hbu4⟩
    have hbr:Below wr.heap.size wr u4:=HU3.out.1.trans (hbu4.mono HU3.out.1.size)
    cases st with
    | none =>
      rw [show (if (none:Option (List UInt8)).isNone=true then (2:Int) else 0)=2 from rfl] at her
      subst her
      obtain ⟨a4,c4,rfl⟩:=own_len hown
      rw [show ((bs none).length)=0 from rfl]
      have HN:=Hj (none_wrong HRr.out.ok HPI.out HCA.out HU3.out.2.2.symm)
      have HR4:=Hj (HRr.out.below hbr)
      have HB4:=Hj hbr
      clear hown hbu4 hbr
      by_cases h4:k=4
      · subst h4
        obtain ⟨oa,hoa⟩:∃ y,y=otC x.o:=⟨_,rfl⟩
        have HRG:=Hj (Aj (show u4.rangeAt p 5 oa.toList by rw [hoa];exact (RoundAt.at HR4.out HI.out.2.1).o) (show (Tryz.prog.info? 35).map (·.size)=some oa.toList.length by rw [Array.length_toList,hoa,otC_size _ HR4.out.ok.o.ah HR4.out.ok.o.dh];exact info_output))
        have HQ:=Hj (show Calls Tryz.prog 13 #[.agg oa] u4 fun e w'=>e=.returned (.bool false)∧Below u4.heap.size u4 w' by rw [hoa,← HN.out.1 rfl];exact rightOutput_any u4 x.o HR4.out.ok.o)
        clear hoa
        clear HC2 HU3 HU1 m0 m1 m2
        go_wp2_with (first | (at_builtin;fail) | (refine wpList_load_midG (by rfl) 35 _ rfl p 5 rfl oa.toList _ HRG.out.1 Tryz.underlying35 rfl HRG.out.2 ?_))
        refine HQ.out.mono ?_
        rintro e u5 ⟨rfl,hb5⟩
        have HB5:=Hj (HB4.out.trans (hb5.mono HB4.out.size))
        clear hb5 HQ
        go_wp2_with fail
        refine ⟨⟨5,by omega,rfl,HBW.out.trans (HB5.out.mono HBW.out.size)⟩,?_⟩
        first | (show 8 - 5 < 8 - 4;omega) | decide
      by_cases h6:k=6
      · subst h6
        obtain ⟨ea,hea⟩:∃ y,y=x.pe:=⟨_,rfl⟩
        obtain ⟨n5,hn5⟩:∃ y,y=x.es.length:=⟨_,rfl⟩
        obtain ⟨wa,hwa⟩:∃ y,y=x.ce:=⟨_,rfl⟩
        have c7:u4.cell? ⟨p,107,none⟩=some (.slice ea n5 wa):=by rw [hea,hn5,hwa];exact (RoundAt.at HR4.out HI.out.2.1).e
        have HQ:=Hj (show Calls Tryz.prog 15 #[.slice ea n5 wa] u4 fun e w'=>e=.returned (.bool false)∧Below u4.heap.size u4 w' by rw [hea,hn5,hwa,← HN.out.2.1 rfl];exact rightEntries_any u4 x.pe x.es x.ce HR4.out.ok.e)
        clear hea hn5 hwa
        clear HC2 HU3 HU1 m0 m1 m2
        go_wp2_with (first | (at_builtin;fail) | fail)
        refine HQ.out.mono ?_
        rintro e u5 ⟨rfl,hb5⟩
        have HB5:=Hj (HB4.out.trans (hb5.mono HB4.out.size))
        clear hb5 HQ
        clear c7
        go_wp2_with fail
        refine ⟨⟨7,by omega,rfl,HBW.out.trans (HB5.out.mono HBW.out.size)⟩,?_⟩
        first | (show 8 - 7 < 8 - 6;omega) | decide
      by_cases h7:k=7
      · subst h7
        obtain ⟨da,hda⟩:∃ y,y=dfC x.d:=⟨_,rfl⟩
        have HRG:=Hj (Aj (show u4.rangeAt p 108 da.toList by rw [hda];exact (RoundAt.at HR4.out HI.out.2.1).d) (show (Tryz.prog.info? 40).map (·.size)=some da.toList.length by rw [Array.length_toList,hda];exact info_diff))
        have HQ:=Hj (show Calls Tryz.prog 17 #[.agg da] u4 fun e w'=>e=.returned (.bool false)∧Below u4.heap.size u4 w' by rw [hda,← HN.out.2.2 rfl];exact rightDiff_any u4 x.d HR4.out.ok.d HPI.out.room)
        clear hda
        clear HC2 HU3 HU1 m0 m1 m2
        go_wp2_with (first | (at_builtin;fail) | (refine wpList_load_midG (by rfl) 40 _ rfl p 108 rfl da.toList _ HRG.out.1 Tryz.underlying40 rfl HRG.out.2 ?_))
        refine HQ.out.mono ?_
        rintro e u5 ⟨rfl,hb5⟩
        have HB5:=Hj (HB4.out.trans (hb5.mono HB4.out.size))
        clear hb5 HQ
        go_wp2_with fail
        refine ⟨⟨8,by omega,rfl,HBW.out.trans (HB5.out.mono HBW.out.size)⟩,?_⟩
        first | (show 8 - 8 < 8 - 7;omega) | decide
      have d4:¬ (k:Int)=4:=by omega
      have d6:¬ (k:Int)=6:=by omega
      have d7:¬ (k:Int)=7:=by omega
      clear h4 h6 h7 HC2 HU3 HU1
      go_wp2_with fail
      have e1:(k:Int)+1=((k+1:Nat):Int):=by omega
      rw [e1]
      refine ⟨⟨k+1,HK.out,rfl,HBW.out.trans (HB4.out.mono HBW.out.size)⟩,?_⟩
      have h:=HK.out
      show 8 - (k+1) < 8 - k
      omega
    | some bs0 =>
      rw [show (if (some bs0:Option (List UInt8)).isNone=true then (2:Int) else 0)=0 from rfl] at her
      subst her
      rw [show bs (some bs0)=bs0 from rfl] at hown
      obtain ⟨a4,c4,rfl⟩:=own_len hown
      have hbl:bs0.length≤900000:=HU3.out.2.1
      have hput:putS (some []) x k=some bs0:=HU3.out.2.2.symm
      have hba:Below u4.heap.size u4 (u4.alloc (.cells #[] 5)):=(Below.refl _ _).alloc (Nat.le_refl _) _
      have he:(u4.alloc (.cells #[] 5)).ownsRow u4.heap.size 5 1 (.slice (some ⟨u4.heap.size,0,none⟩) 0 0) 0 []:=World.ownsRow_made u4 #[] 0 (Nat.le_refl _) (Nat.zero_le _) rfl
      have hraw:W.RawIn (u4.alloc (.cells #[] 5)) (.slice a4 bs0.length c4) bs0:=(W.raw_of_own hown).below hba
      obtain ⟨L,hLe⟩:∃ L,L=bs0.length:=⟨_,rfl⟩
      rw [← hLe] at hraw ⊢
      have HE:=Hj (Aj he (Aj hraw (Aj hba (Aj (HRr.out.below hbr) (Aj hbl (Aj hput (Aj hbr hLe)))))))
      clear he hraw hba hbl hput hbr hown hbu4 HC2 HU3 HU1 hLe
      go_wp2_with (at_builtin;go_must (first
       | (refine W.wpList_append_in rfl _ _ rfl u4.heap.size (.slice (some ⟨u4.heap.size,0,none⟩) 0 0) _ [] bs0 rfl HE.out.1 rfl HE.out.2.1 (by have:=HE.out.2.2.2.2.1;simp;omega) (by simp) ?_;intro u W11 hown11 hgrow11 hat11;rw [List.nil_append] at hown11;have hb11:Below u4.heap.size u4 W11:=below_grown HE.out.2.2.1 hgrow11 (fun j e=>by have e2:u4.heap.size=j:=Option.some.inj e;omega) (Nat.le_refl _);have hraw11:W.RawIn W11 (.slice A N cb) ys:=(by rw [HI.out.2.2];exact (HE.out.2.2.2.1.bs.below hb11).raw))
       | (refine W.wpList_append_in rfl _ _ rfl u4.heap.size u _ bs0 ys rfl hown11 rfl hraw11 (by have:=HE.out.2.2.2.2.1;have:=HY.out;omega) hb11.size ?_;intro u2 W12 hown12 hgrow12 hat12)))
      have hb12:Below u4.heap.size u4 W12:=below_grown hb11 hgrow12 (fun j e=>(W.own_block hown11 j e).1) (Nat.le_refl _)
      have HN:=Hj (W.newreader_in W12 u2 (bs0 ++ ys) (W.raw_of_own hown12) (by have:=HE.out.2.2.2.2.1;have:=HY.out;rw [List.length_append];omega) (by have:=HPOS.out;have:=HBW.out.size;have:=HE.out.2.2.2.2.2.2.1.size;have:=hb12.size;omega))
      have H12:=Hj hb12
      clear hown11 hgrow11 hat11 hb11 hraw11 hown12 hgrow12 hat12 hb12
      refine HN.out.mono ?_
      rintro e W13 ⟨g2,k2,c2,rfl,hg2,hk2,hr2,hb13⟩
      have hC:=getTh_any W13 g2 k2 (bs0 ++ ys) c2 (some 0) ⟨Nat.zero_le _,hr2⟩ (by have:=HE.out.2.2.2.2.1;have:=HY.out;rw [List.length_append];omega) k HK.out
      rw [put_got HK.out HRr.out.ok HPI.out HE.out.2.2.2.2.2.1 (List.prefix_append bs0 ys)] at hC
      have HC:=Hj hC
      have H13:=Hj (Aj (H12.out.trans (hb13.mono H12.out.size)) (show u4.heap.size≤g2 from Nat.le_trans H12.out.size hg2))
      clear hC hg2 hk2 hr2 hb13 HN
      go_wp2_with fail
      refine HC.out.mono ?_
      rintro e u8 ⟨ho8,x2,st2,rfl,hin8,hr8,hgot⟩
      obtain ⟨hv2,rfl⟩:thV (onlyT x k)=thV x2∧st2=some bs0.length:=by
       rcases hgot with ⟨p2,e1,e2⟩ | ⟨e1,_⟩
       · have e3:=Option.some.inj e1
         have e4:bs0.length=p2:=congrArg Prod.snd e3
         exact ⟨congrArg Prod.fst e3,by rw [e2,e4]⟩
       · cases e1
      have hb8:Below u4.heap.size u4 u8:=below_only H13.out.1 ho8 H13.out.2 (Nat.le_refl _)
      obtain ⟨tc,htc⟩:∃ t,t=thC x2:=⟨_,rfl⟩
      have htz:tc.size=113:=by rw [htc];exact thC_size x2 hin8.o.1 hin8.o.2.1 hin8.r.1
      have hto:tc.all (·.oneCell')=true:=by rw [htc];exact thC_one x2
      have hI2:(Tryz.prog.info? 42).map (·.size)=some tc.size:=by rw [htz];exact info_thing
      rw [← htc]
      have hsc:(storeCells ⟨u8.heap.size,0,none⟩ tc.toList 0).run Tryz.prog (u8.alloc (.cells Tryz.zeroCells42 42))=.ok () (u8.alloc (.cells tc 42)):=run_storeCells_new u8 42 Tryz.zeroCells42 tc hI2 (by rw [htz];kernel_rfl) hto
      have hb9:Below u8.heap.size u8 (u8.alloc (.cells tc 42)):=(Below.refl _ _).alloc (Nat.le_refl _) _
      have hL9:=Lies.new u8 tc 42
      obtain ⟨u9,hw9⟩:∃ W,u8.alloc (.cells tc 42)=W:=⟨_,rfl⟩
      rw [hw9] at hsc hb9 hL9
      obtain ⟨q9,hq9⟩:∃ q,q=u8.heap.size:=⟨_,rfl⟩
      rw [← hq9] at hL9
      have hb49:=hb8.trans (hb9.mono hb8.size)
      have hR9:=HE.out.2.2.2.1.below hb49
      have hr9:=hr8.below hb9
      have hin9:=hin8.below hb9
      obtain ⟨oc,hoc⟩:∃ y,y=thC (onlyT x k):=⟨_,rfl⟩
      have HS9:Hid (∀ V,Below u9.heap.size u9 V→Lies V q9 tc 42∧Lies V p xc 42):=Hj fun V hV=>⟨hL9.below hV hL9.lt,(hR9.below hV).lies⟩
      have K1:Hid (∀ V,Below u9.heap.size u9 V→Calls Tryz.prog 39 #[.agg xc,.int .i64 (k:Int)] V fun e w'=>e=.returned (.agg oc)∧Below V.heap.size V w'):=Hj fun V hV=>by
       rw [hoc,HI.out.2.1]
       exact onlyTh_any V x hR9.ok.o.ah hR9.ok.o.dh hR9.ok.r.1 k HK.out
      have K2:Hid (∀ V,Below u9.heap.size u9 V→Calls Tryz.prog 23 #[.agg tc,.agg oc] V fun e w'=>e=.returned (.bool true)∧Below V.heap.size V w'):=Hj fun V hV=>by
       rw [htc,hoc]
       exact same_yes V x2 (onlyT x k) (hin9.below hV).ok (onlyT_ok (hR9.below hV).ok k) hv2.symm
      have K3:Hid (∀ V,Below u9.heap.size u9 V→Calls Tryz.prog 28 #[.pointer (some ⟨g2,0,none⟩)] V fun e w'=>e=.returned (.int .i64 (N:Int))∧Below V.heap.size V w'):=Hj fun V hV=>by
       have h:=W.left_rst V g2 k2 (bs0 ++ ys) c2 (some bs0.length) (hr9.below hV)
       rw [show W.leftV (bs0 ++ ys) (some bs0.length)=N by unfold W.leftV;simp only [List.length_append];rw [HI.out.2.2];omega] at h
       exact h
      have K4:Hid (∀ V,Below u9.heap.size u9 V→Calls Tryz.prog 30 #[.pointer (some ⟨g2,0,none⟩)] V fun e w'=>e=.returned (.int .i64 0)∧Below V.heap.size V w'):=Hj fun V hV =>
       (W.err_rst V g2 k2 (bs0 ++ ys) c2 (some bs0.length) (hr9.below hV)).mono fun e w' q=>by obtain ⟨q1,rfl⟩:=q;exact ⟨q1,Below.refl _ _⟩
      have HTC:=Hj (Aj hI2 htz)
      have HB9:=Hj (HE.out.2.2.2.2.2.2.1.trans (hb49.mono HE.out.2.2.2.2.2.2.1.size))
      obtain ⟨oa,hoa⟩:∃ y,y=otC x.o:=⟨_,rfl⟩
      have HO:Hid (∀ V,Below u9.heap.size u9 V→V.rangeAt p 5 oa.toList):=Hj fun V hV=>by rw [hoa];exact (RoundAt.at (hR9.below hV) HI.out.2.1).o
      have HOI:=Hj (show (Tryz.prog.info? 35).map (·.size)=some oa.size by rw [hoa,otC_size _ hR9.ok.o.ah hR9.ok.o.dh];exact info_output)
      have K5:Hid (k=4→∀ V,Below u9.heap.size u9 V→Calls Tryz.prog 19 #[.agg oa] V fun e w'=>e=.returned (.int .i64 (L:Int))∧Below V.heap.size V w'):=Hj fun h4 V hV=>by
       have hpu:=HE.out.2.2.2.2.2.1
       rw [h4] at hpu
       have hpu:(if rightOB x.o=true then outS (some []) x.o else none)=some bs0:=hpu
       have h:=long_any V x.o (hR9.below hV).ok.o HPI.out.oi (by have:=cntTh_le HCA.out 4;have e:cntTh x 4=cntO x.o:=rfl;omega)
       rw [hpu] at h
       rw [hoa,HE.out.2.2.2.2.2.2.2]
       exact h
      clear ho8 hin8 hr8 hgot hv2 hb8 htc hto hI2 hb9 hL9 hb49 hR9 hr9 hin9 hoc hoa HC H13 H12 HE
      by_cases h4:k=4
      · have K5:=Hj (K5.out h4)
        have H4:=Hj h4
        clear h4
        go_upto_region 16 with fail
        rw [← hq9]
        clear hsc hq9 hw9 htz
        refine wp_region_noPanic (wp_region_held (S:=Below u9.heap.size u9) (by kernel_rfl) ?_)
        change wpAnyH _ _ _ _ _ 30 _ _ (World.drew u9)
        have hcur:Below u9.heap.size u9 u9.drew:=(Below.refl _ _).drew
        refine tk 0 (.agg tc) 79 rfl rfl hcur ?_ (by intro w' hS';exact exec_loadRow rfl rfl (HS9.out w' hS').1 Tryz.underlying42 rfl HTC.out.1)
        refine tk 1 (.agg xc) 80 rfl rfl hcur ?_ (by intro w' hS';exact exec_loadRow rfl rfl (HS9.out w' hS').2 Tryz.underlying42 rfl HI.out.1)
        refine tk 2 (.int .i64 (k:Int)) 81 rfl rfl hcur ?_
        generalize u9.drew=V0 at hcur ⊢
        refine held_one (i:=3) (by kernel_rfl) _ rfl (wpOp_callG rfl (by rfl) 82 rfl 39 #[.agg xc,.int .i64 (k:Int)] (by unfold execOp;simp [go_sem]) _ (ret_gro (K1.out _ hcur)) ?_)
        rintro _ U1 ⟨rfl,hn⟩
        have hcur:=hcur.trans (hn.mono hcur.size)
        clear hn
        refine ⟨hcur,?_⟩
        simp only [Sj]
        refine held_one (i:=4) (by kernel_rfl) _ rfl (wpOp_callG rfl (by rfl) 83 rfl 23 #[.agg tc,.agg oc] (by unfold execOp;simp [go_sem]) _ (ret_gro (K2.out _ hcur)) ?_)
        rintro _ U2 ⟨rfl,hn⟩
        have hcur:=hcur.trans (hn.mono hcur.size)
        clear hn
        refine ⟨hcur,?_⟩
        simp only [Sj]
        refine tk 5 (.bool false) 84 rfl rfl hcur ?_
        refine tk 6 (.bool false) 85 rfl rfl hcur ?_
        refine tk 7 (.pointer (some ⟨g2,0,none⟩)) 86 rfl rfl hcur ?_
        refine tk 9 (.slice A N cb) 88 rfl rfl hcur ?_
        refine tk 10 (.int .i64 (N:Int)) 89 rfl rfl hcur ?_
        refine held_one (i:=8) (by kernel_rfl) _ rfl (wpOp_callG rfl (by rfl) 87 rfl 28 #[.pointer (some ⟨g2,0,none⟩)] (by unfold execOp;simp [go_sem]) _ (ret_gro (K3.out _ hcur)) ?_)
        rintro _ U3 ⟨rfl,hn⟩
        have hcur:=hcur.trans (hn.mono hcur.size)
        clear hn
        refine ⟨hcur,?_⟩
        simp only [Sj]
        refine tk 11 (.bool false) 90 rfl rfl hcur ?_
        refine tk 12 (.bool false) 91 rfl rfl hcur ?_
        refine tk 13 (.bool false) 92 rfl rfl hcur ?_
        refine tk 14 (.pointer (some ⟨g2,0,none⟩)) 93 rfl rfl hcur ?_
        refine held_one (i:=15) (by kernel_rfl) _ rfl (wpOp_callG rfl (by rfl) 94 rfl 30 #[.pointer (some ⟨g2,0,none⟩)] (by unfold execOp;simp [go_sem]) _ (ret_gro (K4.out _ hcur)) ?_)
        rintro _ U4 ⟨rfl,hn⟩
        have hcur:=hcur.trans (hn.mono hcur.size)
        clear hn
        refine ⟨hcur,?_⟩
        simp only [Sj]
        refine tk 16 (.bool false) 95 rfl rfl hcur ?_
        refine tk 17 (.bool false) 96 rfl rfl hcur ?_
        refine tk 18 (.bool false) 97 rfl rfl hcur ?_
        refine tk 19 (.int .i64 (k:Int)) 98 rfl rfl hcur ?_
        refine tk 20 (.bool true) 99 rfl rfl hcur ?_ (by intro w' hS';unfold execOp;simp [go_sem];have:=H4.out;omega)
        refine tk 21 (.bool true) 100 rfl rfl hcur ?_
        refine tk 22 (.pointer (some ⟨p,5,none⟩)) 101 rfl rfl hcur ?_
        refine tk 23 (.agg oa) 102 rfl rfl hcur ?_ (by intro w' hS';exact exec_loadM 35 _ rfl _ _ rfl oa (HO.out w' hS') Tryz.underlying35 rfl HOI.out)
        refine tk 25 (.slice a4 L c4) 104 rfl rfl hcur ?_
        refine tk 26 (.int .i64 (L:Int)) 105 rfl rfl hcur ?_
        refine held_one (i:=24) (by kernel_rfl) _ rfl (wpOp_callG rfl (by rfl) 103 rfl 19 #[.agg oa] (by unfold execOp;simp [go_sem]) _ (ret_gro (K5.out _ hcur)) ?_)
        rintro _ U5 ⟨rfl,hn⟩
        have hcur:=hcur.trans (hn.mono hcur.size)
        clear hn
        refine ⟨hcur,?_⟩
        simp only [Sj]
        refine tk 27 (.bool false) 106 rfl rfl hcur ?_
        refine tk 28 (.bool false) 107 rfl rfl hcur ?_
        refine tk 29 (.bool false) 108 rfl rfl hcur ?_
        refine wpAnyH_done (by kernel_rfl) ?_ _
        unfold NoPanic
        dsimp only
        have HF:=Hj (HB9.out.trans (hcur.mono HB9.out.size))
        clear hcur
        go_wp2_with fail
        have e1:(k:Int)+1=((k+1:Nat):Int):=by omega
        rw [e1]
        refine ⟨⟨k+1,HK.out,rfl,HBW.out.trans (HF.out.mono HBW.out.size)⟩,?_⟩
        have h:=HK.out
        show 8 - (k+1) < 8 - k
        omega
      · clear K5 HO HOI
        have H4:=Hj h4
        clear h4
        go_upto_region 16 with fail
        rw [← hq9]
        clear hsc hq9 hw9 htz
        refine wp_region_noPanic (wp_region_held (S:=Below u9.heap.size u9) (by kernel_rfl) ?_)
        change wpAnyH _ _ _ _ _ 30 _ _ (World.drew u9)
        have hcur:Below u9.heap.size u9 u9.drew:=(Below.refl _ _).drew
        refine tk 0 (.agg tc) 79 rfl rfl hcur ?_ (by intro w' hS';exact exec_loadRow rfl rfl (HS9.out w' hS').1 Tryz.underlying42 rfl HTC.out.1)
        refine tk 1 (.agg xc) 80 rfl rfl hcur ?_ (by intro w' hS';exact exec_loadRow rfl rfl (HS9.out w' hS').2 Tryz.underlying42 rfl HI.out.1)
        refine tk 2 (.int .i64 (k:Int)) 81 rfl rfl hcur ?_
        generalize u9.drew=V0 at hcur ⊢
        refine held_one (i:=3) (by kernel_rfl) _ rfl (wpOp_callG rfl (by rfl) 82 rfl 39 #[.agg xc,.int .i64 (k:Int)] (by unfold execOp;simp [go_sem]) _ (ret_gro (K1.out _ hcur)) ?_)
        rintro _ U1 ⟨rfl,hn⟩
        have hcur:=hcur.trans (hn.mono hcur.size)
        clear hn
        refine ⟨hcur,?_⟩
        simp only [Sj]
        refine held_one (i:=4) (by kernel_rfl) _ rfl (wpOp_callG rfl (by rfl) 83 rfl 23 #[.agg tc,.agg oc] (by unfold execOp;simp [go_sem]) _ (ret_gro (K2.out _ hcur)) ?_)
        rintro _ U2 ⟨rfl,hn⟩
        have hcur:=hcur.trans (hn.mono hcur.size)
        clear hn
        refine ⟨hcur,?_⟩
        simp only [Sj]
        refine tk 5 (.bool false) 84 rfl rfl hcur ?_
        refine tk 6 (.bool false) 85 rfl rfl hcur ?_
        refine tk 7 (.pointer (some ⟨g2,0,none⟩)) 86 rfl rfl hcur ?_
        refine tk 9 (.slice A N cb) 88 rfl rfl hcur ?_
        refine tk 10 (.int .i64 (N:Int)) 89 rfl rfl hcur ?_
        refine held_one (i:=8) (by kernel_rfl) _ rfl (wpOp_callG rfl (by rfl) 87 rfl 28 #[.pointer (some ⟨g2,0,none⟩)] (by unfold execOp;simp [go_sem]) _ (ret_gro (K3.out _ hcur)) ?_)
        rintro _ U3 ⟨rfl,hn⟩
        have hcur:=hcur.trans (hn.mono hcur.size)
        clear hn
        refine ⟨hcur,?_⟩
        simp only [Sj]
        refine tk 11 (.bool false) 90 rfl rfl hcur ?_
        refine tk 12 (.bool false) 91 rfl rfl hcur ?_
        refine tk 13 (.bool false) 92 rfl rfl hcur ?_
        refine tk 14 (.pointer (some ⟨g2,0,none⟩)) 93 rfl rfl hcur ?_
        refine held_one (i:=15) (by kernel_rfl) _ rfl (wpOp_callG rfl (by rfl) 94 rfl 30 #[.pointer (some ⟨g2,0,none⟩)] (by unfold execOp;simp [go_sem]) _ (ret_gro (K4.out _ hcur)) ?_)
        rintro _ U4 ⟨rfl,hn⟩
        have hcur:=hcur.trans (hn.mono hcur.size)
        clear hn
        refine ⟨hcur,?_⟩
        simp only [Sj]
        refine tk 16 (.bool false) 95 rfl rfl hcur ?_
        refine tk 17 (.bool false) 96 rfl rfl hcur ?_
        refine tk 18 (.bool false) 97 rfl rfl hcur ?_
        refine tk 19 (.int .i64 (k:Int)) 98 rfl rfl hcur ?_
        refine tk 20 (.bool false) 99 rfl rfl hcur ?_ (by intro w' hS';unfold execOp;simp [go_sem];have:=H4.out;omega)
        refine tk 21 (.bool false) 100 rfl rfl hcur ?_
        refine held_skip (i:=22) rfl 101 rfl (by kernel_rfl) (by kernel_rfl) (by kernel_rfl) (fun _ _ _ h=>h) (by rfl) hcur _ rfl ?_
        simp only [Sj]
        refine held_skip (i:=23) rfl 102 rfl (by kernel_rfl) (by kernel_rfl) (by kernel_rfl) (fun _ _ _ h=>h) (by rfl) hcur _ rfl ?_
        simp only [Sj]
        refine held_skip (i:=24) rfl 103 rfl (by kernel_rfl) (by kernel_rfl) (by kernel_rfl) (fun _ _ _ h=>h) (by rfl) hcur _ rfl ?_
        simp only [Sj]
        refine held_skip (i:=25) rfl 104 rfl (by kernel_rfl) (by kernel_rfl) (by kernel_rfl) (fun _ _ _ h=>h) (by rfl) hcur _ rfl ?_
        simp only [Sj]
        refine held_skip (i:=26) rfl 105 rfl (by kernel_rfl) (by kernel_rfl) (by kernel_rfl) (fun _ _ _ h=>h) (by rfl) hcur _ rfl ?_
        simp only [Sj]
        refine held_skip (i:=27) rfl 106 rfl (by kernel_rfl) (by kernel_rfl) (by kernel_rfl) (fun _ _ _ h=>h) (by rfl) hcur _ rfl ?_
        simp only [Sj]
        refine tk 28 (.bool false) 107 rfl rfl hcur ?_
        refine tk 29 (.bool false) 108 rfl rfl hcur ?_
        refine wpAnyH_done (by kernel_rfl) ?_ _
        unfold NoPanic
        dsimp only
        have HF:=Hj (HB9.out.trans (hcur.mono HB9.out.size))
        clear hcur
        go_wp2_with fail
        have e1:(k:Int)+1=((k+1:Nat):Int):=by omega
        rw [e1]
        refine ⟨⟨k+1,HK.out,rfl,HBW.out.trans (HF.out.mono HBW.out.size)⟩,?_⟩
        have h:=HK.out
        show 8 - (k+1) < 8 - k
        omega
  · have m1:¬ (k:Int) < 8:=by omega
    have HBW:=Hj hbw
    clear hk hlt hbw
    go_wp2_with fail
    go_ret
    exact ⟨rfl,HFB.out.trans (HBW.out.mono HFB.out.size)⟩
end Go.Proofs.YtilbbemdinpjcaaGreat.P
namespace Go.Proofs.YtilbbemdinpjcaaGreat.P
open Go.ChangeShapes Go.WideShapes Go.ChangeAt Go.RowKit Go.Deep
theorem cellsU8R:Tryz.prog.cellsOf 5=1:=by kernel_rfl
theorem bytesU8R:Tryz.prog.bytesOf 5=1:=by kernel_rfl
set_option maxRecDepth 100000 in
theorem open_bsR {H:Type} {enc:TypeId × Value→H} {V:World} {b0:Nat} {v:Value} {d:DataW H} {p:List MemPlace} (hv:Value.okWide Tryz.prog V .any b0 54 v) (h:DataW.Trod enc Tryz.prog V 0 (fun _=>true) true 54 v d p) (hreach:∀ n ∈ d.weights Tryz.prog 54,n≤reachBytes) :
  ∃ xs:List UInt8,W.Bs V v xs∧xs.length≤140737488355328:=by
 obtain ⟨a0,len,cap,rfl⟩:=okWide_slice Tryz.underlying54 hv
 obtain ⟨fuel,hf⟩:=h
 rcases open_ints Tryz.underlying54 Tryz.underlying5 cellsU8R hf with ⟨hcs,_⟩ | ⟨a,len',cap',zs,hcs,_,hl,hm,hz,hx,hcell,hwz⟩
 ·
  simp only [Value.cells,List.cons.injEq,Value.slice.injEq,and_true] at hcs
  obtain ⟨rfl,rfl,rfl⟩:=hcs
  exact ⟨[],.inl ⟨rfl,rfl⟩,Nat.zero_le _⟩
 ·
  simp only [Value.cells,List.cons.injEq,Value.slice.injEq,and_true] at hcs
  obtain ⟨rfl,rfl,rfl⟩:=hcs
  simp only [if_true] at hz
  have hbyte:∀ j,j < len→∃ b:UInt8,zs.getD j 0=(b.toNat:Int):=fun j hj=>byte_of (hwz _ (by
   rw [List.getD_eq_getElem?_getD,List.getElem?_eq_getElem (by omega)]
   exact List.getElem_mem _))
  obtain ⟨xs,hxl,hxs⟩:=list_of (0:UInt8) (fun j b=>zs.getD j 0=(b.toNat:Int)) len hbyte
  subst hxl
  have hr:reachBytes=140737488351232:=rfl
  have hd:d=.slice (lits .u8 (zs.take xs.length)) (lits .u8 (zs.drop xs.length)):=(Prod.mk.inj hx).1
  have hw:=hreach (((lits .u8 (zs.take xs.length):List (DataW H)).length+(lits .u8 (zs.drop xs.length):List (DataW H)).length) * 1) (by
   rw [hd,DataW.weights,Tryz.underlying54]
   simp only [bytesU8R]
   exact List.mem_cons_self)
  have hsrc:W.SrcA V a xs:=fun j u hu=>by
   have hj:=(List.getElem?_eq_some_iff.1 hu).1
   rw [Array.length_toList,W.B8_size] at hj
   rw [Array.getElem?_toList,W.B8_get xs j hj,← hxs j hj] at hu
   rw [← hu]
   exact hcell j (by omega)
  refine ⟨xs,.inr ⟨a,cap,rfl,hl,hm,fun hne => ?_,hsrc⟩,?_⟩
  ·
   have hp:0 < xs.length:=List.length_pos_iff.2 hne
   have:=World.cell?_spot (hsrc 0 _ (List.getElem?_eq_getElem (by rw [Array.length_toList,W.B8_size];exact hp)))
   simpa [Addr.add] using this
  ·
   simp [lits] at hw
   omega
end Go.Proofs.YtilbbemdinpjcaaGreat.P
namespace Go.Proofs.YtilbbemdinpjcaaGreat.packRound
open Go.ChangeShapes Go.WideShapes Go.ChangeAt Go.RowKit
theorem own:ownKnob Tryz.prog.godebug=none:=by kernel_rfl
set_option maxRecDepth 100000 in
theorem lifted (os:Os) (started:os.Started) (H:Type) (enc:TypeId × Value→H) :
  ReturnsInHanded {} Tryz.checked os 6 .any (Rows.packRoundSpec.pre6 enc Tryz.prog Tryz.f6 Rows.packRoundRow.domain false) (Rows.packRoundSpec.post enc Tryz.prog Tryz.f6 false true false false):=by
 refine returnsInHanded_of_change_sized (C:=Tryz.checked) own started (by kernel_rfl) Tryz.func6
  (ChangeSpec.witness6 (enc:=enc) (C:=Tryz.checked) false ⟨#[],#[.agg Tryz.zeroCells42,.slice none 0 0],[]⟩ 12 (by kernel_rfl) (by kernel_rfl) (by kernel_rfl) (by kernel_rfl)) ?_
 intro W base args ds gs before hval0 hW _ hsz _
 have hval:∀ (j:Nat) t v,Tryz.f6.params[j]? = some t→args[j]? = some v→Value.okWide Tryz.prog W .any base t v:=hval0
 have hW':=hW
 obtain ⟨p,q,hA0,hV,rfl,hfz,hnd⟩:=hW
 have hA:DataW.TrodAll enc Tryz.prog W 0 (fun _=>true) true Tryz.f6.params.toList args.toList ds p:=hA0
 have hsz':(DataW.weightsEach Tryz.prog (Tryz.f6.params.toList ++ Rows.packRoundSpec.plain.varTypes Tryz.prog) (ds ++ gs)).all (· ≤ reachBytes)=true:=hsz
 rw [Tryz.params6] at hA hval hsz'
 obtain ⟨v0,v1,d0,d1,p0,p1,rfl,rfl,rfl,h0,h1⟩:=trodAll_two hA
 obtain ⟨rfl,rfl⟩:=trodVars_none hV
 simp only [List.append_nil] at hW' hsz'
 have hreach0:∀ n ∈ d0.weights Tryz.prog 42,n≤reachBytes:=fun n hn=>of_decide_eq_true (List.all_eq_true.1 hsz' n (DataW.weights_mem_each (j:=0) rfl rfl n hn))
 have hreach1:∀ n ∈ d1.weights Tryz.prog 54,n≤reachBytes:=fun n hn=>of_decide_eq_true (List.all_eq_true.1 hsz' n (DataW.weights_mem_each (j:=1) rfl rfl n hn))
 obtain ⟨t,rfl,ht⟩:=P.open_thing (hval 0 42 v0 rfl rfl) h0 hreach0
 obtain ⟨xs,hbs,hxs⟩:=P.open_bsR (hval 1 54 v1 rfl rfl) h1 hreach1
 clear hA0 hval0 hsz
 refine (P.packRound_any W t v1 xs ht hbs hxs).mono fun e W' ⟨he,hb⟩ => ?_
 subst he
 have hlt:=hW'.lt
 exact ⟨_,rfl,[d0,d1],[],p0 ++ p1,[],p0 ++ p1,[],hW',trodAll_cons_mk (shut_bool Tryz.underlying4 _) trodAll_mk0,
  trodAll_mk2 (P.args_stay (by kernel_rfl) (of_decide_eq_true (by kernel_rfl)) h0 hb (fun x hx=>hlt x (by simp [hx]))) (P.args_stay (by kernel_rfl) (of_decide_eq_true (by kernel_rfl)) h1 hb (fun x hx=>hlt x (by simp [hx]))),rfl,hb.frame _,fun h=>by cases h⟩
set_option maxRecDepth 100000 in
theorem closed:joinedFacts Tryz.prog 6 Tryz.f6 Rows.packRoundSpec Rows.packRoundRow=true:=by
 unfold joinedFacts
 simp only [Bool.and_eq_true]
 repeat' (apply Aj)
 all_goals (as_aux_lemma=>kernel_rfl)
theorem over:Rows.packRoundRow.holds Tryz.pinned (OpenSpec.ofChange Rows.packRoundSpec) :=
 OpenClaim.holds_of_wide 6 Tryz.f6 rfl rfl rfl rfl rfl rfl rfl ⟨rfl,rfl,rfl,rfl,rfl⟩ rfl rfl rfl rfl rfl (by kernel_rfl) Tryz.func6 closed
  (of_decide_eq_true (by kernel_rfl)) (by unfold Func.isWrapper;first | (rw [if_pos (by decide +kernel)];kernel_rfl) | (rw [if_neg (by decide +kernel)];exact ⟨rfl,rfl⟩))
  (fun os started H enc _=>lifted os started H enc)
end Go.Proofs.YtilbbemdinpjcaaGreat.packRound
namespace Go.Proofs.YtilbbemdinpjcaaGreat
theorem packRound_said:Rows.PackRoundSaid:=packRound.over
end Go.Proofs.YtilbbemdinpjcaaGreat
