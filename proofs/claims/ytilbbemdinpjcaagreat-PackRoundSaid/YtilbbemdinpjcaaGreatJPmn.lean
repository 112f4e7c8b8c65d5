/-
  May assets be minted: the program's answer (value's own text Rh, for a seat that has not its laws).
-/
import Derived.Test.YtilbbemdinpjcaaGreatJPw
import Derived.Test.YtilbbemdinpjcaaGreatJPi
import Derived.Test.YtilbbemdinpjcaaGreatJPs
import Derived.Test.YtilbbemdinpjcaaGreatJVq
set_option maxHeartbeats 16000000
namespace Go.Proofs.YtilbbemdinpjcaaGreat.P
set_option maxRecDepth 100000
open Go.RowKit
theorem cntE_le {es:List En} {k:Nat}:cntE (es.take k)≤cntE es:=by
 unfold cntE
 conv=>rhs;rw [← List.take_append_drop k es,List.map_append,List.sum_append]
 rw [List.map_take]
 have:(es.map fun e=>1+cntO e.o).take k=(es.take k).map fun e=>1+cntO e.o:=by rw [List.map_take]
 rw [this]
 omega
theorem putterEntries_any (w:World) {B g:Nat} {v:Value} {st:Option (List UInt8)} (pa:Option Addr) (nc:Nat) (es:List En) (hT:Stays g w v fun W=>RowE W pa es) (hk:∀ e ∈ es,e.o.kind=2→∀ x ∈ e.o.ns,1≤x.kind∧x.kind≤6) (hi:∀ e ∈ es,∀ x ∈ e.o.ns,NdIn x) (h:WrO W.WSt w B g v st) (hx:sz st+123 * cntE es≤690000) :
  Calls Tryz.prog 190 #[.agg #[.pointer (some ⟨g,0,none⟩)],.slice pa es.length nc] w (PutR W.WSt w B g v (ensS st es)):=by
 have hn:(es.length:Int)≤9223372036854775807:=by have:=hT.now.1;unfold maxLen at this;omega
 have hok:∀ e ∈ es,EnH e:=fun e he=>by
  obtain ⟨i,hi2⟩:=List.getElem?_of_mem he
  obtain ⟨gx,off,_,_,hh⟩:=hT.now.2 (by have:=(List.getElem?_eq_some_iff.1 hi2).1;omega)
  have h1:=(hh i e hi2).2
  exact ⟨h1.r.1,h1.o.ah,h1.o.dh,fun a ha=>(h1.o.v.2.2.2.1 a ha).1⟩
 have hal:=alloc_entry
 obtain ⟨hA,hb0⟩:=box_one w (.pointer (some ⟨g,0,none⟩)) 170
 have hpo:=h.off (w':=w.alloc (.cells #[.pointer (some ⟨g,0,none⟩)] 170)) (Nat.le_refl _) (by simp)
 have H:=Hj (Aj hT (Aj hok (Aj h (Aj hx (Aj hk hi)))))
 clear hT hok h hx hk hi
 go_enter Tryz.func190,Tryz.ntmps190
 go_upto_region 1 with fail
 generalize w.alloc (.cells #[.pointer (some ⟨g,0,none⟩)] 170)=W0 at hA hb0 hpo ⊢
 obtain ⟨p,hpe⟩:∃ p,p=w.heap.size:=⟨_,rfl⟩
 rw [← hpe] at hA hpo ⊢
 have c0:=hA.cell 0 (v:=.pointer (some ⟨g,0,none⟩)) rfl
 have HC:=Hj (wU32 W0 es.length (H.out.2.2.1.belowW hb0) (by have:=H.out.2.2.2.1;omega))
 have HA:=Hj (Aj hA (Aj hpo hb0))
 clear hA hpo hb0 hpe
 go_wp2_with fail
 refine HC.out.mono ?_
 rintro e W1 ⟨rfl,u1,hw1,hk1⟩
 have hp1:∀ W u,Lk g W1 u1 W u→W.cell? ⟨p,0,none⟩=some (.pointer (some ⟨g,0,none⟩)):=fun W u hl=>by
  have ho:=HA.out.2.1.on hk1
  rw [hl.cell (o:=0) ho.lt ho.ne ho.own,hk1.cell (o:=0) HA.out.2.1.lt HA.out.2.1.ne HA.out.2.1.own]
  exact HA.out.1.cell 0 rfl
 have HW:=Hj (Aj hw1 (Aj ((Lk.of_below HA.out.2.2).trans hk1) hp1))
 clear hw1 hk1 hp1 c0 HC
 go_wp2_with fail
 go_loopw [13] (fun i Z=>∃ (k:Nat) (u:Value),k≤es.length∧i=.int .i64 k∧WrO W.WSt Z B g u ((es.take k).foldl enS (W.stepN st (W.low64 es.length) 4))∧Lk g W1 u1 Z u) (fun i _=>(es.length - intOf i).toNat)
 case atStart=>exact ⟨0,u1,by omega,by go_num,HW.out.1,Lk.refl _ _ _⟩
 case round =>
  obtain ⟨k,u,hk,rfl,hwr,hlk⟩:=hrel
  by_cases hlt:k < es.length
  ·
   have hfull:Lk g w v wr u:=HW.out.2.1.trans hlk
   obtain ⟨gx,off,rfl,hgl,hat⟩:=(H.out.1 _ _ hfull).2 (by omega)
   obtain ⟨e,hke⟩:∃ e,es[k]? = some e:=⟨es[k],List.getElem?_eq_getElem hlt⟩
   have hmem:=List.mem_of_getElem? hke
   have hnh:=H.out.2.1 e hmem
   have hra:=(hat k e hke).1
   have hok:=(hat k e hke).2
   have hso:Stays g W1 u1 fun V=>OtOk V e.o:=fun V u' hl=>by
    obtain ⟨gy,offy,_,_,hh⟩:=(H.out.1 _ _ (HW.out.2.1.trans hl)).2 (by omega)
    exact (hh k e hke).2.o
   obtain ⟨s0,hs0⟩:∃ s,s=(es.take k).foldl enS (W.stepN st (W.low64 es.length) 4):=⟨_,rfl⟩
   have hst:(es.take (k+1)).foldl enS (W.stepN st (W.low64 es.length) 4)=enS s0 e:=by rw [hs0];exact foldl_take _ _ _ _ _ hke
   have hsz0:sz s0+123 * (1+cntO e.o)≤690010:=by
    have h1:=sz_enF (es.take k) (W.stepN st (W.low64 es.length) 4) (fun x hx=>H.out.2.1 x (List.mem_of_mem_take hx))
    have h2:=cntE_le (es:=es) (k:=k+1)
    rw [cntE_take hke] at h2
    have h3:=H.out.2.2.2.1
    have h4:=sz_N st (W.low64 es.length) 4
    rw [← hs0] at h1
    omega
   rw [← hs0] at hwr
   obtain ⟨ev,hev⟩:∃ x,x=enC e:=⟨_,rfl⟩
   have hes:ev.size=102:=by rw [hev];exact enC_size hok
   have hL:=Lies.new wr ev 81
   have hbA:Below wr.heap.size wr (wr.alloc (.cells ev 81)):=(Below.refl _ _).alloc (Nat.le_refl _) _
   have hqq:=hwr.off (w':=wr.alloc (.cells ev 81)) (Nat.le_refl _) (by simp)
   have q0:(0:Int)≤(k:Int):=by omega
   have q1:(k:Int) < (es.length:Int):=by omega
   have HE:=Hj (Aj (show wr.rangeAt gx (off+k * 102) ev.toList by rw [hev];exact hra) (Aj (show (Tryz.prog.info? 81).map (·.size)=some ev.toList.length by rw [Array.length_toList,hes];exact info_entry) (Aj (show (Tryz.prog.info? 81).map (·.size)=some ev.size by rw [hes];exact info_entry) (Aj hes (show ev.all (·.oneCell')=true by rw [hev];exact enC_one e)))))
   have HR:=Hj (Aj hwr (Aj hlk (Aj hst (Aj hsz0 (Aj hnh (Aj hev (Aj hok (Aj hso hmem))))))))
   clear hs0 hwr hlk hst hsz0 hnh hev hra hat hfull hgl hok hso hes hmem
   go_upto_region 5 with (first
    | (refine wpList_load_mid rfl 81 _ rfl gx (off+k * 102) rfl ev.toList _ HE.out.1 Tryz.underlying81 rfl HE.out.2.1 ?_)
    | (refine wpList_store_row rfl 81 _ _ rfl wr.heap.size ev rfl rfl 81 zEn (Lies.new wr zEn 81) HE.out.2.2.1 (by rw [HE.out.2.2.2.1];kernel_rfl) HE.out.2.2.2.2 ?_))
   rw [World.setRow_alloc_new]
   generalize wr.alloc (.cells ev 81)=W5 at hL hbA hqq ⊢
   obtain ⟨q,hq⟩:∃ q,q=wr.heap.size:=⟨_,rfl⟩
   rw [← hq] at hL hqq ⊢
   clear hq
   have hl5:Lk g W1 u1 W5 u:=HR.out.2.1.below hbA
   have cp:=HW.out.2.2 W5 u hl5
   obtain ⟨rv,hrv⟩:∃ x,x=refC e.r:=⟨_,rfl⟩
   obtain ⟨ov,hov⟩:∃ x,x=otC e.o:=⟨_,rfl⟩
   have HI2:=Hj (Aj (show (Tryz.prog.info? 37).map (·.size)=some rv.toList.length by rw [Array.length_toList,hrv,refC_size _ HR.out.2.2.2.2.1.tx];exact info_ref) (show (Tryz.prog.info? 35).map (·.size)=some ov.toList.length by rw [Array.length_toList,hov,otC_size _ HR.out.2.2.2.2.1.ah HR.out.2.2.2.2.1.dh];exact info_output))
   have HRG:Hid (∀ V,Lies V q ev 81→V.rangeAt q 0 rv.toList∧V.rangeAt q 33 ov.toList):=Hj fun V hl=>by
    rw [HR.out.2.2.2.2.2.1] at hl
    refine ⟨fun j x hj => ?_,fun j x hj => ?_⟩
    ·
     rw [Nat.zero_add]
     exact hl.cell j (by rw [← Array.getElem?_toList];exact enC_ref HR.out.2.2.2.2.2.2.1 j x (by rw [← hrv];exact hj))
    ·
     exact hl.cell (33+j) (by rw [← Array.getElem?_toList];exact enC_out HR.out.2.2.2.2.2.2.1 j x (by rw [← hov];exact hj))
   have hC1:=putterRef_any W5 e.r HR.out.2.2.2.2.1.tx (HR.out.1.belowW hbA) (by have:=HR.out.2.2.2.1;omega)
   rw [← hrv] at hC1
   have HC1:=Hj hC1
   have HQ:=Hj (Aj hl5 (Aj hqq (Aj hL hov)))
   have HP:=Hj (HRG.out W5 hL)
   clear hl5 hqq hL hbA hC1 hrv hov
   go_wp2_with (first
    | (at_builtin;fail)
    | (refine wpList_load_mid rfl 37 _ rfl q 0 rfl rv.toList _ HP.out.1 Tryz.underlying37 rfl HI2.out.1 ?_))
   refine HC1.out.mono ?_
   rintro x W6 ⟨rfl,u6,hw6,hk6⟩
   have hl6:=HQ.out.1.trans hk6
   have cp:=HW.out.2.2 W6 u6 hl6
   have hL6:=hk6.lies HQ.out.2.2.1 HQ.out.2.1.ne HQ.out.2.1.own
   have hs1:=sz_ref s0 e.r HR.out.2.2.2.2.1.tx
   have hC2:=putterOutput_any W6 e.o (HR.out.2.2.2.2.2.2.2.1.on hl6) (H.out.2.2.2.2.1 e HR.out.2.2.2.2.2.2.2.2) (H.out.2.2.2.2.2 e HR.out.2.2.2.2.2.2.2.2) hw6 (by have:=HR.out.2.2.2.1;omega)
   rw [← HQ.out.2.2.2] at hC2
   have HC2:=Hj hC2
   have HP6:=Hj (HRG.out W6 hL6)
   have HQ6:=Hj hl6
   clear hl6 hL6 hk6 hw6 hs1 HC1 hC2
   go_wp2_with (first
    | (at_builtin;fail)
    | (refine wpList_load_mid rfl 35 _ rfl q 33 rfl ov.toList _ HP6.out.2 Tryz.underlying35 rfl HI2.out.2 ?_))
   refine HC2.out.mono ?_
   rintro x W8 ⟨rfl,u8,hw8,hk8⟩
   have HN:=Hj (Aj hw8 (HQ6.out.trans hk8))
   clear hw8 hk8 cp HC2
   go_wp2_with fail
   go_roundw
   case rel=>exact ⟨k+1,u8,by omega,by go_num,by rw [HR.out.2.2.1];exact HN.out.1,HN.out.2⟩
   case measure=>simp [intOf];omega
  ·
   have hke:k=es.length:=by omega
   have HN:=Hj (Aj hwr hlk)
   clear hwr hlk
   go_wp2_with fail
   go_end0
   have hw:=HN.out.1
   rw [hke,List.take_of_length_le (Nat.le_refl _)] at hw
   exact PutR.end_ hw (HW.out.2.1.trans HN.out.2)
end Go.Proofs.YtilbbemdinpjcaaGreat.P
namespace Go.Proofs.YtilbbemdinpjcaaGreat.P
set_option maxRecDepth 100000
open Go.RowKit
def zToP:Array Value:=Array.replicate 32 (.int .u8 0) ++ #[.string ⟨#[]⟩,.int .i64 0,.int .u64 0]
theorem alloc_totalP (w:World):(Instr.alloc 150 true (.tuple #[])).run Tryz.prog w=.ok (.pointer (some ⟨w.heap.size,0,none⟩)) (w.alloc (.cells zToP 150)):=by kernel_rfl
theorem loN_small (x:BitVec 128):loN x < 18446744073709551616:=Nat.mod_lt _ (by decide)
theorem toC_polP {U:World} {b:Nat} {a:To} (h:a.nm.1.length=32) (hL:Lies U b (toC a) 150):U.rangeAt b 0 (B8 a.nm.1).toList:=fun j v hv=>by
 rw [Array.getElem?_toList] at hv
 have hj:j < 32:=by
  have:=(Array.getElem?_eq_some_iff.1 hv).1
  rw [B8_size,h] at this
  exact this
 rw [Nat.zero_add]
 refine hL.cell j ?_
 rw [toC_get a h j hj,← B8_get a.nm.1 j (by omega)]
 exact hv
theorem cntT_le {l:List To} {k:Nat}:cntT (l.take k)≤cntT l:=by
 unfold cntT
 conv=>rhs;rw [← List.take_append_drop k l,List.map_append,List.sum_append]
 rw [List.map_take]
 have:(l.map fun a=>1+a.nm.2.length / 16).take k=(l.take k).map fun a=>1+a.nm.2.length / 16:=by rw [List.map_take]
 rw [this]
 omega
theorem putterTotals_any (w:World) {B g:Nat} {v:Value} {st:Option (List UInt8)} (pa:Option Addr) (nc:Nat) (l:List To) (hT:Stays g w v fun W=>RowT W pa l) (h:WrO W.WSt w B g v st) (hx:sz st+65 * cntT l≤690000) :
  Calls Tryz.prog 186 #[.agg #[.pointer (some ⟨g,0,none⟩)],.slice pa l.length nc] w (PutR W.WSt w B g v (totS st l)):=by
 have hn:(l.length:Int)≤9223372036854775807:=by have:=hT.now.1;unfold maxLen at this;omega
 have hok:=hT.now.2.1
 have hal:=alloc_totalP
 obtain ⟨hA,hb0⟩:=box_one w (.pointer (some ⟨g,0,none⟩)) 170
 have hpo:=h.off (w':=w.alloc (.cells #[.pointer (some ⟨g,0,none⟩)] 170)) (Nat.le_refl _) (by simp)
 have H:=Hj (Aj hT (Aj hok (Aj h hx)))
 clear hT hok h hx
 go_enter Tryz.func186,Tryz.ntmps186
 go_upto_region 1 with fail
 generalize w.alloc (.cells #[.pointer (some ⟨g,0,none⟩)] 170)=W0 at hA hb0 hpo ⊢
 obtain ⟨p,hpe⟩:∃ p,p=w.heap.size:=⟨_,rfl⟩
 rw [← hpe] at hA hpo ⊢
 have c0:=hA.cell 0 (v:=.pointer (some ⟨g,0,none⟩)) rfl
 have HC:=Hj (wU32 W0 l.length (H.out.2.2.1.belowW hb0) (by have:=H.out.2.2.2;omega))
 have HA:=Hj (Aj hA (Aj hpo hb0))
 clear hA hpo hb0 hpe
 go_wp2_with fail
 refine HC.out.mono ?_
 rintro e W1 ⟨rfl,u1,hw1,hk1⟩
 have hp1:∀ W u,Lk g W1 u1 W u→W.cell? ⟨p,0,none⟩=some (.pointer (some ⟨g,0,none⟩)):=fun W u hl=>by
  have ho:=HA.out.2.1.on hk1
  rw [hl.cell (o:=0) ho.lt ho.ne ho.own,hk1.cell (o:=0) HA.out.2.1.lt HA.out.2.1.ne HA.out.2.1.own]
  exact HA.out.1.cell 0 rfl
 have HW:=Hj (Aj hw1 (Aj ((Lk.of_below HA.out.2.2).trans hk1) hp1))
 clear hw1 hk1 hp1 c0 HC
 go_wp2_with fail
 go_loopw [13] (fun i Z=>∃ (k:Nat) (u:Value),k≤l.length∧i=.int .i64 k∧WrO W.WSt Z B g u ((l.take k).foldl toS (W.stepN st (W.low64 l.length) 4))∧Lk g W1 u1 Z u) (fun i _=>(l.length - intOf i).toNat)
 case atStart=>exact ⟨0,u1,by omega,by go_num,HW.out.1,Lk.refl _ _ _⟩
 case round =>
  obtain ⟨k,u,hk,rfl,hwr,hlk⟩:=hrel
  by_cases hlt:k < l.length
  ·
   have hfull:Lk g w v wr u:=HW.out.2.1.trans hlk
   obtain ⟨gx,off,rfl,hgl,hat⟩:=(H.out.1 _ _ hfull).2.2 (by omega)
   obtain ⟨a,hka⟩:∃ a,l[k]? = some a:=⟨l[k],List.getElem?_eq_getElem hlt⟩
   have haok:=H.out.2.1 a (List.mem_of_getElem? hka)
   have hra:=hat k a hka
   obtain ⟨s0,hs0⟩:∃ s,s=(l.take k).foldl toS (W.stepN st (W.low64 l.length) 4):=⟨_,rfl⟩
   have hst:(l.take (k+1)).foldl toS (W.stepN st (W.low64 l.length) 4)=toS s0 a:=by rw [hs0];exact foldl_take _ _ _ _ _ hka
   have hsz0:sz s0+65 * (1+a.nm.2.length / 16)≤690010:=by
    have h1:=sz_toF (l.take k) (W.stepN st (W.low64 l.length) 4) (fun x hx=>(H.out.2.1 x (List.mem_of_mem_take hx)).1)
    have h2:=cntT_le (l:=l) (k:=k+1)
    rw [cntT_take hka] at h2
    have h3:=H.out.2.2.2
    have h4:=sz_N st (W.low64 l.length) 4
    rw [← hs0] at h1
    omega
   rw [← hs0] at hwr
   obtain ⟨av,hav⟩:∃ x,x=toC a:=⟨_,rfl⟩
   have hL:=Lies.new wr av 150
   have hbA:Below wr.heap.size wr (wr.alloc (.cells av 150)):=(Below.refl _ _).alloc (Nat.le_refl _) _
   have hqq:=hwr.off (w':=wr.alloc (.cells av 150)) (Nat.le_refl _) (by simp)
   have q0:(0:Int)≤(k:Int):=by omega
   have q1:(k:Int) < (l.length:Int):=by omega
   have HE:=Hj (Aj (show wr.rangeAt gx (off+k * 35) av.toList by rw [hav];exact hra) (Aj (show (Tryz.prog.info? 150).map (·.size)=some av.toList.length by rw [Array.length_toList,hav,toC_size a haok.1];exact info_total) (Aj (show (Tryz.prog.info? 150).map (·.size)=some av.size by rw [hav,toC_size a haok.1];exact info_total) (Aj (show av.size=35 by rw [hav,toC_size a haok.1]) (show av.all (·.oneCell')=true by rw [hav];exact toC_one a)))))
   have HR:=Hj (Aj hwr (Aj hlk (Aj hst (Aj hsz0 (Aj haok hav)))))
   clear hs0 hwr hlk hst hsz0 haok hav hra hat hfull hgl
   go_upto_region 5 with (first
    | (refine wpList_load_mid rfl 150 _ rfl gx (off+k * 35) rfl av.toList _ HE.out.1 Tryz.underlying150 rfl HE.out.2.1 ?_)
    | (refine wpList_store_row rfl 150 _ _ rfl wr.heap.size av rfl rfl 150 zToP (Lies.new wr zToP 150) HE.out.2.2.1 (by rw [HE.out.2.2.2.1];kernel_rfl) HE.out.2.2.2.2 ?_))
   rw [World.setRow_alloc_new]
   generalize wr.alloc (.cells av 150)=W5 at hL hbA hqq ⊢
   obtain ⟨q,hq⟩:∃ q,q=wr.heap.size:=⟨_,rfl⟩
   rw [← hq] at hL hqq ⊢
   clear hq
   have hl5:Lk g W1 u1 W5 u:=HR.out.2.1.below hbA
   have cp:=HW.out.2.2 W5 u hl5
   have HC1:=Hj (wHash W5 a.nm.1 HR.out.2.2.2.2.1.1 (HR.out.1.belowW hbA) (by have:=HR.out.2.2.2.1;omega))
   have HQ:=Hj (Aj hl5 (Aj hqq hL))
   have hpol:W5.rangeAt q 0 (B8 a.nm.1).toList:=toC_polP HR.out.2.2.2.2.1.1 (by rw [← HR.out.2.2.2.2.2];exact hL)
   have HP:=Hj (Aj hpol (show (Tryz.prog.info? 30).map (·.size)=some (B8 a.nm.1).toList.length by rw [Array.length_toList,B8_size,HR.out.2.2.2.2.1.1];exact info_hashP))
   clear hpol hl5 hqq hL hbA
   go_wp2_with (first
    | (at_builtin;fail)
    | (refine wpList_load_mid rfl 30 _ rfl q 0 rfl (B8 a.nm.1).toList _ HP.out.1 Tryz.underlying30 rfl HP.out.2 ?_))
   refine HC1.out.mono ?_
   rintro e W6 ⟨rfl,u6,hw6,hk6⟩
   have hl6:=HQ.out.1.trans hk6
   have cp:=HW.out.2.2 W6 u6 hl6
   have hL6:=hk6.lies HQ.out.2.2 HQ.out.2.1.ne HQ.out.2.1.own
   have hs1:=sz_B s0 a.nm.1
   have c32:=(show Lies W6 q (toC a) 150 by rw [← HR.out.2.2.2.2.2];exact hL6).cell 32 (toC_txt a HR.out.2.2.2.2.1.1)
   have HC2:=Hj (wText W6 (txt a.nm.2) (by rw [txt_size];have:=HR.out.2.2.2.1;omega) hw6 (by have:=HR.out.2.2.2.1;have:=HR.out.2.2.2.2.1.1;omega))
   have HQ6:=Hj (Aj hl6 (Aj (HQ.out.2.1.on hk6) (Aj hL6 hs1)))
   clear hl6 hL6 hk6 hw6 hs1 HC1
   go_wp2_with fail
   refine HC2.out.mono ?_
   rintro e W7 ⟨rfl,u7,hw7,hk7⟩
   have hl7:=HQ6.out.1.trans hk7
   have cp:=HW.out.2.2 W7 u7 hl7
   have hL7:=hk7.lies HQ6.out.2.2.1 HQ6.out.2.1.ne HQ6.out.2.1.own
   have hs2:=sz_T (W.stepB s0 a.nm.1) (txt a.nm.2)
   rw [txt_size] at hs2
   have c33:=(show Lies W7 q (toC a) 150 by rw [← HR.out.2.2.2.2.2];exact hL7).cell 33 (toC_hi a HR.out.2.2.2.2.1.1)
   have HC3:=Hj (wI64 W7 (hiS a.w) hw7 (by have:=HR.out.2.2.2.1;have:=HR.out.2.2.2.2.1.1;have:=HQ6.out.2.2.2;omega))
   have hs3:=sz_N (W.stepText (W.stepB s0 a.nm.1) (txt a.nm.2)) (W.low64 (hiS a.w)) 8
   have HQ7:=Hj (Aj hl7 (Aj (HQ6.out.2.1.on hk7) (Aj hL7 (Aj hs2 hs3))))
   clear hl7 hL7 hk7 hw7 hs2 hs3 HC2 c32
   go_wp2_with fail
   refine HC3.out.mono ?_
   rintro e W8 ⟨rfl,u8,hw8,hk8⟩
   have hl8:=HQ7.out.1.trans hk8
   have cp:=HW.out.2.2 W8 u8 hl8
   have hL8:=hk8.lies HQ7.out.2.2.1 HQ7.out.2.1.ne HQ7.out.2.1.own
   have c34:=(show Lies W8 q (toC a) 150 by rw [← HR.out.2.2.2.2.2];exact hL8).cell 34 (toC_lo a HR.out.2.2.2.2.1.1)
   have HC4:=Hj (wU64 W8 (loN a.w) (loN_small a.w) hw8 (by have:=HR.out.2.2.2.1;have:=HR.out.2.2.2.2.1.1;have:=HQ6.out.2.2.2;have:=HQ7.out.2.2.2;omega))
   have HQ8:=Hj hl8
   clear hl8 hL8 hk8 hw8 HC3 c33
   go_wp2_with fail
   refine HC4.out.mono ?_
   rintro e W9 ⟨rfl,u9,hw9,hk9⟩
   have HN:=Hj (Aj hw9 (HQ8.out.trans hk9))
   clear hw9 hk9 c34 cp HC4
   go_wp2_with fail
   go_roundw
   case rel=>exact ⟨k+1,u9,by omega,by go_num,by rw [HR.out.2.2.1];exact HN.out.1,HN.out.2⟩
   case measure=>simp [intOf];omega
  ·
   have hke:k=l.length:=by omega
   have HN:=Hj (Aj hwr hlk)
   clear hwr hlk
   go_wp2_with fail
   go_end0
   have hw:=HN.out.1
   rw [hke,List.take_of_length_le (Nat.le_refl _)] at hw
   exact PutR.end_ hw (HW.out.2.1.trans HN.out.2)
end Go.Proofs.YtilbbemdinpjcaaGreat.P
namespace Go.Proofs.YtilbbemdinpjcaaGreat.P
set_option maxRecDepth 100000
open Go.RowKit
structure Df where
 ps:Option Addr
 s:List En
 cs:Nat
 pm:Option Addr
 m:List En
 cm:Nat
 fe:Int
 fo:Int
 pt:Option Addr
 l:List To
 ct:Nat
def dfC (d:Df):Array Value:=#[.slice d.ps d.s.length d.cs,.slice d.pm d.m.length d.cm,.int .i64 d.fe,.int .i64 d.fo,.slice d.pt d.l.length d.ct]
structure DfOk (W:World) (d:Df):Prop where
 s:RowE W d.ps d.s
 m:RowE W d.pm d.m
 fe:I64 d.fe
 fo:I64 d.fo
 l:RowT W d.pt d.l
def diffS (st:Option (List UInt8)) (d:Df):Option (List UInt8):=totS (W.stepN (W.stepN (ensS (ensS st d.s) d.m) (W.low64 d.fe) 8) (W.low64 d.fo) 8) d.l
theorem rowE_h {W:World} {pa:Option Addr} {es:List En} (h:RowE W pa es):∀ e ∈ es,EnH e:=fun e he=>by
 obtain ⟨i,hi2⟩:=List.getElem?_of_mem he
 obtain ⟨gx,off,_,_,hh⟩:=h.2 (by have:=(List.getElem?_eq_some_iff.1 hi2).1;omega)
 have h1:=(hh i e hi2).2
 exact ⟨h1.r.1,h1.o.ah,h1.o.dh,fun a ha=>(h1.o.v.2.2.2.1 a ha).1⟩
structure TmOk (es:List En):Prop where
 kinds:∀ e ∈ es,e.o.kind=2→∀ x ∈ e.o.ns,1≤x.kind∧x.kind≤6
 ins:∀ e ∈ es,∀ x ∈ e.o.ns,NdIn x
theorem putterDiff_any (w:World) {B g:Nat} {v:Value} {st:Option (List UInt8)} (d:Df) (hT:Stays g w v fun W=>DfOk W d) (hs:TmOk d.s) (hm:TmOk d.m) (h:WrO W.WSt w B g v st) (hx:sz st+123 * (cntE d.s+cntE d.m)+65 * cntT d.l≤680000) :
  Calls Tryz.prog 192 #[.agg #[.pointer (some ⟨g,0,none⟩)],.agg (dfC d)] w (PutR W.WSt w B g v (diffS st d)):=by
 obtain ⟨ps,s,cs,pm,m,cm,fe,fo,pt,l,ct⟩:=d
 have hB:=bx_of h (dfC ⟨ps,s,cs,pm,m,cm,fe,fo,pt,l,ct⟩) 40
 obtain ⟨s1,hs1⟩:∃ x,x=ensS st s:=⟨_,rfl⟩
 obtain ⟨s2,hs2⟩:∃ x,x=ensS s1 m:=⟨_,rfl⟩
 obtain ⟨s9,hs9⟩:∃ x,x=diffS st ⟨ps,s,cs,pm,m,cm,fe,fo,pt,l,ct⟩:=⟨_,rfl⟩
 have e9:s9=totS (W.stepN (W.stepN s2 (W.low64 fe) 8) (W.low64 fo) 8) l:=by rw [hs9,hs2,hs1];rfl
 have z1:=sz_ens s st (rowE_h hT.now.s)
 have z2:=sz_ens m s1 (rowE_h hT.now.m)
 have z3:=sz_N s2 (W.low64 fe) 8
 have z4:=sz_N (W.stepN s2 (W.low64 fe) 8) (W.low64 fo) 8
 rw [← hs1] at z1
 rw [← hs2] at z2
 have hx':sz st+123 * (cntE s+cntE m)+65 * cntT l≤680000:=hx
 have H:=Hj (Aj hT (Aj hs (Aj hm (Aj h (Aj (show sz st+123 * cntE s≤690000∧sz s1+123 * cntE m≤690000∧sz s2≤690000∧sz (W.stepN s2 (W.low64 fe) 8)≤690000∧sz (W.stepN (W.stepN s2 (W.low64 fe) 8) (W.low64 fo) 8)+65 * cntT l≤690000 by omega) e9)))))
 have HC0:Hid (∀ V,WrO W.WSt V B g v st→Stays g V v (fun W=>RowE W ps s)→Calls Tryz.prog 190 #[.agg #[.pointer (some ⟨g,0,none⟩)],.slice ps s.length cs] V (PutR W.WSt V B g v s1)):=Hj fun V hw hst=>by rw [hs1];exact putterEntries_any V ps cs s hst hs.kinds hs.ins hw H.out.2.2.2.2.1.1
 have HC1:Hid (∀ V u,WrO W.WSt V B g u s1→Stays g V u (fun W=>RowE W pm m)→Calls Tryz.prog 190 #[.agg #[.pointer (some ⟨g,0,none⟩)],.slice pm m.length cm] V (PutR W.WSt V B g u s2)):=Hj fun V u hw hst=>by rw [hs2];exact putterEntries_any V pm cm m hst hm.kinds hm.ins hw H.out.2.2.2.2.1.2.1
 rw [← hs9]
 clear hT hs hm h hx hx' hs1 hs2 hs9 e9 z1 z2 z3 z4
 unfold dfC at hB ⊢
 dsimp only at hB ⊢
 obtain ⟨W0,HW⟩:∃ W0,(w.alloc (.cells #[.pointer (some ⟨g,0,none⟩)] 170)).alloc (.cells #[.slice ps s.length cs,.slice pm m.length cm,.int .i64 fe,.int .i64 fo,.slice pt l.length ct] 40)=W0:=⟨_,rfl⟩
 go_enter Tryz.func192,Tryz.ntmps192
 go_upto_region 1 with fail
 rw [HW] at hB
 clear HW
 obtain ⟨p,hp⟩:∃ p,p=w.heap.size:=⟨_,rfl⟩
 obtain ⟨q,hq⟩:∃ q,q=w.heap.size+1:=⟨_,rfl⟩
 rw [← hq,← hp] at hB ⊢
 clear hp hq
 have c0:=hB.lp.cell 0 (v:=.pointer (some ⟨g,0,none⟩)) rfl
 have c1:=hB.lq.cell 0 (v:=.slice ps s.length cs) rfl
 have HC:=Hj (HC0.out W0 (H.out.2.2.2.1.belowW hB.b) ((H.out.1.on (Lk.of_below hB.b)).imp fun W hW=>hW.s))
 have HB:=Hj hB
 clear hB HC0
 go_wp2_with fail
 refine HC.out.mono ?_
 rintro x W1 ⟨rfl,u1,hw1,hk1⟩
 obtain ⟨l1,l2⟩:=HB.out.on hk1
 have hf1:=(Lk.of_below HB.out.b (v:=v) (g:=g)).trans hk1
 have c0:=l1.cell 0 (v:=.pointer (some ⟨g,0,none⟩)) rfl
 have c1:=l2.cell 1 (v:=.slice pm m.length cm) rfl
 have HCb:=Hj (HC1.out W1 u1 hw1 ((H.out.1.on hf1).imp fun W hW=>hW.m))
 have HL1:=Hj (Aj hk1 hf1)
 clear hw1 hk1 l1 l2 hf1 HC HC1
 go_wp2_with fail
 refine HCb.out.mono ?_
 rintro x W2 ⟨rfl,u2,hw2,hk2⟩
 have hl2:=HL1.out.1.trans hk2
 have hf2:=HL1.out.2.trans hk2
 obtain ⟨l1,l2⟩:=HB.out.on hl2
 have c0:=l1.cell 0 (v:=.pointer (some ⟨g,0,none⟩)) rfl
 have c1:=l2.cell 2 (v:=.int .i64 fe) rfl
 have HC2:=Hj (wI64 W2 fe hw2 (by have:=H.out.2.2.2.2.1.2.2.1;omega))
 have HL2:=Hj (Aj hl2 hf2)
 clear hw2 hk2 l1 l2 hl2 hf2 HCb
 go_wp2_with fail
 refine HC2.out.mono ?_
 rintro x W3 ⟨rfl,u3,hw3,hk3⟩
 have hl3:=HL2.out.1.trans hk3
 have hf3:=HL2.out.2.trans hk3
 obtain ⟨l1,l2⟩:=HB.out.on hl3
 have c0:=l1.cell 0 (v:=.pointer (some ⟨g,0,none⟩)) rfl
 have c1:=l2.cell 3 (v:=.int .i64 fo) rfl
 have HC3:=Hj (wI64 W3 fo hw3 (by have:=H.out.2.2.2.2.1.2.2.2.1;omega))
 have HL3:=Hj (Aj hl3 hf3)
 clear hw3 hk3 l1 l2 hl3 hf3 HC2
 go_wp2_with fail
 refine HC3.out.mono ?_
 rintro x W4 ⟨rfl,u4,hw4,hk4⟩
 have hl4:=HL3.out.1.trans hk4
 have hf4:=HL3.out.2.trans hk4
 obtain ⟨l1,l2⟩:=HB.out.on hl4
 have c0:=l1.cell 0 (v:=.pointer (some ⟨g,0,none⟩)) rfl
 have c1:=l2.cell 4 (v:=.slice pt l.length ct) rfl
 have HC4:=Hj (putterTotals_any W4 pt ct l ((H.out.1.on hf4).imp fun W hW=>hW.l) hw4 H.out.2.2.2.2.1.2.2.2.2)
 have HL4:=Hj hf4
 clear hw4 hk4 l1 l2 hl4 hf4 HC3
 go_wp2_with fail
 refine HC4.out.mono ?_
 rintro x W5 hr
 obtain ⟨rfl,hr⟩:=hr
 have HE:=Hj hr
 clear hr c0 c1 HC4
 go_wp2_with fail
 go_end0
 rw [H.out.2.2.2.2.2]
 exact PutR.on HL4.out ⟨rfl,HE.out⟩
end Go.Proofs.YtilbbemdinpjcaaGreat.P
namespace Go.Proofs.YtilbbemdinpjcaaGreat.P
set_option maxRecDepth 100000
open Go.RowKit Go.Sort Go.Maps
def isNz:As→Bool:=fun a=>decide (a.amt≠0)
def mintB (l:List As):Bool:=decide (l.length≤30) && wellB isNz l
theorem isNz_any (w:World) (a:As) (ha:a.nm.1.length=32) :
  Calls Tryz.prog 219 #[.agg (asC a)] w fun e w'=>e=.returned (.bool (isNz a))∧Below w.heap.size w w':=by
 obtain ⟨va,hva⟩:∃ v,v=asC a:=⟨_,rfl⟩
 rw [← hva]
 have hl:Lies (w.alloc (.cells va 146)) w.heap.size va 146:=Lies.new _ _ _
 rw [hva] at hl
 have c33:=hl.cell 33 (asC_amt a ha)
 rw [← hva] at c33
 have hb:Below w.heap.size w (w.alloc (.cells va 146)):=(Below.refl _ _).alloc (Nat.le_refl _) _
 have HB:=Hj hb
 clear hl hb hva ha
 unfold isNz
 generalize a.amt=x at c33 ⊢
 by_cases h0:x=0
 ·
  subst h0
  go_enter Tryz.func219,Tryz.ntmps219
  go_wp2_with fail
  go_ret
  exact ⟨rfl,HB.out⟩
 ·
  have h1:(x != 0)=true:=by simpa using h0
  have h2:(x == 0)=false:=by simpa using h0
  have h3:decide (x≠0)=true:=decide_eq_true h0
  rw [h3]
  go_enter Tryz.func219,Tryz.ntmps219
  go_wp2_with fail
  go_ret
  exact ⟨rfl,HB.out⟩
theorem enterNz (args:Array Value) (w:World):(callFunc 219 args).run Tryz.prog w=.ok (.enter 219 args) w :=
 enter_of Tryz.func219 (by kernel_rfl) rfl args w
theorem mints_any (w:World) (pa:Option Addr) (l:List As) (c:Nat) (h:Row w pa l) :
  Calls Tryz.prog 148 #[.slice pa l.length c] w fun e w'=>e=.returned (.bool (mintB l))∧Below w.heap.size w w':=by
 have hn:(l.length:Int)≤9223372036854775807:=by have:=h.1;unfold maxLen at this;omega
 have hC:=well_any 219 isNz enterNz (fun w a ha=>isNz_any w a ha) w pa l c h.1 (fun a ha=>⟨(h.2.1 a ha).1,(h.2.1 a ha).2.1⟩) h.2.2
 have H:=Hj hC
 clear h hC
 go_enter Tryz.func148,Tryz.ntmps148
 by_cases h30:l.length≤30
 ·
  have m30:(l.length:Int)≤30:=by omega
  have HV:=Hj (show mintB l=wellB isNz l by unfold mintB;simp [h30])
  go_wp2_with fail
  refine H.out.mono ?_
  rintro e w2 ⟨rfl,hb2⟩
  go_wp2_with fail
  go_ret
  refine ⟨?_,hb2⟩
  rw [HV.out]
  rfl
 ·
  have m30:¬ (l.length:Int)≤30:=by omega
  have HV:=Hj (show mintB l=false by unfold mintB;simp [h30])
  go_wp2_with fail
  go_ret
  refine ⟨?_,Below.refl _ _⟩
  rw [HV.out]
  rfl
end Go.Proofs.YtilbbemdinpjcaaGreat.P
