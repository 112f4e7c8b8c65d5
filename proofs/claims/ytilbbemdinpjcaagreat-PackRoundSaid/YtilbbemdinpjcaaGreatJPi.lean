/-
  How great outputs are: nodes and bytes of their terms, assets and bytes of their names.
-/
import Derived.Test.YtilbbemdinpjcaaGreatJPf
import Derived.Test.YtilbbemdinpjcaaGreatJVq
import Derived.Test.YtilbbemdinpjcaaGreatJTTjp
import Derived.Test.YtilbbemdinpjcaaGreatJVj
set_option maxHeartbeats 16000000
namespace Go.Proofs.YtilbbemdinpjcaaGreat.P
set_option maxRecDepth 100000
open Go.RowKit Go.Sort
theorem chB {W U V:World} (h1:Below W.heap.size W U) (h2:Below U.heap.size U V):Below W.heap.size W V:=h1.trans (h2.mono h1.size)
theorem wpOp_unwanted {P:Program} {ops:Array Oper} {Q:Exit→Act→World→Prop} {i:Nat} {o:Oper} {a:Act} {w:World} {K:Act→World→Prop} (hi:ops[i]? = some o) (hw:Region.wanted o (yielded ops a.tmps)=false) (d:Tmp) (hd:o.dst=some d) (h:K (a.put (some d) undef) w):wpOp P ops Q i K a w:=by
 unfold wpOp
 rw [hi]
 show if Region.wanted o (yielded ops a.tmps)=true then _ else _
 rw [if_neg (by rw [hw];simp),hd]
 exact h
theorem must_forms {f:FuncId} {args:Array Value} {U w:World} {b:Bool} (h:Calls Tryz.prog f args w fun e w'=>Must b e∧Below U.heap.size U w') :
  Calls Tryz.prog f args w fun e w'=>(∃ v,e=.returned v∧(v=.tuple #[]∧b=true∧Below U.heap.size U w')) ∨ (∃ c,e=.panicked c∧(b=false∧Fault (.panicked c)∧Below U.heap.size U w')) :=
 h.mono fun e w' k=>by
  rcases k with ⟨⟨h1,rfl⟩ | ⟨h1,n,rfl⟩,h2⟩
  ·
   exact .inl ⟨_,rfl,rfl,h1,h2⟩
  ·
   exact .inr ⟨_,rfl,h1,⟨n,rfl⟩,h2⟩
structure En where
 r:Rf
 o:Ot
def enC (e:En):Array Value:=refC e.r ++ otC e.o
structure EnOk (w:World) (e:En):Prop where
 r:RfOk e.r
 o:OtOk w e.o
theorem EnOk.below {w w':World} {e:En} {B:Nat} (h:EnOk w e) (hb:Below B w w') (hB:w.heap.size≤B):EnOk w' e:=⟨h.r,h.o.below hb hB⟩
theorem enC_size {w:World} {e:En} (h:EnOk w e):(enC e).size=102:=by
 unfold enC
 rw [Array.size_append,refC_size _ h.r.1,otC_size _ h.o.ah h.o.dh]
theorem enC_ref {w:World} {e:En} (_h:EnOk w e) (j:Nat) (v:Value) (hv:(refC e.r).toList[j]? = some v):(enC e).toList[j]? = some v:=by
 unfold enC
 rw [Array.toList_append,List.getElem?_append_left (List.getElem?_eq_some_iff.1 hv).1]
 exact hv
theorem enC_out {w:World} {e:En} (h:EnOk w e) (j:Nat) (v:Value) (hv:(otC e.o).toList[j]? = some v):(enC e).toList[33+j]? = some v:=by
 have hl:(refC e.r).toList.length=33:=by rw [Array.length_toList,refC_size _ h.r.1]
 unfold enC
 rw [Array.toList_append,List.getElem?_append_right (by omega),hl,Nat.add_sub_cancel_left]
 exact hv
def HasE (w:World) (g off:Nat) (es:List En):Prop:=∀ (i:Nat) (e:En),es[i]? = some e→w.rangeAt g (off+i * 102) (enC e).toList∧EnOk w e
theorem HasE.below {B:Nat} {w w':World} {g off:Nat} {es:List En} (h:HasE w g off es) (hb:Below B w w') (hg:g < B) (hB:w.heap.size≤B):HasE w' g off es :=
 fun i e hi=>⟨fun j v hj=>(hb.cell (p:=⟨g,off+i * 102+j,none⟩) hg).trans ((h i e hi).1 j v hj),(h i e hi).2.below hb hB⟩
def RowE (w:World) (pa:Option Addr) (es:List En):Prop:=es.length≤maxLen∧(0 < es.length→∃ g off,pa=some ⟨g,off,none⟩∧g < w.heap.size∧HasE w g off es)
theorem RowE.below {B:Nat} {w w':World} {pa:Option Addr} {es:List En} (h:RowE w pa es) (hb:Below B w w') (hB:w.heap.size≤B):RowE w' pa es :=
 ⟨h.1,fun hl=>by
  obtain ⟨g,off,e,hg,hh⟩:=h.2 hl
  exact ⟨g,off,e,Nat.lt_of_lt_of_le hg hb.size,hh.below hb (Nat.lt_of_lt_of_le hg hB) hB⟩⟩
def entB (es:List En) (i:Nat):Bool:=match es[i]? with
 | some e=>rightRefB e.r && rightOB e.o && (match i with | 0=>true | j+1=>match es[j]? with | some d=>lessR d.r e.r | none=>true)
 | none=>true
def rightEB (es:List En):Bool:=(List.range es.length).all (entB es)
theorem ent_next {es:List En} {k:Nat} (h:∀ i,i < k→entB es i=true) (hk:entB es k=true):∀ i,i < k+1→entB es i=true:=fun i hi=>by
 by_cases e:i=k
 ·
  rw [e];exact hk
 ·
  exact h i (by omega)
theorem right_all {es:List En} (h:∀ i,i < es.length→entB es i=true):rightEB es=true:=by
 unfold rightEB
 rw [List.all_eq_true]
 exact fun i hi=>h i (List.mem_range.1 hi)
theorem right_none {es:List En} {k:Nat} (hk:k < es.length) (h:entB es k=false):rightEB es=false:=by
 rw [← Bool.not_eq_true]
 intro e
 unfold rightEB at e
 rw [List.all_eq_true] at e
 have:=e k (List.mem_range.2 hk)
 rw [h] at this
 cases this
def zEn:Array Value:=Array.replicate 32 (.int .u8 0) ++ #[.int .i64 0,.bool false] ++ Array.replicate 32 (.int .u8 0) ++ #[.int .i64 0,.slice none 0 0,.int .i64 0] ++ Array.replicate 32 (.int .u8 0) ++ #[.slice none 0 0]
theorem alloc_entry (w:World):(Instr.alloc 81 true (.tuple #[])).run Tryz.prog w=.ok (.pointer (some ⟨w.heap.size,0,none⟩)) (w.alloc (.cells zEn 81)):=by kernel_rfl
theorem info_entry:(Tryz.prog.info? 81).map (·.size)=some 102:=by kernel_rfl
theorem info_ref:(Tryz.prog.info? 37).map (·.size)=some 33:=by kernel_rfl
theorem enC_one (e:En):(enC e).all (·.oneCell')=true:=by
 unfold enC
 rw [Array.all_append,refC_one,otC_one]
 rfl
attribute [-go_sem] Instr.alloc
theorem rightE1_any (w:World) (p:Nat) (pa:Option Addr) (es:List En) (c:Nat) (hp:w.cell? ⟨p,0,none⟩=some (.slice pa es.length c)) (hpl:p < w.heap.size) (h:RowE w pa es) :
 Calls Tryz.prog 67 #[.pointer (some ⟨p,0,none⟩)] w fun e w'=>Must (rightEB es) e∧Below w.heap.size w w':=by
 have hal:=alloc_entry
 obtain ⟨n,hn⟩:∃ n,n=es.length:=⟨_,rfl⟩
 have hni:(n:Int)≤9223372036854775807:=by have:=h.1;unfold maxLen at this;omega
 have HP:Hid (∀ V,Below w.heap.size w V→V.cell? ⟨p,0,none⟩=some (.slice pa n c)):=Hj fun V hV=>by rw [hn];exact (hV.cell (p:=⟨p,0,none⟩) hpl).trans hp
 have HN:=Hj (Aj hn h)
 have c0:=HP.out w (Below.refl _ _)
 clear hp hpl h hn
 go_enter Tryz.func67,Tryz.ntmps67
 go_wp2_with fail
 clear c0
 go_loopw [5] (fun i W=>∃ k:Nat,k≤n∧i=.int .i64 k∧Below w.heap.size w W∧∀ i,i < k→entB es i=true) (fun i _=>n - (intOf i).toNat)
 case atStart=>exact ⟨0,Nat.zero_le _,rfl,Below.refl _ _,fun i hi=>absurd hi (by omega)⟩
 case round =>
  obtain ⟨k,hk,rfl,hb,hall⟩:=hrel
  have m0:(0:Int)≤(k:Int):=by omega
  by_cases hlt:k < n
  · have m1:(k:Int) < (n:Int):=by omega
    have hnn:=HN.out.1
    obtain ⟨g,off,hpa,hg,hh⟩:=HN.out.2.2 (by omega)
    subst hpa
    obtain ⟨e,hke⟩:∃ e,es[k]? = some e:=⟨es[k]'(by omega),List.getElem?_eq_getElem _⟩
    have hE:=hh.below hb hg (Nat.le_refl _) k e hke
    obtain ⟨ev,hev⟩:∃ v,v=enC e:=⟨_,rfl⟩
    have hes:ev.size=102:=by rw [hev];exact enC_size hE.2
    have he1:ev.all (·.oneCell')=true:=by rw [hev];exact enC_one e
    have HE:=Hj (Aj (show wr.rangeAt g (off+k * 102) ev.toList by rw [hev];exact hE.1) (Aj (show (Tryz.prog.info? 81).map (·.size)=some ev.toList.length by rw [Array.length_toList,hes];exact info_entry) (Aj (show (Tryz.prog.info? 81).map (·.size)=some ev.size by rw [hes];exact info_entry) (Aj hes he1))))
    have hL2:Lies (wr.alloc (.cells ev 81)) wr.heap.size ev 81:=Lies.new _ _ _
    have hb2:Below wr.heap.size wr (wr.alloc (.cells ev 81)):=(Below.refl _ _).alloc (Nat.le_refl _) _
    have HR:=Hj (Aj hb (Aj hlt hall))
    have HX:=Hj (Aj hev (Aj hke (Aj hE.2 (Aj hnn (Aj hg hh)))))
    clear hes he1 hk hlt hall hev hke hE hnn hg hh hb
    go_upto_region 3 with (first
     | (refine wpList_load_mid rfl 81 _ rfl g (off+k * 102) rfl ev.toList _ HE.out.1 Tryz.underlying81 rfl HE.out.2.1 ?_)
     | (refine wpList_store_row rfl 81 _ _ rfl wr.heap.size ev rfl rfl 81 zEn (Lies.new wr zEn 81) HE.out.2.2.1 (by rw [HE.out.2.2.2.1];kernel_rfl) HE.out.2.2.2.2 ?_))
    rw [World.setRow_alloc_new]
    generalize wr.alloc (.cells ev 81)=W2 at hL2 hb2 ⊢
    obtain ⟨b2,hb2e⟩:∃ b,b=wr.heap.size:=⟨_,rfl⟩
    rw [← hb2e] at hL2 ⊢
    clear hb2e
    have HB2:=Hj hb2
    have hEk:=HX.out.2.2.1.below hb2 (Nat.le_refl _)
    obtain ⟨rv,hrv⟩:∃ v,v=refC e.r:=⟨_,rfl⟩
    obtain ⟨ov,hov⟩:∃ v,v=otC e.o:=⟨_,rfl⟩
    obtain ⟨y1,hy1⟩:∃ b,b=rightRefB e.r:=⟨_,rfl⟩
    obtain ⟨y2,hy2⟩:∃ b,b=rightOB e.o:=⟨_,rfl⟩
    have HI:=Hj (Aj (show (Tryz.prog.info? 37).map (·.size)=some rv.size by rw [hrv,refC_size _ hEk.r.1];exact info_ref) (show (Tryz.prog.info? 35).map (·.size)=some ov.size by rw [hov,otC_size _ hEk.o.ah hEk.o.dh];exact info_output))
    have K1:Hid (∀ V,Calls Tryz.prog 68 #[.agg rv] V fun e w'=>e=.returned (.bool y1)∧Below V.heap.size V w'):=Hj fun V=>by rw [hrv,hy1];exact rightRef_any V e.r hEk.r.1
    have K2:Hid (∀ V,Below W2.heap.size W2 V→Calls Tryz.prog 13 #[.agg ov] V fun e w'=>e=.returned (.bool y2)∧Below V.heap.size V w'):=Hj fun V hV=>by rw [hov,hy2];exact rightOutput_any V e.o (hEk.o.below hV (Nat.le_refl _))
    have HRG:Hid (∀ V,Below W2.heap.size W2 V→V.rangeAt b2 0 rv.toList∧V.rangeAt b2 33 ov.toList):=Hj fun V hV=>by
     have hl:=hL2.below hV hL2.lt
     rw [HX.out.1] at hl
     refine ⟨fun j v hj => ?_,fun j v hj => ?_⟩
     · rw [Nat.zero_add]
       exact hl.cell j (by rw [← Array.getElem?_toList];exact enC_ref hEk j v (by rw [← hrv];exact hj))
     · exact hl.cell (33+j) (by rw [← Array.getElem?_toList];exact enC_out hEk j v (by rw [← hov];exact hj))
    cases k with
    | zero =>
      as_aux_lemma =>
      have HG:Hid (((y1 && y2 && true)=true→entB es 0=true)∧((y1 && y2 && true)=false→rightEB es=false)):=Hj (by
       have e0:entB es 0=(y1 && y2 && true):=by
        unfold entB
        rw [HX.out.2.1,hy1,hy2]
       refine ⟨fun h=>by rw [e0];exact h,fun h=>right_none (k:=0) (by have:=HR.out.2.1;have:=HX.out.2.2.2.1;omega) (by rw [e0];exact h)⟩)
      have HS:Hid (∀ V,Below W2.heap.size W2 V→V.rangeAt b2 0 rv.toList∧V.rangeAt b2 33 ov.toList):=HRG
      have hk0:((0:Nat):Int)=0:=rfl
      clear hL2 hb2 hEk hrv hov hy1 hy2 HRG
      refine wp_region_held (S:=Below W2.heap.size W2) (by kernel_rfl) ?_
      change wpAnyH _ _ _ _ _ 21 _ _ (World.drew W2)
      have hcur:Below W2.heap.size W2 W2.drew:=(Below.refl _ _).drew
      refine tk 0 (.pointer (some ⟨b2,0,none⟩)) 10 rfl rfl hcur ?_
      refine tk 1 (.agg rv) 11 rfl rfl hcur ?_ (by intro w' hS';exact exec_loadM 37 (.tmp 10) rfl b2 0 rfl rv ((HS.out w' hS').1) Tryz.underlying37 rfl HI.out.1)
      refine tk 3 (.pointer (some ⟨b2,33,none⟩)) 13 rfl rfl hcur ?_
      refine tk 4 (.agg ov) 14 rfl rfl hcur ?_ (by intro w' hS';exact exec_loadM 35 (.tmp 13) rfl b2 33 rfl ov ((HS.out w' hS').2) Tryz.underlying35 rfl HI.out.2)
      refine tk 6 (.int .i64 ((0:Nat):Int)) 16 rfl rfl hcur ?_
      refine tk 7 (.bool true) 17 rfl rfl hcur ?_
      generalize W2.drew=V0 at hcur ⊢
      refine held_one (i:=2) (by kernel_rfl) _ rfl (wpOp_callG rfl (by rfl) 12 rfl 68 #[.agg rv] (by unfold execOp;simp [go_sem]) _ (ret_gro (K1.out _)) ?_)
      rintro _ U1 ⟨rfl,hn⟩
      have hcur:=hcur.trans (hn.mono hcur.size)
      clear hn
      refine ⟨hcur,?_⟩
      simp only [Sj]
      refine held_one (i:=5) (by kernel_rfl) _ rfl (wpOp_callG rfl (by rfl) 15 rfl 13 #[.agg ov] (by unfold execOp;simp [go_sem]) _ (ret_gro (K2.out _ hcur)) ?_)
      rintro _ U2 ⟨rfl,hn⟩
      have hcur:=hcur.trans (hn.mono hcur.size)
      clear hn
      refine ⟨hcur,?_⟩
      simp only [Sj]
      refine tk 8 (.bool true) 18 rfl rfl hcur ?_
      refine held_skip (i:=9) rfl 19 rfl (by kernel_rfl) (by kernel_rfl) (by kernel_rfl) (fun _ _ _ h=>h) (by rfl) hcur _ rfl ?_
      simp only [Sj]
      refine held_skip (i:=10) rfl 20 rfl (by kernel_rfl) (by kernel_rfl) (by kernel_rfl) (fun _ _ _ h=>h) (by rfl) hcur _ rfl ?_
      simp only [Sj]
      refine held_skip (i:=11) rfl 21 rfl (by kernel_rfl) (by kernel_rfl) (by kernel_rfl) (fun _ _ _ h=>h) (by rfl) hcur _ rfl ?_
      simp only [Sj]
      refine held_skip (i:=12) rfl 22 rfl (by kernel_rfl) (by kernel_rfl) (by kernel_rfl) (fun _ _ _ h=>h) (by rfl) hcur _ rfl ?_
      simp only [Sj]
      refine held_skip (i:=13) rfl 23 rfl (by kernel_rfl) (by kernel_rfl) (by kernel_rfl) (fun _ _ _ h=>h) (by rfl) hcur _ rfl ?_
      simp only [Sj]
      refine held_skip (i:=14) rfl 24 rfl (by kernel_rfl) (by kernel_rfl) (by kernel_rfl) (fun _ _ _ h=>h) (by rfl) hcur _ rfl ?_
      simp only [Sj]
      refine held_skip (i:=15) rfl 25 rfl (by kernel_rfl) (by kernel_rfl) (by kernel_rfl) (fun _ _ _ h=>h) (by rfl) hcur _ rfl ?_
      simp only [Sj]
      refine held_skip (i:=16) rfl 26 rfl (by kernel_rfl) (by kernel_rfl) (by kernel_rfl) (fun _ _ _ h=>h) (by rfl) hcur _ rfl ?_
      simp only [Sj]
      refine held_one (i:=17) (by kernel_rfl) _ rfl (wpOp_unwanted rfl (by rfl) 27 rfl ⟨hcur,?_⟩)
      simp only [Sj]
      refine tk 18 (.bool true) 28 rfl rfl hcur ?_
      refine held_one (i:=19) (by kernel_rfl) _ rfl (wpOp_valG rfl (by rfl) 29 rfl (v:=.slice (some ⟨U2.heap.size,0,none⟩) 3 3) (w':=U2.alloc (.cells #[.bool y1,.bool y2,.bool true] 4)) (by unfold execOp;simp [go_sem]) ⟨hcur.alloc hcur.size _,?_⟩)
      simp only [Sj]
      refine held_one (i:=20) (by kernel_rfl) _ rfl (wpOp_callP rfl (by rfl) 30 rfl 62 #[.slice (some ⟨U2.heap.size,0,none⟩) 3 3] (by unfold execOp;simp [go_sem]) _ _ (must_forms (must3 U2 y1 y2 true)) ?_ ?_)
      · rintro _ U9 ⟨rfl,hy,hn⟩
        have hb9:Below W2.heap.size W2 U9:=hcur.trans (hn.mono hcur.size)
        refine ⟨hb9,?_⟩
        simp only [Sj]
        refine held_done (by kernel_rfl) ?_
        have H9:=Hj (Aj hb9 hy)
        clear hcur hn hb9 hy
        go_wp2_with fail
        refine ⟨⟨0+1,HR.out.2.1,by go_num,chB HR.out.1 (chB HB2.out H9.out.1),?_⟩,?_⟩
        · exact ent_next HR.out.2.2 (HG.out.1 H9.out.2)
        · have:=HR.out.2.1;simp [intOf];omega
      · rintro ch U9 ⟨hy,hf,hn⟩
        have hb9:Below W2.heap.size W2 U9:=hcur.trans (hn.mono hcur.size)
        exact ⟨rfl,.inr ⟨HG.out.2 hy,hf⟩,chB HR.out.1 (chB HB2.out hb9)⟩
    | succ m =>
      as_aux_lemma =>
      obtain ⟨d,hkd⟩:∃ d,es[m]? = some d:=⟨es[m]'(by have:=HR.out.2.1;have:=HX.out.2.2.2.1;omega),List.getElem?_eq_getElem _⟩
      obtain ⟨dv,hdv⟩:∃ v,v=refC d.r:=⟨_,rfl⟩
      obtain ⟨y3,hy3⟩:∃ b,b=lessR d.r e.r:=⟨_,rfl⟩
      have hbw:Below w.heap.size w W2:=chB HR.out.1 hb2
      have hdok:=(HX.out.2.2.2.2.2 m d hkd).2
      have HG:Hid (((y1 && y2 && y3)=true→entB es (m+1)=true)∧((y1 && y2 && y3)=false→rightEB es=false)):=Hj (by
       have e0:entB es (m+1)=(y1 && y2 && y3):=by
        unfold entB
        rw [HX.out.2.1,hy1,hy2,hy3]
        simp only [hkd]
       refine ⟨fun h=>by rw [e0];exact h,fun h=>right_none (k:=m+1) (by have:=HR.out.2.1;have:=HX.out.2.2.2.1;omega) (by rw [e0];exact h)⟩)
      have HD:=Hj (show (Tryz.prog.info? 37).map (·.size)=some dv.size by rw [hdv,refC_size _ hdok.r.1];exact info_ref)
      have K3:Hid (∀ V,Calls Tryz.prog 21 #[.agg dv,.agg rv] V fun e w'=>e=.returned (.bool y3)∧Below V.heap.size V w'):=Hj fun V=>by rw [hrv,hdv,hy3];exact less_any V d.r e.r hdok.r.1 hEk.r.1
      have HS:Hid (∀ V,Below W2.heap.size W2 V→V.rangeAt b2 0 rv.toList∧V.rangeAt b2 33 ov.toList∧V.cell? ⟨p,0,none⟩=some (.slice (some ⟨g,off,none⟩) n c)∧V.rangeAt g (off+m * 102) dv.toList):=Hj fun V hV=>by
       have h1:=HRG.out V hV
       have h2:=HP.out V (chB hbw hV)
       have h3:=(HX.out.2.2.2.2.2.below (chB hbw hV) HX.out.2.2.2.2.1 (Nat.le_refl _)) m d hkd
       exact ⟨h1.1,h1.2,h2,fun j v hj=>h3.1 j v (enC_ref h3.2 j v (by rw [← hdv];exact hj))⟩
      have hk0:((((m+1:Nat):Int)) == 0)=false:=by simp;omega
      have hkm:IntKind.i64.wrap (((m+1:Nat):Int) - 1)=(m:Int):=by rw [IntKind.wrap_i64];omega
      have q0:(0:Int)≤(m:Int):=by omega
      have q1:(m:Int) < (n:Int):=by omega
      obtain ⟨k,hkk⟩:∃ k,k=m+1:=⟨_,rfl⟩
      rw [← hkk] at hk0 hkm HR m0 m1 ⊢
      have HKK:=Hj hkk
      clear hL2 hb2 hEk hrv hov hy1 hy2 HRG hkd hdv hy3 hbw hdok hkk
      refine wp_region_held (S:=Below W2.heap.size W2) (by kernel_rfl) ?_
      change wpAnyH _ _ _ _ _ 21 _ _ (World.drew W2)
      have hcur:Below W2.heap.size W2 W2.drew:=(Below.refl _ _).drew
      refine tk 0 (.pointer (some ⟨b2,0,none⟩)) 10 rfl rfl hcur ?_
      refine tk 1 (.agg rv) 11 rfl rfl hcur ?_ (by intro w' hS';exact exec_loadM 37 (.tmp 10) rfl b2 0 rfl rv ((HS.out w' hS').1) Tryz.underlying37 rfl HI.out.1)
      refine tk 3 (.pointer (some ⟨b2,33,none⟩)) 13 rfl rfl hcur ?_
      refine tk 4 (.agg ov) 14 rfl rfl hcur ?_ (by intro w' hS';exact exec_loadM 35 (.tmp 13) rfl b2 33 rfl ov ((HS.out w' hS').2.1) Tryz.underlying35 rfl HI.out.2)
      refine tk 6 (.int .i64 (k:Int)) 16 rfl rfl hcur ?_
      refine tk 7 (.bool false) 17 rfl rfl hcur ?_ (by intro w' hS';unfold execOp;simp [go_sem,hk0])
      generalize W2.drew=V0 at hcur ⊢
      refine held_one (i:=2) (by kernel_rfl) _ rfl (wpOp_callG rfl (by rfl) 12 rfl 68 #[.agg rv] (by unfold execOp;simp [go_sem]) _ (ret_gro (K1.out _)) ?_)
      rintro _ U1 ⟨rfl,hn⟩
      have hcur:=hcur.trans (hn.mono hcur.size)
      clear hn
      refine ⟨hcur,?_⟩
      simp only [Sj]
      refine held_one (i:=5) (by kernel_rfl) _ rfl (wpOp_callG rfl (by rfl) 15 rfl 13 #[.agg ov] (by unfold execOp;simp [go_sem]) _ (ret_gro (K2.out _ hcur)) ?_)
      rintro _ U2 ⟨rfl,hn⟩
      have hcur:=hcur.trans (hn.mono hcur.size)
      clear hn
      refine ⟨hcur,?_⟩
      simp only [Sj]
      refine tk 8 (.bool false) 18 rfl rfl hcur ?_
      refine tk 15 (.pointer (some ⟨b2,0,none⟩)) 25 rfl rfl hcur ?_
      refine tk 9 (.slice (some ⟨g,off,none⟩) n c) 19 rfl rfl hcur ?_ (by intro w' hS';have x:=(HS.out w' hS').2.2.1;unfold execOp;simp [go_sem,x])
      refine tk 10 (.int .i64 (k:Int)) 20 rfl rfl hcur ?_
      refine tk 11 (.int .i64 (m:Int)) 21 rfl rfl hcur ?_ (by intro w' hS';unfold execOp;simp [go_sem,hkm])
      refine tk 12 (.pointer (some ⟨g,off+m * 102,none⟩)) 22 rfl rfl hcur ?_ (by intro w' hS';unfold execOp;simp [go_sem,q0,q1])
      refine tk 13 (.pointer (some ⟨g,off+m * 102,none⟩)) 23 rfl rfl hcur ?_
      refine tk 14 (.agg dv) 24 rfl rfl hcur ?_ (by intro w' hS';exact exec_loadM 37 (.tmp 23) rfl g (off+m * 102) rfl dv ((HS.out w' hS').2.2.2) Tryz.underlying37 rfl HD.out)
      refine tk 16 (.agg rv) 26 rfl rfl hcur ?_ (by intro w' hS';exact exec_loadM 37 (.tmp 25) rfl b2 0 rfl rv ((HS.out w' hS').1) Tryz.underlying37 rfl HI.out.1)
      refine held_one (i:=17) (by kernel_rfl) _ rfl (wpOp_callG rfl (by rfl) 27 rfl 21 #[.agg dv,.agg rv] (by unfold execOp;simp [go_sem]) _ (ret_gro (K3.out _)) ?_)
      rintro _ U3 ⟨rfl,hn⟩
      have hcur:=hcur.trans (hn.mono hcur.size)
      clear hn
      refine ⟨hcur,?_⟩
      simp only [Sj]
      refine tk 18 (.bool y3) 28 rfl rfl hcur ?_
      refine held_one (i:=19) (by kernel_rfl) _ rfl (wpOp_valG rfl (by rfl) 29 rfl (v:=.slice (some ⟨U3.heap.size,0,none⟩) 3 3) (w':=U3.alloc (.cells #[.bool y1,.bool y2,.bool y3] 4)) (by unfold execOp;simp [go_sem]) ⟨hcur.alloc hcur.size _,?_⟩)
      simp only [Sj]
      refine held_one (i:=20) (by kernel_rfl) _ rfl (wpOp_callP rfl (by rfl) 30 rfl 62 #[.slice (some ⟨U3.heap.size,0,none⟩) 3 3] (by unfold execOp;simp [go_sem]) _ _ (must_forms (must3 U3 y1 y2 y3)) ?_ ?_)
      · rintro _ U9 ⟨rfl,hy,hn⟩
        have hb9:Below W2.heap.size W2 U9:=hcur.trans (hn.mono hcur.size)
        refine ⟨hb9,?_⟩
        simp only [Sj]
        refine held_done (by kernel_rfl) ?_
        have H9:=Hj (Aj hb9 hy)
        clear hcur hn hb9 hy
        go_wp2_with fail
        refine ⟨⟨k+1,HR.out.2.1,by go_num,chB HR.out.1 (chB HB2.out H9.out.1),?_⟩,?_⟩
        · exact ent_next HR.out.2.2 (by rw [HKK.out];exact HG.out.1 H9.out.2)
        · have:=HR.out.2.1;have h2:=HKK.out;simp [intOf];omega
      · rintro ch U9 ⟨hy,hf,hn⟩
        have hb9:Below W2.heap.size W2 U9:=hcur.trans (hn.mono hcur.size)
        exact ⟨rfl,.inr ⟨HG.out.2 hy,hf⟩,chB HR.out.1 (chB HB2.out hb9)⟩
  · have m1:¬ (k:Int) < (n:Int):=by omega
    have HE:=Hj (Aj hb (right_all (es:=es) (fun i hi=>hall i (by have:=HN.out.1;omega))))
    clear hb hall hlt hk
    go_wp2_with fail
    go_end0
    exact ⟨.inl ⟨HE.out.2,rfl⟩,HE.out.1⟩
end Go.Proofs.YtilbbemdinpjcaaGreat.P
namespace Go.Proofs.YtilbbemdinpjcaaGreat.P
set_option maxRecDepth 100000
open Go.RowKit Go.Sort
theorem rightEntries_any (w:World) (pa:Option Addr) (es:List En) (c:Nat) (h:RowE w pa es) :
  Calls Tryz.prog 15 #[.slice pa es.length c] w fun e w'=>e=.returned (.bool (rightEB es))∧Below w.heap.size w w':=by
 have hmf:∀ (fn:Fn) (first cap:Array Value) (w:World),(Instr.makeFunc fn first cap).run Tryz.prog w=.ok (.func fn first cap) w:=fun _ _ _ _=>rfl
 have hL:Lies (w.alloc (.cells #[.slice pa es.length c] 38)) w.heap.size #[.slice pa es.length c] 38:=Lies.new _ _ _
 have hb0:Below w.heap.size w (w.alloc (.cells #[.slice pa es.length c] 38)):=(Below.refl _ _).alloc (Nat.le_refl _) _
 have hm:=met_any (w.alloc (.cells #[.slice pa es.length c] 38)) 67 #[.pointer (some ⟨w.heap.size,0,none⟩)] (rightEB es) (callFn _ Tryz.func67 (by kernel_rfl) rfl _) (fun w1 hw1=>rightE1_any w1 w.heap.size pa es c ((hL.below hw1 hL.lt).cell 0 rfl) (Nat.lt_of_lt_of_le hL.lt hw1.size) (h.below (hb0.trans (hw1.mono hb0.size)) (Nat.le_refl _)))
 have HM:=Hj (Aj hm hb0)
 obtain ⟨b,hb⟩:∃ b,b=rightEB es:=⟨_,rfl⟩
 rw [← hb] at HM ⊢
 clear hm hb0 hL h hb
 go_enter Tryz.func15,Tryz.ntmps15
 go_wp2_with fail
 refine HM.out.1.mono ?_
 rintro e U ⟨rfl,hb⟩
 have HU:=Hj (HM.out.2.trans (hb.mono HM.out.2.size))
 clear hb
 go_wp2_with fail
 go_ret
 exact ⟨rfl,HU.out⟩
end Go.Proofs.YtilbbemdinpjcaaGreat.P
namespace Go.Proofs.YtilbbemdinpjcaaGreat.T
open Go.RowKit
set_option maxRecDepth 1000000 in
theorem termOfL_any (lim:Nat) (hlim:lim≤1000000) (w:World) (a:Option Addr) (c:Nat) (xs:List Nd) (hr:TRaw w a xs) (ht:TxtRaw xs) (hl:xs.length≤140737488355328) :
  Calls Tryz.prog 41 #[.agg #[.slice a xs.length c],.int .i64 (lim:Int)] w fun e w'=>∃ r:Nat,e=.returned (.int .i64 r)∧(r≤lim→r=cost xs)∧r≤1000000000000000∧Below w.heap.size w w':=by
 have hA:Lies (w.alloc (.cells #[.slice a xs.length c] 24)) w.heap.size #[.slice a xs.length c] 24:=Lies.new _ _ _
 have hb0:Below w.heap.size w (w.alloc (.cells #[.slice a xs.length c] 24)):=(Below.refl _ _).alloc (Nat.le_refl _) _
 obtain ⟨n,hn⟩:∃ n,n=xs.length:=⟨_,rfl⟩
 rw [← hn] at hA hb0 hl ⊢
 have H:=Hj (Aj hr (Aj ht (Aj hl hn)))
 clear hr ht hl hn
 go_enter Tryz.func41,Tryz.ntmps41
 go_upto_region 1 with fail
 generalize w.alloc (.cells #[.slice a n c] 24)=W0 at hA hb0 ⊢
 have c0:=hA.cell 0 (v:=.slice a n c) rfl
 have HB:=Hj hb0
 clear hA hb0
 go_wp2_with fail
 go_loop [5,6] (fun s i=>∃ k t:Nat,k≤n∧i=.int .i64 k∧s=.int .i64 t∧t=cost (xs.take k)∧t≤1000000000000000) (fun _ i=>(n - intOf i).toNat)
 case atStart=>exact ⟨0,0,by omega,by go_num,by go_num,rfl,by omega⟩
 case round =>
  obtain ⟨k,t,hk,rfl,rfl,hs,hts⟩:=hrel
  by_cases hlt:k < n
  ·
   have q1:(k:Int) < (n:Int):=by omega
   by_cases h3:t≤lim
   ·
    have q2:(t:Int)≤(lim:Int):=by omega
    have hxl:k < xs.length:=by rw [← H.out.2.2.2];exact hlt
    obtain ⟨g,off,rfl,hN⟩:=H.out.1 (by omega)
    have hNW:=hN.below HB.out hN.1
    obtain ⟨tx,htx⟩:∃ z,z=xs[k].txt:=⟨_,rfl⟩
    have c3:W0.cell? ⟨g,off+k * 5+3,none⟩=some (.string tx):=by rw [htx];exact hNW.2 k hxl 3 _ rfl
    have hz:tx.size≤140737488355328:=by rw [htx];exact H.out.2.1 _ (List.getElem_mem hxl)
    have hct:=cost_take hxl
    rw [← htx,← hs] at hct
    have q0:(0:Int)≤(k:Int):=by omega
    have q3:(k:Int)≤140737488355328:=by have:=H.out.2.2.1;omega
    have HC:=Hj (Aj hct (Aj hz hs))
    have q4:(tx.size:Int)≤140737488355328:=by omega
    have q5:(0:Int)≤(tx.size:Int):=by omega
    clear hN hNW htx hct hs hxl hz
    go_wp2_with fail
    have hz:=HC.out.2.1
    refine ⟨⟨k+1,t+1+tx.size / 16,by omega,by go_num,congrArg (Value.int .i64) (by omega),HC.out.1.symm,by omega⟩,by simp [intOf];omega⟩
   ·
    have q2:¬ (t:Int)≤(lim:Int):=by omega
    have HT:=Hj hs
    clear hs
    go_wp2_with fail
    go_ret
    exact ⟨t,rfl,fun h=>by omega,hts,HB.out⟩
  ·
   have q1:¬ (k:Int) < (n:Int):=by omega
   have hke:k=n:=by omega
   have hz:t=cost xs:=by rw [hs,hke,H.out.2.2.2,List.take_length]
   have HT:=Hj hz
   clear hs hz hke
   go_wp2_with fail
   go_ret
   exact ⟨t,rfl,fun _=>HT.out,hts,HB.out⟩
end Go.Proofs.YtilbbemdinpjcaaGreat.T
namespace Go.Proofs.YtilbbemdinpjcaaGreat.P
set_option maxRecDepth 100000
open Go.RowKit Go.Sort
/- counts of assets and bundles,as in value's text Vgx -/
def cntA (l:List As):Nat:=(l.map fun a=>1+a.nm.2.length / 16).sum
theorem cntA_take {l:List As} {k:Nat} {a:As} (h:l[k]? = some a):cntA (l.take (k+1))=cntA (l.take k)+(1+a.nm.2.length / 16):=by
 unfold cntA
 rw [List.take_add_one,h,List.map_append,List.sum_append]
 simp
def CntRes (x:Nat) (lim B:Int) (e:Ending):Prop:=∃ n:Nat,e=.returned (.int .i64 n)∧(n:Int)≤B∧((n:Int)≤lim→n=x)
theorem assetsX_any (w:World) (pa:Option Addr) (l:List As) (c:Nat) (lim:Int) (h:Row w pa l) (hlim:lim≤1000000) :
  Calls Tryz.prog 42 #[.slice pa l.length c,.int .i64 lim] w fun e w'=>CntRes (cntA l) lim 600000000000000000 e∧Below w.heap.size w w':=by
 have hli:(l.length:Int)≤9223372036854775807:=by have:=h.1;unfold maxLen at this;omega
 have H:=Hj (Aj h hlim)
 clear h hlim
 go_enter Tryz.func42,Tryz.ntmps42
 go_wp2_with fail
 go_loopw [5,6] (fun s i W=>∃ (k n:Nat),k≤l.length∧s=.int .i64 n∧i=.int .i64 k∧Below w.heap.size w W∧n=cntA (l.take k)∧(n:Int)≤600000000000000000) (fun _ i _=>l.length - (intOf i).toNat)
 case atStart=>exact ⟨0,0,Nat.zero_le _,rfl,rfl,Below.refl _ _,rfl,by omega⟩
 case round =>
  obtain ⟨k,n,hk,rfl,rfl,hb,hcn,hn0⟩:=hrel
  by_cases hlt:k < l.length
  ·
   have m1:(k:Int) < (l.length:Int):=by omega
   have m0:(0:Int)≤(k:Int):=by omega
   by_cases hn:(n:Int)≤lim
   ·
    obtain ⟨g,off,rfl,hg,hh⟩:=H.out.1.2.2 (by omega)
    obtain ⟨a,ha⟩:∃ a,a=l[k]:=⟨_,rfl⟩
    have hka:l[k]? = some a:=by rw [ha,List.getElem?_eq_getElem hlt]
    have oka:=H.out.1.2.1 a (List.mem_of_getElem? hka)
    have c32:=(hh.below hb hg) k a hka 32 (.string (txt a.nm.2)) (by rw [Array.getElem?_toList];exact asC_txt a oka.1)
    have hts:=txt_size a.nm.2
    have ht:=oka.2.1
    have hl:=H.out.2
    have hnx:n+(1+(txt a.nm.2).size / 16)=cntA (l.take (k+1)):=by rw [cntA_take hka,← hcn,hts]
    generalize txt a.nm.2=tv at c32 hts hnx
    have hti:(tv.size:Int)≤9223372036854775807:=by unfold maxLen at ht;omega
    obtain ⟨z,hz⟩:∃ z,z=tv.size / 16:=⟨_,rfl⟩
    have hzl:z≤576460752303423488:=by omega
    have hdiv:Int.tdiv (tv.size:Int) 16=(z:Int):=by rw [hz];rfl
    have hw1:IntKind.i64.wrap ((n:Int)+1)=(n:Int)+1:=by rw [IntKind.wrap_i64];omega
    have hwz:IntKind.i64.wrap (z:Int)=(z:Int):=by rw [IntKind.wrap_i64];omega
    have hw2:IntKind.i64.wrap ((n:Int)+1+(z:Int))=(n:Int)+1+(z:Int):=by rw [IntKind.wrap_i64];omega
    rw [← hz] at hnx
    have hnl:((n+(1+z):Nat):Int)≤600000000000000000:=by omega
    have HR:=Hj (Aj hb (Aj hlt (Aj hnx hnl)))
    clear ha hka oka hg hh hb hlt hk hts ht hcn hl hz hzl hnx hn0 hnl
    go_wp2_with fail
    have e1:(k:Int)+1=((k+1:Nat):Int):=by omega
    have e2:(n:Int)+1+(z:Int)=((n+(1+z):Nat):Int):=by omega
    rw [e1,e2]
    refine ⟨⟨k+1,n+(1+z),HR.out.2.1,rfl,rfl,HR.out.1,HR.out.2.2.1,HR.out.2.2.2⟩,?_⟩
    have h:=HR.out.2.1
    show l.length - (k+1) < l.length - k
    omega
   ·
    have HB:=Hj (Aj hb (Aj hn0 hn))
    clear hb hlt hk hcn hn0
    go_wp2_with fail
    go_ret
    exact ⟨⟨n,rfl,HB.out.2.1,fun h=>absurd h (by have:=HB.out.2.2;omega)⟩,HB.out.1⟩
  ·
   have m1:¬ (k:Int) < (l.length:Int):=by omega
   have hkl:k=l.length:=by omega
   subst hkl
   rw [List.take_length] at hcn
   have HB:=Hj (Aj hb (Aj hn0 hcn))
   clear hb hlt hk hcn hn0
   go_wp2_with fail
   go_ret
   exact ⟨⟨n,rfl,HB.out.2.1,fun _=>HB.out.2.2⟩,HB.out.1⟩
def cntV (v:Va):Nat:=1+cntA v.l
theorem valueX_any (w:World) (x:Int) (pa:Option Addr) (l:List As) (c:Nat) (lim:Int) (h:Row w pa l) (hlim:lim≤1000000) :
  Calls Tryz.prog 43 #[.agg #[.int .i64 x,.slice pa l.length c],.int .i64 lim] w fun e w'=>CntRes (1+cntA l) lim 600000000000000001 e∧Below w.heap.size w w':=by
 have hli:(l.length:Int)≤9223372036854775807:=by have:=h.1;unfold maxLen at this;omega
 have hb1:Below w.heap.size w (w.alloc (.cells #[.int .i64 x,.slice pa l.length c] 27)):=(Below.refl _ _).alloc (Nat.le_refl _) _
 have hL:Lies (w.alloc (.cells #[.int .i64 x,.slice pa l.length c] 27)) w.heap.size #[.int .i64 x,.slice pa l.length c] 27:=Lies.new _ _ _
 have hC:=assetsX_any _ pa l c lim (h.below hb1 (Nat.le_refl _)) hlim
 have H:=Hj (Aj hC (Aj hb1 hlim))
 have c0:=hL.cell 0 (v:=.int .i64 x) rfl
 have c1:=hL.cell 1 (v:=.slice pa l.length c) rfl
 clear h hC hb1 hL hlim
 go_enter Tryz.func43,Tryz.ntmps43
 go_wp2_with fail
 refine H.out.1.mono ?_
 rintro e w2 ⟨⟨n,rfl,hn0,hn⟩,hb2⟩
 have hw:IntKind.i64.wrap (1+(n:Int))=1+(n:Int):=by rw [IntKind.wrap_i64];omega
 have HB:=Hj (Aj (H.out.2.1.trans (hb2.mono H.out.2.1.size)) (Aj hn0 hn))
 clear hb2 c0 c1 hn0 hn
 go_wp2_with fail
 go_ret
 have h0:=HB.out.2.1
 have h1:=HB.out.2.2
 have hl:=H.out.2.2
 refine ⟨⟨1+n,by push_cast;rfl,by omega,fun h=>by have:=h1 (by omega);omega⟩,HB.out.1⟩
structure OtRaw (w:World) (o:Ot):Prop where
 ah:o.ah.length=32
 v:VaOk w o.v
 dh:o.dh.length=32
 t:T.TRaw w o.tp o.ns
 txt:T.TxtRaw o.ns
 len:o.ns.length≤140737488355328
 kids:∀ x ∈ o.ns,x.kids≤9223372036854775807
 tc:o.ns.length≤o.tc
theorem OtRaw.below {w w':World} {o:Ot} {B:Nat} (h:OtRaw w o) (hb:Below B w w') (hB:w.heap.size≤B):OtRaw w' o:=⟨h.ah,⟨h.v.1,h.v.2.1,h.v.2.2.below hb hB⟩,h.dh,h.t.below hb hB,h.txt,h.len,h.kids,h.tc⟩
def cntO (o:Ot):Nat:=cntV o.v+T.cost o.ns
theorem OtRaw.small {w:World} {o:Ot} (h:OtRaw w o) (hc:cntO o≤1000000):OtOk w o:=⟨h.ah,h.v,h.dh,⟨h.t,by have:=T.cost_len o.ns;unfold cntO at hc;omega,h.kids⟩,h.tc⟩
theorem outputOf_any (w:World) (o:Ot) (lim:Nat) (hlim:lim≤1000000) (h:OtRaw w o) :
 Calls Tryz.prog 45 #[.agg (otC o),.int .i64 (lim:Int)] w fun e w'=>CntRes (cntO o) lim 700000000000000001 e∧Below w.heap.size w w':=by
 obtain ⟨ov,hov⟩:∃ v,v=otC o:=⟨_,rfl⟩
 have hL:Lies (w.alloc (.cells ov 35)) w.heap.size ov 35:=Lies.new _ _ _
 have hb0:Below w.heap.size w (w.alloc (.cells ov 35)):=(Below.refl _ _).alloc (Nat.le_refl _) _
 generalize hW:w.alloc (.cells ov 35)=W0 at hL hb0
 have hr:=h.below hb0 (Nat.le_refl _)
 have HS:Hid (∀ V,Below W0.heap.size W0 V→V.cell? ⟨w.heap.size,33,none⟩=some (.int .i64 o.v.coin)∧V.cell? ⟨w.heap.size,34,none⟩=some (.slice o.v.pa o.v.l.length o.v.c)∧V.cell? ⟨w.heap.size,68,none⟩=some (.slice o.tp o.ns.length o.tc)):=Hj fun V hV=>by
  have hl:=hL.below hV hL.lt
  rw [hov] at hl
  have h1:=lies_at hl h.ah h.dh
  exact ⟨by simpa using h1.coin,by simpa using h1.assets,by simpa using h1.term⟩
 have K1:Hid (∀ V,Below W0.heap.size W0 V→Calls Tryz.prog 43 #[.agg #[.int .i64 o.v.coin,.slice o.v.pa o.v.l.length o.v.c],.int .i64 (lim:Int)] V fun e w'=>CntRes (cntV o.v) lim 600000000000000001 e∧Below V.heap.size V w'):=Hj fun V hV=>valueX_any V o.v.coin o.v.pa o.v.l o.v.c lim (hr.v.2.2.below hV (Nat.le_refl _)) (by omega)
 have K2:Hid (∀ V,Below W0.heap.size W0 V→Calls Tryz.prog 41 #[.agg #[.slice o.tp o.ns.length o.tc],.int .i64 (lim:Int)] V fun e w'=>(∃ r:Nat,e=.returned (.int .i64 r)∧(r≤lim→r=T.cost o.ns)∧r≤1000000000000000)∧Below V.heap.size V w'):=Hj fun V hV =>
  (T.termOfL_any lim hlim V o.tp o.tc o.ns (hr.t.below hV (Nat.le_refl _)) hr.txt hr.len).mono fun e w' k=>by
    obtain ⟨r,h1,h2,h3,h4⟩:=k
    exact ⟨⟨r,h1,h2,h3⟩,h4⟩
 have HB:=Hj (Aj hb0 hlim)
 have HW:=hW
 rw [← hov]
 clear hL hr h hov hb0 hlim hW
 go_enter Tryz.func45,Tryz.ntmps45
 go_upto_region 1 with fail
 clear HW
 obtain ⟨g,hg⟩:∃ g,g=w.heap.size:=⟨_,rfl⟩
 rw [← hg] at HS ⊢
 clear hg
 refine wp_region_held (S:=Below W0.heap.size W0) (by kernel_rfl) ?_
 change wpAnyH _ _ _ _ _ 10 _ _ (World.drew W0)
 have hcur:Below W0.heap.size W0 W0.drew:=(Below.refl _ _).drew
 refine tk 0 (.pointer (some ⟨g,33,none⟩)) 5 rfl rfl hcur ?_
 refine tk 1 (.agg #[.int .i64 o.v.coin,.slice o.v.pa o.v.l.length o.v.c]) 6 rfl rfl hcur ?_ (by intro w' hS';obtain ⟨x0,x1,-⟩:=HS.out w' hS';unfold execOp;simp [go_sem,x0,x1])
 refine tk 2 (.int .i64 (lim:Int)) 7 rfl rfl hcur ?_
 refine tk 4 (.pointer (some ⟨g,68,none⟩)) 9 rfl rfl hcur ?_
 refine tk 5 (.agg #[.slice o.tp o.ns.length o.tc]) 10 rfl rfl hcur ?_ (by intro w' hS';have x0:=(HS.out w' hS').2.2;unfold execOp;simp [go_sem,x0])
 refine tk 6 (.int .i64 (lim:Int)) 11 rfl rfl hcur ?_
 generalize W0.drew=V0 at hcur ⊢
 refine held_one (i:=3) (by kernel_rfl) _ rfl (wpOp_callG rfl (by rfl) 8 rfl 43 #[.agg #[.int .i64 o.v.coin,.slice o.v.pa o.v.l.length o.v.c],.int .i64 (lim:Int)] (by unfold execOp;simp [go_sem]) (fun v w'=>∃ n:Nat,v=.int .i64 (n:Int)∧(n:Int)≤600000000000000001∧((n:Int)≤(lim:Int)→n=cntV o.v)∧Below V0.heap.size V0 w') ((K1.out V0 hcur).mono fun e w' k=>by obtain ⟨⟨n,h1,h2,h3⟩,h4⟩:=k;exact ⟨_,h1,n,rfl,h2,h3,h4⟩) ?_)
 rintro _ U1 ⟨n,rfl,hn1,hn2,hn⟩
 have hcur:=hcur.trans (hn.mono hcur.size)
 clear hn
 refine ⟨hcur,?_⟩
 simp only [Sj]
 refine held_one (i:=7) (by kernel_rfl) _ rfl (wpOp_callG rfl (by rfl) 12 rfl 41 #[.agg #[.slice o.tp o.ns.length o.tc],.int .i64 (lim:Int)] (by unfold execOp;simp [go_sem]) (fun v w'=>∃ r:Nat,v=.int .i64 (r:Int)∧(r≤lim→r=T.cost o.ns)∧r≤1000000000000000∧Below U1.heap.size U1 w') ((K2.out U1 hcur).mono fun e w' k=>by obtain ⟨⟨r,h1,h2,h3⟩,h4⟩:=k;exact ⟨_,h1,r,rfl,h2,h3,h4⟩) ?_)
 rintro _ U2 ⟨r,rfl,hr1,hr2,hn⟩
 have hcur:=hcur.trans (hn.mono hcur.size)
 clear hn
 refine ⟨hcur,?_⟩
 simp only [Sj]
 have hwr:IntKind.i64.wrap ((n:Int)+(r:Int))=(n:Int)+(r:Int):=by rw [IntKind.wrap_i64];omega
 refine tk 8 (.int .i64 ((n:Int)+(r:Int))) 13 rfl rfl hcur ?_ (by intro w' hS';unfold execOp;simp [go_sem,hwr])
 refine tk 9 (.int .i64 ((n:Int)+(r:Int))) 4 rfl rfl hcur ?_
 refine held_done (by kernel_rfl) ?_
 have HN:=Hj (Aj hn1 (Aj hn2 (Aj hr1 (Aj hr2 (HB.out.1.trans (hcur.mono HB.out.1.size))))))
 clear hwr hn1 hn2 hr1 hr2 hcur
 go_wp2_with fail
 go_ret
 refine ⟨⟨n+r,ret_i (by simp),?_,?_⟩,HN.out.2.2.2.2⟩
 · have h1:=HN.out.1;have h2:=HN.out.2.2.2.1;omega
 · intro hh
   have h1:=HN.out.2.1 (by omega)
   have h2:=HN.out.2.2.1 (by omega)
   unfold cntO
   rw [← h1,← h2]
end Go.Proofs.YtilbbemdinpjcaaGreat.P
