/-
  pack: PutDiff (written by tools/gen_put.py).
-/
import Derived.Test.YtilbbemdinpjcaaGreatJQo
import Derived.Test.YtilbbemdinpjcaaGreatJQn
set_option maxHeartbeats 16000000
namespace Go.Proofs.YtilbbemdinpjcaaGreat.P
set_option maxRecDepth 100000
open Go.RowKit Go.Sort
theorem must5 (U:World) (a b c d f:Bool):Calls Tryz.prog 62 #[.slice (some ⟨U.heap.size,0,none⟩) 5 5] (U.alloc (.cells #[.bool a,.bool b,.bool c,.bool d,.bool f] 4)) fun e w'=>Must (a && b && c && d && f) e∧Below U.heap.size U w':=by
 have h:=must_any (U.alloc (.cells #[.bool a,.bool b,.bool c,.bool d,.bool f] 4)) U.heap.size 5 4 [a,b,c,d,f] (Lies.new _ _ _) (by simp)
 have hb:Below U.heap.size U (U.alloc (.cells #[.bool a,.bool b,.bool c,.bool d,.bool f] 4)):=(Below.refl _ _).alloc (Nat.le_refl _) _
 rw [show [a,b,c,d,f].all id=(a && b && c && d && f) by simp [Bool.and_assoc]] at h
 exact h.mono fun e w' k=>⟨k.1,hb.trans (k.2.mono hb.size)⟩
def rightDB (d:Df):Bool:=(rightEB d.s && rightEB d.m && decide (0≤d.fe) && decide (0≤d.fo) && wellT nzT d.l) && apartR d.s d.m
structure DfRoom (d:Df):Prop where
 s:d.s.length≤d.cs
 m:d.m.length≤d.cm
theorem DfOk.below {w w':World} {d:Df} {B:Nat} (h:DfOk w d) (hb:Below B w w') (hB:w.heap.size≤B):DfOk w' d:=⟨h.s.below hb hB,h.m.below hb hB,h.fe,h.fo,h.l.below hb hB⟩
theorem rightD1_any (w:World) (p:Nat) (d:Df) (hL:Lies w p (dfC d) 40) (h:DfOk w d) (hr:DfRoom d) :
  Calls Tryz.prog 70 #[.pointer (some ⟨p,0,none⟩)] w fun e w'=>Must (rightDB d) e∧Below w.heap.size w w':=by
 obtain ⟨ps,s,cs,pm,m,cm,fe,fo,pt,l,ct⟩:=d
 obtain ⟨y1,hy1⟩:∃ b,b=rightEB s:=⟨_,rfl⟩
 obtain ⟨y2,hy2⟩:∃ b,b=rightEB m:=⟨_,rfl⟩
 obtain ⟨y3,hy3⟩:∃ b,b=decide (0≤fe):=⟨_,rfl⟩
 obtain ⟨y4,hy4⟩:∃ b,b=decide (0≤fo):=⟨_,rfl⟩
 obtain ⟨y5,hy5⟩:∃ b,b=wellT nzT l:=⟨_,rfl⟩
 obtain ⟨y6,hy6⟩:∃ b,b=apartR s m:=⟨_,rfl⟩
 obtain ⟨ns,hns⟩:∃ n,n=s.length:=⟨_,rfl⟩
 obtain ⟨nm,hnm⟩:∃ n,n=m.length:=⟨_,rfl⟩
 obtain ⟨nl,hnl⟩:∃ n,n=l.length:=⟨_,rfl⟩
 have HS:Hid (∀ V,Below w.heap.size w V→V.cell? ⟨p,0,none⟩=some (.slice ps ns cs)∧V.cell? ⟨p,1,none⟩=some (.slice pm nm cm)∧V.cell? ⟨p,2,none⟩=some (.int .i64 fe)∧V.cell? ⟨p,3,none⟩=some (.int .i64 fo)∧V.cell? ⟨p,4,none⟩=some (.slice pt nl ct)):=Hj fun V hV=>by
  have hl:=hL.below hV hL.lt
  rw [hns,hnm,hnl]
  exact ⟨hl.cell 0 rfl,hl.cell 1 rfl,hl.cell 2 rfl,hl.cell 3 rfl,hl.cell 4 rfl⟩
 have K1:Hid (∀ V,Below w.heap.size w V→Calls Tryz.prog 15 #[.slice ps ns cs] V fun e w'=>e=.returned (.bool y1)∧Below V.heap.size V w'):=Hj fun V hV=>by rw [hy1,hns];exact rightEntries_any V ps s cs (h.s.below hV (Nat.le_refl _))
 have K2:Hid (∀ V,Below w.heap.size w V→Calls Tryz.prog 15 #[.slice pm nm cm] V fun e w'=>e=.returned (.bool y2)∧Below V.heap.size V w'):=Hj fun V hV=>by rw [hy2,hnm];exact rightEntries_any V pm m cm (h.m.below hV (Nat.le_refl _))
 have K3:Hid (∀ V,Below w.heap.size w V→Calls Tryz.prog 71 #[.slice pt nl ct] V fun e w'=>e=.returned (.bool y5)∧Below V.heap.size V w'):=Hj fun V hV=>by rw [hy5,hnl];exact totalsW_any V pt l ct (h.l.below hV (Nat.le_refl _))
 have K4:Hid (∀ V,Below w.heap.size w V→Calls Tryz.prog 72 #[.slice ps ns cs,.slice pm nm cm] V fun e w'=>e=.returned (.bool y6)∧Below V.heap.size V w'):=Hj fun V hV=>by rw [hy6,hns,hnm];exact apart_any V ps pm s m cs cm (h.s.below hV (Nat.le_refl _)) (h.m.below hV (Nat.le_refl _)) hr.s hr.m
 have HB:=Hj (show rightDB ⟨ps,s,cs,pm,m,cm,fe,fo,pt,l,ct⟩=((y1 && y2 && y3 && y4 && y5) && y6) by unfold rightDB;rw [hy1,hy2,hy3,hy4,hy5,hy6])
 have HY:=Hj (Aj hy3 hy4)
 clear hL h hr hy1 hy2 hy3 hy4 hy5 hy6 hns hnm hnl
 go_enter Tryz.func70,Tryz.ntmps70
 go_upto_region 0 with fail
 refine wp_region_held (S:=Below w.heap.size w) (by kernel_rfl) ?_
 change wpAnyH _ _ _ _ _ 17 _ _ (World.drew w)
 have hcur:Below w.heap.size w w.drew:=(Below.refl _ _).drew
 refine tk 0 (.pointer (some ⟨p,0,none⟩)) 1 rfl rfl hcur ?_
 refine tk 1 (.slice ps ns cs) 2 rfl rfl hcur ?_ (by intro w' hS';have x0:=(HS.out w' hS').1;unfold execOp;simp [go_sem,x0])
 refine tk 3 (.pointer (some ⟨p,1,none⟩)) 4 rfl rfl hcur ?_
 refine tk 4 (.slice pm nm cm) 5 rfl rfl hcur ?_ (by intro w' hS';have x0:=(HS.out w' hS').2.1;unfold execOp;simp [go_sem,x0])
 refine tk 6 (.pointer (some ⟨p,2,none⟩)) 7 rfl rfl hcur ?_
 refine tk 7 (.int .i64 fe) 8 rfl rfl hcur ?_ (by intro w' hS';have x0:=(HS.out w' hS').2.2.1;unfold execOp;simp [go_sem,x0])
 refine tk 8 (.bool y3) 9 rfl rfl hcur ?_ (by intro w' hS';have e3:=HY.out.1;unfold execOp;simp [go_sem,e3])
 refine tk 9 (.pointer (some ⟨p,3,none⟩)) 10 rfl rfl hcur ?_
 refine tk 10 (.int .i64 fo) 11 rfl rfl hcur ?_ (by intro w' hS';have x0:=(HS.out w' hS').2.2.2.1;unfold execOp;simp [go_sem,x0])
 refine tk 11 (.bool y4) 12 rfl rfl hcur ?_ (by intro w' hS';have e3:=HY.out.2;unfold execOp;simp [go_sem,e3])
 refine tk 12 (.pointer (some ⟨p,4,none⟩)) 13 rfl rfl hcur ?_
 refine tk 13 (.slice pt nl ct) 14 rfl rfl hcur ?_ (by intro w' hS';have x0:=(HS.out w' hS').2.2.2.2;unfold execOp;simp [go_sem,x0])
 generalize w.drew=V0 at hcur ⊢
 refine held_one (i:=2) (by kernel_rfl) _ rfl (wpOp_callG rfl (by rfl) 3 rfl 15 #[.slice ps ns cs] (by unfold execOp;simp [go_sem]) _ (ret_gro (K1.out _ hcur)) ?_)
 rintro _ U1 ⟨rfl,hn⟩
 have hcur:=hcur.trans (hn.mono hcur.size)
 clear hn
 refine ⟨hcur,?_⟩
 simp only [Sj]
 refine held_one (i:=5) (by kernel_rfl) _ rfl (wpOp_callG rfl (by rfl) 6 rfl 15 #[.slice pm nm cm] (by unfold execOp;simp [go_sem]) _ (ret_gro (K2.out _ hcur)) ?_)
 rintro _ U2 ⟨rfl,hn⟩
 have hcur:=hcur.trans (hn.mono hcur.size)
 clear hn
 refine ⟨hcur,?_⟩
 simp only [Sj]
 refine held_one (i:=14) (by kernel_rfl) _ rfl (wpOp_callG rfl (by rfl) 15 rfl 71 #[.slice pt nl ct] (by unfold execOp;simp [go_sem]) _ (ret_gro (K3.out _ hcur)) ?_)
 rintro _ U3 ⟨rfl,hn⟩
 have hcur:=hcur.trans (hn.mono hcur.size)
 clear hn
 refine ⟨hcur,?_⟩
 simp only [Sj]
 refine held_one (i:=15) (by kernel_rfl) _ rfl (wpOp_valG rfl (by rfl) 16 rfl (v:=.slice (some ⟨U3.heap.size,0,none⟩) 5 5) (w':=U3.alloc (.cells #[.bool y1,.bool y2,.bool y3,.bool y4,.bool y5] 4)) (by unfold execOp;simp [go_sem]) ⟨hcur.alloc hcur.size _,?_⟩)
 simp only [Sj]
 refine held_one (i:=16) (by kernel_rfl) _ rfl (wpOp_callP rfl (by rfl) 17 rfl 62 #[.slice (some ⟨U3.heap.size,0,none⟩) 5 5] (by unfold execOp;simp [go_sem]) _ _ (must_forms (must5 U3 y1 y2 y3 y4 y5)) ?_ ?_)
 ·
  rintro _ U9 ⟨rfl,hy,hn⟩
  have hb9:Below w.heap.size w U9:=hcur.trans (hn.mono hcur.size)
  refine ⟨hb9,?_⟩
  simp only [Sj]
  refine held_done (by kernel_rfl) ?_
  obtain ⟨c0,c1,-⟩:=HS.out U9 hb9
  have K5:=Hj (K4.out U9 hb9)
  have H9:=Hj (Aj hb9 hy)
  clear hcur hn hb9 hy
  go_wp2_with fail
  refine K5.out.mono ?_
  rintro e U10 ⟨rfl,hb10⟩
  have H10:=Hj (H9.out.1.trans (hb10.mono H9.out.1.size))
  clear hb10 c0 c1
  go_wp2_with fail
  refine (must1 _ _).mono ?_
  rintro e U11 ⟨hm,hb11⟩
  have H11:=Hj (H10.out.trans (hb11.mono H10.out.size))
  clear hb11
  rcases hm with ⟨hx,rfl⟩ | ⟨hx,z,rfl⟩
  ·
   have HX:=Hj hx
   clear hx
   go_wp2_with fail
   go_end0
   exact ⟨.inl ⟨by rw [HB.out,H9.out.2,HX.out];rfl,rfl⟩,H11.out⟩
  ·
   have HX:=Hj hx
   clear hx
   go_wp2_with fail
   exact ⟨rfl,.inr ⟨by rw [HB.out,HX.out,Bool.and_false],z,rfl⟩,H11.out⟩
 ·
  rintro ch U9 ⟨hy,hf,hn⟩
  have hb9:Below w.heap.size w U9:=hcur.trans (hn.mono hcur.size)
  exact ⟨rfl,.inr ⟨by rw [HB.out,hy,Bool.false_and],hf⟩,hb9⟩
theorem rightDiff_any (w:World) (d:Df) (h:DfOk w d) (hr:DfRoom d) :
  Calls Tryz.prog 17 #[.agg (dfC d)] w fun e w'=>e=.returned (.bool (rightDB d))∧Below w.heap.size w w':=by
 have hmf:∀ (fn:Fn) (first cap:Array Value) (w:World),(Instr.makeFunc fn first cap).run Tryz.prog w=.ok (.func fn first cap) w:=fun _ _ _ _=>rfl
 obtain ⟨ov,hov⟩:∃ v,v=dfC d:=⟨_,rfl⟩
 have hL:Lies (w.alloc (.cells ov 40)) w.heap.size ov 40:=Lies.new _ _ _
 have hb0:Below w.heap.size w (w.alloc (.cells ov 40)):=(Below.refl _ _).alloc (Nat.le_refl _) _
 have hL2:Lies (w.alloc (.cells ov 40)) w.heap.size (dfC d) 40:=by rw [← hov];exact hL
 have hm:=met_any (w.alloc (.cells ov 40)) 70 #[.pointer (some ⟨w.heap.size,0,none⟩)] (rightDB d) (callFn _ Tryz.func70 (by kernel_rfl) rfl _) (fun w1 hb=>rightD1_any w1 w.heap.size d (hL2.below hb hL2.lt) ((h.below hb0 (Nat.le_refl _)).below hb (Nat.le_refl _)) hr)
 rw [← hov]
 have HM:=Hj (Aj hm hb0)
 obtain ⟨b,hb⟩:∃ b,b=rightDB d:=⟨_,rfl⟩
 rw [← hb] at HM ⊢
 clear hm hb0 hL hL2 hov h hb
 go_enter Tryz.func17,Tryz.ntmps17
 go_wp2_with fail
 refine HM.out.1.mono ?_
 rintro e U ⟨rfl,hb⟩
 have HU:=Hj (HM.out.2.trans (hb.mono HM.out.2.size))
 clear hb
 go_wp2_with fail
 go_ret
 exact ⟨rfl,HU.out⟩
end Go.Proofs.YtilbbemdinpjcaaGreat.P
namespace Go.Proofs.YtilbbemdinpjcaaGreat.P
set_option maxRecDepth 100000
open Go.RowKit
theorem info_diff:(Tryz.prog.info? 40).map (·.size)=some 5:=by kernel_rfl
theorem rightD_s {d:Df} (h:rightDB d=true):rightEB d.s=true:=by
 unfold rightDB at h
 simp only [Bool.and_eq_true] at h
 exact h.1.1.1.1.1
theorem rightD_m {d:Df} (h:rightDB d=true):rightEB d.m=true:=by
 unfold rightDB at h
 simp only [Bool.and_eq_true] at h
 exact h.1.1.1.1.2
theorem well_names {p:To→Bool} {l:List To} (h:wellT p l=true):∀ a ∈ l,a.nm.2.length≤32:=by
 intro a ha
 obtain ⟨i,hi⟩:=List.getElem?_of_mem ha
 unfold wellT at h
 rw [List.all_eq_true] at h
 have:=h i (List.mem_range.2 (List.getElem?_eq_some_iff.1 hi).1)
 unfold okT at this
 rw [show l.getD i default=a by rw [List.getD_eq_getElem?_getD,hi];rfl] at this
 simp only [Bool.and_eq_true,decide_eq_true_eq] at this
 exact this.1.1
theorem cntT_small:∀ {l:List To},(∀ a ∈ l,a.nm.2.length≤32)→cntT l≤3 * l.length
 | [],_=>by simp [cntT]
 | x :: xs,h=>by
   have h1:=cntT_small (l:=xs) fun a ha=>h a (List.mem_cons_of_mem _ ha)
   have h2:=h x List.mem_cons_self
   have e:cntT (x :: xs)=(1+x.nm.2.length / 16)+cntT xs:=by simp [cntT]
   rw [e,List.length_cons]
   omega
theorem rightD_cnt {d:Df} (h:rightDB d=true):cntT d.l≤3 * d.l.length:=by
 unfold rightDB at h
 simp only [Bool.and_eq_true] at h
 exact cntT_small (well_names h.1.2)
theorem putDiffG_any (w:World) {B g:Nat} {v:Value} {st:Option (List UInt8)} (d:Df) (hroom:DfRoom d) (hT:Stays g w v fun W=>DfOk W d) (hns:∀ e ∈ d.s,∀ x ∈ e.o.ns,NdIn x) (hnm:∀ e ∈ d.m,∀ x ∈ e.o.ns,NdIn x) (h:WrO W.WSt w B g v st) (hx:sz st+123 * (cntE d.s+cntE d.m)+195 * d.l.length≤680000) :
 Calls Tryz.prog 191 #[.pointer (some ⟨g,0,none⟩),.agg (dfC d),.func (Fn.func 17) #[] #[],.func (Fn.func 192) #[] #[]] w (PutR W.WSt w B g v (if rightDB d then diffS st d else none)):=by
 have hf:=hT.now
 obtain ⟨r,hrb⟩:∃ r,r=rightDB d:=⟨_,rfl⟩
 obtain ⟨s2,hs2⟩:∃ s,s=diffS st d:=⟨_,rfl⟩
 obtain ⟨s3,hs3⟩:∃ s,s=(if r then s2 else none):=⟨_,rfl⟩
 obtain ⟨ov,hov⟩:∃ y,y=dfC d:=⟨_,rfl⟩
 have hf1:=T.callK 17 Tryz.f17 Tryz.func17 (by kernel_rfl) (by kernel_rfl)
 have hf2:=T.callK 192 Tryz.f192 Tryz.func192 (by kernel_rfl) (by kernel_rfl)
 have HR:Hid (∀ V,Below w.heap.size w V→Calls Tryz.prog 17 #[.agg ov] V fun e w'=>e=.returned (.bool r)∧Below V.heap.size V w'):=Hj fun V hb=>by
  have hf:=(hT.on (Lk.of_below hb)).now
  rw [hrb,hov];exact rightDiff_any V d hf hroom
 have HC:Hid (r=true→∀ V,Below w.heap.size w V→Calls Tryz.prog 192 #[.agg #[.pointer (some ⟨g,0,none⟩)],.agg ov] V (PutR W.WSt V B g v s2)):=Hj fun hr V hb=>by
  have hS:=hT.on (Lk.of_below hb)
  have hw:=h.belowW hb
  rw [hrb] at hr
  rw [hs2,hov];exact putterDiff_any V d hS ⟨ens_kinds (rightD_s hr),hns⟩ ⟨ens_kinds (rightD_m hr),hnm⟩ hw (by have:=rightD_cnt hr;omega)
 have hi1:(Tryz.prog.info? 40).map (·.size)=some ov.size:=by rw [hov,show (dfC d).size=5 from rfl];exact info_diff
 have hL:=Lies.new w ov 40
 have hb:Below w.heap.size w (w.alloc (.cells ov 40)):=(Below.refl _ _).alloc (Nat.le_refl _) _
 have HI:=Hj hi1
 rw [← hrb,← hs2,← hs3,← hov]
 have H:=Hj (Aj h hs3)
 clear hT h hx hf hrb hs2 hs3 hov hi1 hns hnm
 obtain ⟨W0,HW⟩:∃ W0,w.alloc (.cells ov 40)=W0:=⟨_,rfl⟩
 go_enter Tryz.func191,Tryz.ntmps191
 go_upto_region 1 with fail
 rw [HW] at hL hb
 clear HW
 obtain ⟨q,hq⟩:∃ q,q=w.heap.size:=⟨_,rfl⟩
 rw [← hq] at hL ⊢
 clear hq
 have HB:=Hj (Aj hb hL)
 clear hb hL
 go_wp2_with (first
  | (at_builtin;fail)
  | (refine wpList_load_row rfl 40 _ rfl q rfl 40 ov (0,0) _ (HB.out.2) Tryz.underlying40 rfl HI.out ?_))
 refine (HR.out _ HB.out.1).mono ?_
 rintro e W1 ⟨rfl,hb1⟩
 have hbw:=HB.out.1.trans (hb1.mono HB.out.1.size)
 have HL1:=Hj (HB.out.2.below hb1 HB.out.2.lt)
 have HW1:=Hj hbw
 clear hb1 hbw HR
 cases r with
 | true =>
   have HCC:=Hj (HC.out rfl W1 HW1.out)
   clear HC
   go_wp2_with (first
    | (at_builtin;fail)
    | (refine wpList_load_row rfl 40 _ rfl q rfl 40 ov (0,0) _ (HL1.out) Tryz.underlying40 rfl HI.out ?_))
   refine HCC.out.mono ?_
   rintro e W2 hr2
   obtain ⟨rfl,hr2⟩:=hr2
   have HE:=Hj hr2
   clear hr2 HCC
   go_wp2_with fail
   first
    | go_end0
    | refine bodyPost_ret (results_none rfl _ _ _) rfl ?_
   rw [H.out.2]
   exact PutR.after HW1.out ⟨rfl,HE.out⟩
 | false =>
   have HCC:=Hj (wSpoil W1 (H.out.1.belowW HW1.out))
   clear HC
   go_wp2_with fail
   refine HCC.out.mono ?_
   rintro e W2 hr2
   obtain ⟨rfl,hr2⟩:=hr2
   have HE:=Hj hr2
   clear hr2 HCC
   go_wp2_with fail
   first
    | go_end0
    | refine bodyPost_ret (results_none rfl _ _ _) rfl ?_
   rw [H.out.2]
   exact PutR.after HW1.out ⟨rfl,HE.out⟩
theorem putDiff_any (w:World) {B g:Nat} {v:Value} {st:Option (List UInt8)} (d:Df) (hroom:DfRoom d) (hT:Stays g w v fun W=>DfOk W d) (hns:∀ e ∈ d.s,∀ x ∈ e.o.ns,NdIn x) (hnm:∀ e ∈ d.m,∀ x ∈ e.o.ns,NdIn x) (h:WrO W.WSt w B g v st) (hx:sz st+123 * (cntE d.s+cntE d.m)+195 * d.l.length≤680000) :
  Calls Tryz.prog 116 #[.pointer (some ⟨g,0,none⟩),.agg (dfC d)] w (PutR W.WSt w B g v (if rightDB d then diffS st d else none)):=by
 have hf:=hT.now
 obtain ⟨s3,hs3⟩:∃ s,s=(if rightDB d then diffS st d else none):=⟨_,rfl⟩
 obtain ⟨ov,hov⟩:∃ y,y=dfC d:=⟨_,rfl⟩
 have HC:Hid (∀ V,Below w.heap.size w V→Calls Tryz.prog 191 #[.pointer (some ⟨g,0,none⟩),.agg ov,.func (Fn.func 17) #[] #[],.func (Fn.func 192) #[] #[]] V (PutR W.WSt V B g v s3)):=Hj fun V hb=>by
  rw [hs3,hov];exact putDiffG_any V d hroom (hT.on (Lk.of_below hb)) hns hnm (h.belowW hb) hx
 have hi1:(Tryz.prog.info? 40).map (·.size)=some ov.size:=by rw [hov,show (dfC d).size=5 from rfl];exact info_diff
 have hL:=Lies.new w ov 40
 have hb:Below w.heap.size w (w.alloc (.cells ov 40)):=(Below.refl _ _).alloc (Nat.le_refl _) _
 have HI:=Hj hi1
 rw [← hs3,← hov]
 clear hT h hx hf hs3 hov hi1 hns hnm
 obtain ⟨W0,HW⟩:∃ W0,w.alloc (.cells ov 40)=W0:=⟨_,rfl⟩
 go_enter Tryz.func116,Tryz.ntmps116
 go_upto_region 1 with fail
 rw [HW] at hL hb
 clear HW
 obtain ⟨q,hq⟩:∃ q,q=w.heap.size:=⟨_,rfl⟩
 rw [← hq] at hL ⊢
 clear hq
 have HB:=Hj (Aj hb hL)
 clear hb hL
 go_wp2_with (first
  | (at_builtin;fail)
  | (refine wpList_load_row rfl 40 _ rfl q rfl 40 ov (0,0) _ (HB.out.2) Tryz.underlying40 rfl HI.out ?_))
 refine (HC.out _ HB.out.1).mono ?_
 rintro e W2 hr2
 obtain ⟨rfl,hr2⟩:=hr2
 have HE:=Hj hr2
 clear hr2 HC
 go_wp2_with fail
 go_end0
 exact PutR.after HB.out.1 ⟨rfl,HE.out⟩
end Go.Proofs.YtilbbemdinpjcaaGreat.P
