/-
  pack: PutAssets, PutTotals, PutEntries (written by tools/gen_put.py).
-/
import Derived.Test.YtilbbemdinpjcaaGreatJVq
import Derived.Test.YtilbbemdinpjcaaGreatJPw
import Derived.Test.YtilbbemdinpjcaaGreatJPmn
import Derived.Test.YtilbbemdinpjcaaGreatJPi
set_option maxHeartbeats 16000000
namespace Go.Proofs.YtilbbemdinpjcaaGreat.P
set_option maxRecDepth 100000
open Go.RowKit Go.Sort
instance:Inhabited To:=⟨⟨([],[]),0⟩⟩
def z35:Array Value:=(Array.replicate 32 (.int .u8 0)) ++ #[.string ⟨#[]⟩,.int .i64 0,.int .u64 0]
def okT (p:To→Bool) (l:List To) (i:Nat):Bool :=
 decide ((l.getD i default).nm.2.length≤32) && p (l.getD i default) && (i == 0 || decide (cN (l.getD (i - 1) default).nm (l.getD i default).nm < 0))
def wellT (p:To→Bool) (l:List To):Bool:=(List.range l.length).all (okT p l)
theorem wellT_no {p:To→Bool} {l:List To} {i:Nat} (hi:i < l.length) (h:okT p l i=false):wellT p l=false:=by
 unfold wellT
 rw [List.all_eq_false]
 exact ⟨i,List.mem_range.2 hi,by rw [h];simp⟩
theorem wellT_yes {p:To→Bool} {l:List To} (h:∀ i,i < l.length→okT p l i=true):wellT p l=true:=by
 unfold wellT
 rw [List.all_eq_true]
 exact fun i hi=>h i (List.mem_range.1 hi)
attribute [-go_sem] Instr.build
theorem wellT_any (K:Nat) (p:To→Bool) (hK:∀ args w,(callFunc K args).run Tryz.prog w=.ok (.enter K args) w)
 (hp:∀ (w:World) (a:To),a.nm.1.length=32→Calls Tryz.prog K #[.agg (toC a)] w fun e w'=>e=.returned (.bool (p a))∧Below w.heap.size w w')
 (w:World) (pa:Option Addr) (l:List To) (c:Nat) (hl:l.length≤maxLen) (hok:∀ a,a ∈ l→a.nm.1.length=32∧a.nm.2.length≤maxLen)
 (hsrc:0 < l.length→∃ g off,pa=some ⟨g,off,none⟩∧g < w.heap.size∧HasT w g off l) :
 Calls Tryz.prog 135 #[.slice pa l.length c,.func (.func 136) #[] #[],.func (.func K) #[] #[]] w fun e w'=>e=.returned (.bool (wellT p l))∧Below w.heap.size w w':=by
 have hli:(l.length:Int)≤9223372036854775807:=by unfold maxLen at hl;omega
 have HS:=Hj (Aj hsrc hok)
 have HP:=Hj hp
 clear hsrc hok hp hl
 go_enter Tryz.func135,Tryz.ntmps135
 go_wp2_with fail
 go_loopw [12] (fun i W=>∃ k:Nat,k≤l.length∧i=.int .i64 k∧Below w.heap.size w W∧∀ i,i < k→okT p l i=true) (fun i _=>l.length - (intOf i).toNat)
 case atStart=>exact ⟨0,Nat.zero_le _,rfl,Below.refl _ _,fun i hi=>absurd hi (by omega)⟩
 case round =>
  obtain ⟨k,hk,rfl,hb,hall⟩:=hrel
  by_cases hlt:k < l.length
  · have m1:(k:Int) < (l.length:Int):=by omega
    have m0:(0:Int)≤(k:Int):=by omega
    obtain ⟨g,off,rfl,hg,hhas⟩:=HS.out.1 (by omega)
    obtain ⟨a,ha⟩:∃ a,a=l[k]:=⟨_,rfl⟩
    have hka:l[k]? = some a:=by rw [ha,List.getElem?_eq_getElem hlt]
    have hkd:l.getD k default=a:=by rw [List.getD_eq_getElem?_getD,hka];rfl
    have hao:=HS.out.2 a (List.mem_of_getElem? hka)
    have hrg:=(hhas.below hb hg) k a hka
    obtain ⟨va,hva⟩:∃ v,v=toC a:=⟨_,rfl⟩
    have hvs:va.size=35:=by rw [hva];exact toC_size a hao.1
    rw [← hva] at hrg
    have HR:=Hj (Aj hb (Aj hall (Aj hlt (Aj hka (Aj hkd (Aj hao (Aj hva (Aj hvs (Aj hg hhas)))))))))
    have HRG:=Hj hrg
    clear hb hall hlt hk ha hka hkd hao hrg hva hvs hg hhas
    have eA:∀ W,Calls Tryz.prog 136 #[.agg va] W fun e w'=>e=.returned (.agg (nmC a.nm))∧Below W.heap.size W w':=fun W=>by
     rw [HR.out.2.2.2.2.2.2.1];exact callTotal_any W a HR.out.2.2.2.2.2.1.1
    have HEA:=Hj eA
    clear eA
    go_upto_region 4 with (first
     | (refine wpList_load_mid rfl 150 _ rfl g (off+k * 35) rfl va.toList _ HRG.out Tryz.underlying150 rfl (by rw [Array.length_toList,HR.out.2.2.2.2.2.2.2.1];exact info_total) ?_)
     | (refine wpList_store_row rfl 150 _ _ rfl wr.heap.size va rfl rfl 150 z35 (Lies.new wr z35 150) (by rw [HR.out.2.2.2.2.2.2.2.1];exact info_total) (by rw [HR.out.2.2.2.2.2.2.2.1];kernel_rfl) (by rw [HR.out.2.2.2.2.2.2.1];exact toC_one a) ?_))
    rw [World.setRow_alloc_new]
    have hL1:Lies (wr.alloc (.cells va 150)) wr.heap.size va 150:=Lies.new _ _ _
    have hb1:Below wr.heap.size wr (wr.alloc (.cells va 150)):=(Below.refl _ _).alloc (Nat.le_refl _) _
    have hs1:(wr.alloc (.cells va 150)).heap.size=wr.heap.size+1:=by simp
    generalize wr.alloc (.cells va 150)=W1 at hL1 hb1 hs1 ⊢
    obtain ⟨nv,hnv⟩:∃ v,v=nmC a.nm:=⟨_,rfl⟩
    have hns:nv.size=33:=by rw [hnv];exact nmC_size a.nm HR.out.2.2.2.2.2.1.1
    have HEA':Hid (∀ W,Calls Tryz.prog 136 #[.agg va] W fun e w'=>e=.returned (.agg nv)∧Below W.heap.size W w'):=by rw [hnv];exact HEA
    have H1:=Hj (Aj hL1 (Aj hb1 (Aj hs1 (Aj hnv hns))))
    clear HEA hL1 hb1 hs1 hnv hns
    go_upto_region 5 with (first
     | (refine wpList_load_row rfl 150 _ rfl wr.heap.size rfl 150 va (0,0) _ H1.out.1 Tryz.underlying150 rfl (by rw [HR.out.2.2.2.2.2.2.2.1];exact info_total) ?_)
     | (go_at_call 136;refine (HEA'.out _).mono ?_;rintro e W2 ⟨rfl,hb2⟩)
     | (refine wpList_store_row rfl 255 _ _ rfl _ nv rfl rfl 255 z33 (Lies.new _ z33 255) (by rw [H1.out.2.2.2.2];exact info_called) (by rw [H1.out.2.2.2.2];kernel_rfl) (by rw [H1.out.2.2.2.1];exact nmC_one a.nm) ?_))
    rw [World.setRow_alloc_new]
    have hpr:=HP.out
    obtain ⟨B3,hB3⟩:∃ b,b=W2.heap.size:=⟨_,rfl⟩
    have hL3:Lies (W2.alloc (.cells nv 255)) B3 nv 255:=by rw [hB3];exact Lies.new _ _ _
    have hb3:Below wr.heap.size wr (W2.alloc (.cells nv 255)):=H1.out.2.1.trans ((hb2.alloc hb2.size _).mono (by rw [H1.out.2.2.1];omega))
    have hA3:Lies (W2.alloc (.cells nv 255)) wr.heap.size va 150:=(H1.out.1.below hb2 H1.out.1.lt).alloc _
    rw [← hB3]
    generalize W2.alloc (.cells nv 255)=W3 at hL3 hb3 hA3 ⊢
    have c32:=hL3.cell 32 (v:=.string (txt a.nm.2)) (by rw [H1.out.2.2.2.1];exact nmC_txt a.nm HR.out.2.2.2.2.2.1.1)
    have hts:=txt_size a.nm.2
    generalize txt a.nm.2=tv at c32 hts
    have htl:(tv.size:Int)≤9223372036854775807:=by have:=HR.out.2.2.2.2.2.1.2;unfold maxLen at this;omega
    have H3:=Hj (Aj hL3 (Aj hb3 (Aj hA3 hts)))
    clear hL3 hb3 hA3 hts hB3 hb2 hpr HEA'
    by_cases hlong:32 < a.nm.2.length
    · have m2:(32:Int) < (tv.size:Int):=by rw [H3.out.2.2.2];omega
      go_wp2_with fail
      go_ret
      refine ⟨?_,HR.out.1.trans (H3.out.2.1.mono HR.out.1.size)⟩
      rw [wellT_no HR.out.2.2.1 (by unfold okT;rw [HR.out.2.2.2.2.1];simp;omega)]
      rfl
    · have m2:(tv.size:Int)≤(32:Int):=by rw [H3.out.2.2.2];omega
      have hd:decide ((32:Int) < (tv.size:Int))=false:=by simp;omega
      have HK:=Hj (HP.out W3 a HR.out.2.2.2.2.2.1.1)
      rw [← HR.out.2.2.2.2.2.2.1] at HK
      cases hpa:p a with
      | false =>
        rw [hpa] at HK
        go_wp2_with (first
         | (refine wpList_row_want (by first | kernel_rfl | (rw [hd];kernel_rfl)) 150 _ rfl wr.heap.size rfl 150 va (0,0) _ H3.out.2.2.1 Tryz.underlying150 rfl (by rw [HR.out.2.2.2.2.2.2.2.1];exact info_total) ?_)
         | (refine HK.out.mono ?_;rintro e W4 ⟨rfl,hb4⟩))
        go_ret
        refine ⟨?_,HR.out.1.trans ((H3.out.2.1.trans (hb4.mono H3.out.2.1.size)).mono HR.out.1.size)⟩
        rw [wellT_no HR.out.2.2.1 (by unfold okT;rw [HR.out.2.2.2.2.1,hpa];simp)]
        rfl
      | true =>
        rw [hpa] at HK
        go_upto_region 7 with (first
         | (refine wpList_row_want (by first | kernel_rfl | (rw [hd];kernel_rfl)) 150 _ rfl wr.heap.size rfl 150 va (0,0) _ H3.out.2.2.1 Tryz.underlying150 rfl (by rw [HR.out.2.2.2.2.2.2.2.1];exact info_total) ?_)
         | (refine HK.out.mono ?_;rintro e W4 ⟨rfl,hb4⟩))
        have hb4w:Below w.heap.size w W4:=HR.out.1.trans ((H3.out.2.1.trans (hb4.mono H3.out.2.1.size)).mono HR.out.1.size)
        have hL4:Lies W4 B3 nv 255:=H3.out.1.below hb4 H3.out.1.lt
        have h32:a.nm.2.length≤32:=by omega
        have H4:=Hj (Aj hL4 (Aj hb4w (Aj h32 hpa)))
        clear hL4 hb4w h32 hpa hb4 HK hd hlong m2 c32 htl
        by_cases hk0:k=0
        · have kz:¬ (0:Int) < (k:Int):=by omega
          have HOK:=Hj (show okT p l k=true by unfold okT;rw [HR.out.2.2.2.2.1,H4.out.2.2.2];simpa [hk0] using H4.out.2.2.1)
          have HK0:=Hj hk0
          clear hk0
          refine wp_region_noPanic (wp_region_held (S:=fun V=>True) (by kernel_rfl) ?_)
          change wpAnyH _ _ _ _ _ 14 _ _ (World.drew W4)
          have hcur:True:=trivial
          refine tk 0 (.int .i64 k) 30 rfl rfl hcur ?_
          refine tk 1 (.bool false) 31 rfl rfl hcur ?_ (by intro w' hS';unfold execOp;simp [go_sem];exact HK0.out)
          refine tk 2 (.bool false) 32 rfl rfl hcur ?_
          refine held_skip (i:=3) rfl 33 rfl (by kernel_rfl) (by kernel_rfl) (by kernel_rfl) (fun _ _ _ h=>h) (by rfl) hcur _ rfl ?_
          simp only [Sj]
          refine held_skip (i:=4) rfl 34 rfl (by kernel_rfl) (by kernel_rfl) (by kernel_rfl) (fun _ _ _ h=>h) (by rfl) hcur _ rfl ?_
          simp only [Sj]
          refine held_skip (i:=5) rfl 35 rfl (by kernel_rfl) (by kernel_rfl) (by kernel_rfl) (fun _ _ _ h=>h) (by rfl) hcur _ rfl ?_
          simp only [Sj]
          refine held_skip (i:=6) rfl 36 rfl (by kernel_rfl) (by kernel_rfl) (by kernel_rfl) (fun _ _ _ h=>h) (by rfl) hcur _ rfl ?_
          simp only [Sj]
          refine held_skip (i:=7) rfl 37 rfl (by kernel_rfl) (by kernel_rfl) (by kernel_rfl) (fun _ _ _ h=>h) (by rfl) hcur _ rfl ?_
          simp only [Sj]
          refine held_skip (i:=8) rfl 38 rfl (by kernel_rfl) (by kernel_rfl) (by kernel_rfl) (fun _ _ _ h=>h) (by rfl) hcur _ rfl ?_
          simp only [Sj]
          refine held_skip (i:=9) rfl 39 rfl (by kernel_rfl) (by kernel_rfl) (by kernel_rfl) (fun _ _ _ h=>h) (by rfl) hcur _ rfl ?_
          simp only [Sj]
          refine held_skip (i:=10) rfl 40 rfl (by kernel_rfl) (by kernel_rfl) (by kernel_rfl) (fun _ _ _ h=>h) (by rfl) hcur _ rfl ?_
          simp only [Sj]
          refine held_skip (i:=11) rfl 41 rfl (by kernel_rfl) (by kernel_rfl) (by kernel_rfl) (fun _ _ _ h=>h) (by rfl) hcur _ rfl ?_
          simp only [Sj]
          refine held_skip (i:=12) rfl 42 rfl (by kernel_rfl) (by kernel_rfl) (by kernel_rfl) (fun _ _ _ h=>h) (by rfl) hcur _ rfl ?_
          simp only [Sj]
          refine tk 13 (.bool false) 43 rfl rfl hcur ?_
          refine wpAnyH_done (by kernel_rfl) ?_ _
          unfold NoPanic
          dsimp only
          clear hcur
          go_wp2_with fail
          have e1:(k:Int)+1=((k+1:Nat):Int):=by omega
          rw [e1]
          refine ⟨⟨k+1,HR.out.2.2.1,rfl,H4.out.2.1.trans ((Below.refl _ _).drew.mono H4.out.2.1.size),fun i hi => ?_⟩,?_⟩
          · by_cases e:i=k
            · rw [e];exact HOK.out
            · exact HR.out.2.1 i (by omega)
          · have h:=HR.out.2.2.1
            show l.length - (k+1) < l.length - k
            omega
        · obtain ⟨kp,hkp⟩:∃ i,i=k - 1:=⟨_,rfl⟩
          have kpos:(0:Int) < (k:Int):=by omega
          have ksub:wrap64 ((k:Int) - 1)=(kp:Int):=by unfold wrap64;omega
          have kp0:(0:Int)≤(kp:Int):=by omega
          have kpl:(kp:Int) < (l.length:Int):=by omega
          have hkpl:kp < l.length:=by omega
          obtain ⟨b,hb⟩:∃ b,b=l[kp]:=⟨_,rfl⟩
          have hkb:l[kp]? = some b:=by rw [hb,List.getElem?_eq_getElem hkpl]
          have hbd':l.getD (k - 1) default=b:=by rw [← hkp,List.getD_eq_getElem?_getD,hkb];rfl
          have hbo:=HS.out.2 b (List.mem_of_getElem? hkb)
          obtain ⟨vb,hvb⟩:∃ v,v=toC b:=⟨_,rfl⟩
          obtain ⟨nb,hnb⟩:∃ v,v=nmC b.nm:=⟨_,rfl⟩
          obtain ⟨x,hxe⟩:∃ x,x=cN b.nm a.nm:=⟨_,rfl⟩
          have hvs:vb.size=35:=by rw [hvb];exact toC_size b hbo.1
          have hcall:∀ W,Calls Tryz.prog 136 #[.agg vb] W fun e w'=>e=.returned (.agg nb)∧Below W.heap.size W w':=fun W=>by
           rw [hvb,hnb];exact callTotal_any W b hbo.1
          have hord:∀ W,Calls Tryz.prog 205 #[.agg nb,.agg nv] W fun e w'=>e=.returned (.int .i64 x)∧Below W.heap.size W w':=fun W=>by
           rw [hnb,H1.out.2.2.2.1,hxe];exact order_any W b.nm a.nm hbo.1 HR.out.2.2.2.2.2.1.1
          have HB:=Hj (Aj hvs (Aj (show (Tryz.prog.info? 150).map (·.size)=some vb.size by rw [hvs];exact info_total) (Aj (show (Tryz.prog.info? 255).map (·.size)=some nv.size by rw [H1.out.2.2.2.2];exact info_called) (Aj hcall hord))))
          have HS7:Hid (∀ V,Below W4.heap.size W4 V→V.rangeAt g (off+kp * 35) vb.toList∧Lies V B3 nv 255):=Hj fun V hV =>
           ⟨by rw [hvb];exact (HR.out.2.2.2.2.2.2.2.2.2.below (H4.out.2.1.trans (hV.mono H4.out.2.1.size)) HR.out.2.2.2.2.2.2.2.2.1) kp b hkb,H4.out.1.below hV H4.out.1.lt⟩
          have HX:=Hj (Aj hbd' (Aj hxe hk0))
          clear hb hkb hbo hvb hnb hxe hvs hcall hord hkpl hkp hbd' hk0
          have s0:=HS7.out _ (Below.refl _ _).drew
          refine wp_region_noPanic (wp_region_held (S:=fun V=>V.rangeAt g (off+kp * 35) vb.toList∧Lies V B3 nv 255) (by kernel_rfl) ?_)
          change wpAnyH _ _ _ _ _ 14 _ _ (World.drew W4)
          have hbd:Below W4.heap.size W4 W4.drew:=(Below.refl _ _).drew
          have hb4w:=H4.out.2.1
          generalize World.drew W4=wd at s0 hbd ⊢
          have hcur:=s0
          by_cases hx:(0:Int)≤x
          · skip
            refine tk 0 (.int .i64 k) 30 rfl rfl hcur ?_
            refine tk 1 (.bool true) 31 rfl rfl hcur ?_ (by intro w' hS';unfold execOp;simp [go_sem];omega)
            refine tk 2 (.bool true) 32 rfl rfl hcur ?_
            refine tk 3 (.func (.func 136) #[] #[]) 33 rfl rfl hcur ?_
            refine tk 4 (.slice (some ⟨g,off,none⟩) l.length c) 34 rfl rfl hcur ?_
            refine tk 5 (.int .i64 k) 35 rfl rfl hcur ?_
            refine tk 6 (.int .i64 kp) 36 rfl rfl hcur ?_ (by intro w' hS';unfold execOp;simp [go_sem];rw [IntKind.wrap_i64];unfold wrap64 at ksub;omega)
            refine tk 7 (.pointer (some ⟨g,off+kp * 35,none⟩)) 37 rfl rfl hcur ?_ (by intro w' hS';unfold execOp;simp [go_sem,kp0,kpl])
            refine tk 8 (.agg vb) 38 rfl rfl hcur ?_ (by intro w' hS';exact exec_loadM 150 _ rfl _ _ rfl vb hS'.1 Tryz.underlying150 rfl HB.out.2.1)
            refine tk 10 (.agg nv) 40 rfl rfl hcur ?_ (by intro w' hS';exact exec_loadM 255 _ rfl _ _ rfl nv (range_lies hS'.2) Tryz.underlying255 rfl HB.out.2.2.1)
            refine held_one (i:=9) (by kernel_rfl) _ rfl (wpOp_callG rfl (by rfl) 39 rfl 136 #[.agg vb] (by unfold execOp;simp [go_sem]) _ (ret_of (HB.out.2.2.2.1 wd)) ?_)
            rintro v9 w9 ⟨rfl,hb9⟩
            have hb9':=hbd.trans (hb9.mono hbd.size)
            have hcur:=HS7.out _ hb9'
            refine ⟨hcur,?_⟩
            simp only [Sj]
            refine held_one (i:=11) (by kernel_rfl) _ rfl (wpOp_callG rfl (by rfl) 41 rfl 205 #[.agg nb,.agg nv] (by unfold execOp;simp [go_sem]) _ (ret_of (HB.out.2.2.2.2 w9)) ?_)
            rintro v11 w11 ⟨rfl,hb11⟩
            have hb11':=hb9'.trans (hb11.mono hb9'.size)
            have hcur:=HS7.out _ hb11'
            refine ⟨hcur,?_⟩
            simp only [Sj]
            refine tk 12 (.bool true) 42 rfl rfl hcur ?_ (by intro w' hS';unfold execOp;simp [go_sem,hx])
            refine tk 13 (.bool true) 43 rfl rfl hcur ?_
            refine wpAnyH_done (by kernel_rfl) ?_ _
            unfold NoPanic
            dsimp only
            have HBW:=Hj (hb4w.trans (hb11'.mono hb4w.size))
            clear hbd hcur hb9 hb9' hb11 hb11' hb4w
            go_wp2_with fail
            go_ret
            refine ⟨?_,HBW.out⟩
            rw [wellT_no HR.out.2.2.1 (by unfold okT;rw [HR.out.2.2.2.2.1,HX.out.1,← HX.out.2.1];simp;omega)]
            rfl
          · skip
            refine tk 0 (.int .i64 k) 30 rfl rfl hcur ?_
            refine tk 1 (.bool true) 31 rfl rfl hcur ?_ (by intro w' hS';unfold execOp;simp [go_sem];omega)
            refine tk 2 (.bool true) 32 rfl rfl hcur ?_
            refine tk 3 (.func (.func 136) #[] #[]) 33 rfl rfl hcur ?_
            refine tk 4 (.slice (some ⟨g,off,none⟩) l.length c) 34 rfl rfl hcur ?_
            refine tk 5 (.int .i64 k) 35 rfl rfl hcur ?_
            refine tk 6 (.int .i64 kp) 36 rfl rfl hcur ?_ (by intro w' hS';unfold execOp;simp [go_sem];rw [IntKind.wrap_i64];unfold wrap64 at ksub;omega)
            refine tk 7 (.pointer (some ⟨g,off+kp * 35,none⟩)) 37 rfl rfl hcur ?_ (by intro w' hS';unfold execOp;simp [go_sem,kp0,kpl])
            refine tk 8 (.agg vb) 38 rfl rfl hcur ?_ (by intro w' hS';exact exec_loadM 150 _ rfl _ _ rfl vb hS'.1 Tryz.underlying150 rfl HB.out.2.1)
            refine tk 10 (.agg nv) 40 rfl rfl hcur ?_ (by intro w' hS';exact exec_loadM 255 _ rfl _ _ rfl nv (range_lies hS'.2) Tryz.underlying255 rfl HB.out.2.2.1)
            refine held_one (i:=9) (by kernel_rfl) _ rfl (wpOp_callG rfl (by rfl) 39 rfl 136 #[.agg vb] (by unfold execOp;simp [go_sem]) _ (ret_of (HB.out.2.2.2.1 wd)) ?_)
            rintro v9 w9 ⟨rfl,hb9⟩
            have hb9':=hbd.trans (hb9.mono hbd.size)
            have hcur:=HS7.out _ hb9'
            refine ⟨hcur,?_⟩
            simp only [Sj]
            refine held_one (i:=11) (by kernel_rfl) _ rfl (wpOp_callG rfl (by rfl) 41 rfl 205 #[.agg nb,.agg nv] (by unfold execOp;simp [go_sem]) _ (ret_of (HB.out.2.2.2.2 w9)) ?_)
            rintro v11 w11 ⟨rfl,hb11⟩
            have hb11':=hb9'.trans (hb11.mono hb9'.size)
            have hcur:=HS7.out _ hb11'
            refine ⟨hcur,?_⟩
            simp only [Sj]
            refine tk 12 (.bool false) 42 rfl rfl hcur ?_ (by intro w' hS';unfold execOp;simp [go_sem,hx])
            refine tk 13 (.bool false) 43 rfl rfl hcur ?_
            refine wpAnyH_done (by kernel_rfl) ?_ _
            unfold NoPanic
            dsimp only
            have HBW:=Hj (hb4w.trans (hb11'.mono hb4w.size))
            clear hbd hcur hb9 hb9' hb11 hb11' hb4w
            have HOK:=Hj (show okT p l k=true by unfold okT;rw [HR.out.2.2.2.2.1,HX.out.1,← HX.out.2.1,H4.out.2.2.2];simp;exact ⟨H4.out.2.2.1,Or.inr (by omega)⟩)
            go_wp2_with fail
            have e1:(k:Int)+1=((k+1:Nat):Int):=by omega
            rw [e1]
            refine ⟨⟨k+1,HR.out.2.2.1,rfl,HBW.out,fun i hi => ?_⟩,?_⟩
            · by_cases e:i=k
              · rw [e];exact HOK.out
              · exact HR.out.2.1 i (by omega)
            · have h:=HR.out.2.2.1
              show l.length - (k+1) < l.length - k
              omega
  · have e1:k=l.length:=by omega
    have HF:=Hj (Aj hb (Aj hall e1))
    have m1:¬ (k:Int) < (l.length:Int):=by omega
    clear hb hall e1 hk hlt
    go_wp2_with fail
    go_ret
    refine ⟨?_,HF.out.1⟩
    rw [wellT_yes (fun i hi=>HF.out.2.1 i (by rw [HF.out.2.2];exact hi))]
    rfl
theorem enterNzT (args:Array Value) (w:World):(callFunc 134 args).run Tryz.prog w=.ok (.enter 134 args) w :=
 enter_of Tryz.func134 (by kernel_rfl) rfl args w
def nzT (a:To):Bool:=decide (a.w≠0)
theorem nzT_any (w:World) (a:To) (ha:a.nm.1.length=32):Calls Tryz.prog 134 #[.agg (toC a)] w fun e w'=>e=.returned (.bool (nzT a))∧Below w.heap.size w w':=by
 obtain ⟨va,hva⟩:∃ v,v=toC a:=⟨_,rfl⟩
 obtain ⟨h,hh⟩:∃ h,h=hiS a.w:=⟨_,rfl⟩
 obtain ⟨o,ho⟩:∃ o:Int,o=loN a.w:=⟨_,rfl⟩
 obtain ⟨z,hz⟩:∃ z,z=nzT a:=⟨_,rfl⟩
 have heq:∀ W,(Op.equalIn 10000 148 (.agg #[.int .i64 h,.int .u64 o]) (.agg #[.int .i64 0,.int .u64 0])).run Tryz.prog W=.ok (!z) W:=fun W=>by
  have:=eq_w W a.w 0
  rw [hh,ho,hz]
  unfold nzT
  rw [decide_not,Bool.not_not]
  exact this
 have hzb:∀ W,(Instr.build 148 #[]).run Tryz.prog W=.ok (.agg #[.int .i64 0,.int .u64 0]) W:=fun W=>run_build W 148 _ _ (by kernel_rfl)
 have hL:Lies (w.alloc (.cells va 150)) w.heap.size va 150:=Lies.new _ _ _
 have hb0:Below w.heap.size w (w.alloc (.cells va 150)):=(Below.refl _ _).alloc (Nat.le_refl _) _
 have c0:=hL.cell 33 (v:=.int .i64 h) (by rw [hva,hh];exact toC_hi a ha)
 have c1:=hL.cell 34 (v:=.int .u64 o) (by rw [hva,ho];exact toC_lo a ha)
 rw [← hva,← hz]
 have H:=Hj hb0
 clear hL hb0 hva hh ho hz
 go_enter Tryz.func134,Tryz.ntmps134
 go_upto_region 1 with fail
 generalize w.alloc (.cells va 150)=W1 at H c0 c1 ⊢
 cases z with
 | true =>
   go_wp2_with fail
   go_ret
   exact ⟨rfl,H.out⟩
 | false =>
   go_wp2_with fail
   go_ret
   exact ⟨rfl,H.out⟩
theorem totalsW_any (w:World) (pa:Option Addr) (l:List To) (c:Nat) (h:RowT w pa l) :
  Calls Tryz.prog 71 #[.slice pa l.length c] w fun e w'=>e=.returned (.bool (wellT nzT l))∧Below w.heap.size w w':=by
 have hc:=wellT_any 134 nzT enterNzT (fun w a ha=>nzT_any w a ha) w pa l c h.1 (fun a ha=>⟨(h.2.1 a ha).1,(h.2.1 a ha).2⟩) h.2.2
 obtain ⟨b,hb⟩:∃ b,b=wellT nzT l:=⟨_,rfl⟩
 rw [← hb] at hc ⊢
 have H:=Hj hc
 clear hc h hb
 go_enter Tryz.func71,Tryz.ntmps71
 go_wp2_with fail
 refine H.out.mono ?_
 rintro e w2 ⟨rfl,hb2⟩
 go_wp2_with fail
 go_ret
 exact ⟨rfl,hb2⟩
end Go.Proofs.YtilbbemdinpjcaaGreat.P
namespace Go.Proofs.YtilbbemdinpjcaaGreat.P
set_option maxRecDepth 100000
open Go.RowKit
theorem ens_kinds {es:List En} (h:rightEB es=true):∀ e ∈ es,e.o.kind=2→∀ x ∈ e.o.ns,1≤x.kind∧x.kind≤6:=by
 intro e he h2
 obtain ⟨i,hi⟩:=List.getElem?_of_mem he
 unfold rightEB at h
 rw [List.all_eq_true] at h
 have:=h i (List.mem_range.2 (List.getElem?_eq_some_iff.1 hi).1)
 unfold entB at this
 rw [hi] at this
 simp only [Bool.and_eq_true] at this
 exact outs_kinds this.1.2 h2
theorem putAssetsG_any (w:World) {B g:Nat} {v:Value} {st:Option (List UInt8)} (pa:Option Addr) (nc:Nat) (l:List As) (hT:Stays g w v fun W=>Row W pa l) (h:WrO W.WSt w B g v st) (hx:sz st+57 * cntA l≤700000) :
 Calls Tryz.prog 181 #[.pointer (some ⟨g,0,none⟩),.slice pa l.length nc,.func (Fn.func 148) #[] #[],.func (Fn.func 182) #[] #[]] w (PutR W.WSt w B g v (if mintB l then asListS st l else none)):=by
 have hf:=hT.now
 obtain ⟨r,hrb⟩:∃ r,r=mintB l:=⟨_,rfl⟩
 obtain ⟨s2,hs2⟩:∃ s,s=asListS st l:=⟨_,rfl⟩
 obtain ⟨s3,hs3⟩:∃ s,s=(if r then s2 else none):=⟨_,rfl⟩
 have hf1:=T.callK 148 Tryz.f148 Tryz.func148 (by kernel_rfl) (by kernel_rfl)
 have hf2:=T.callK 182 Tryz.f182 Tryz.func182 (by kernel_rfl) (by kernel_rfl)
 have HR:Hid (∀ V,Below w.heap.size w V→Calls Tryz.prog 148 #[.slice pa l.length nc] V fun e w'=>e=.returned (.bool r)∧Below V.heap.size V w'):=Hj fun V hb=>by
  have hf:=(hT.on (Lk.of_below hb)).now
  rw [hrb];exact mints_any V pa l nc hf
 have HC:Hid (r=true→∀ V,Below w.heap.size w V→Calls Tryz.prog 182 #[.agg #[.pointer (some ⟨g,0,none⟩)],.slice pa l.length nc] V (PutR W.WSt V B g v s2)):=Hj fun hr V hb=>by
  have hS:=hT.on (Lk.of_below hb)
  have hw:=h.belowW hb
  rw [hrb] at hr
  rw [hs2];exact putterAssets_any V pa nc l hS hw hx
 rw [← hrb,← hs2,← hs3]
 have H:=Hj (Aj h hs3)
 clear hT h hx hf hrb hs2 hs3
 go_enter Tryz.func181,Tryz.ntmps181
 go_wp2_with fail
 refine (HR.out _ (Below.refl _ _)).mono ?_
 rintro e W1 ⟨rfl,hb1⟩
 have hbw:=hb1
 have HW1:=Hj hbw
 clear hb1 hbw HR
 cases r with
 | true =>
   have HCC:=Hj (HC.out rfl W1 HW1.out)
   clear HC
   go_wp2_with fail
   refine HCC.out.mono ?_
   rintro e W2 hr2
   obtain ⟨rfl,hr2⟩:=hr2
   have HE:=Hj hr2
   clear hr2 HCC
   go_wp2_with fail
   first
    | go_end0
    | refine bodyPost_ret (results_none rfl _ _ _) rfl ?_
   rw [H.out.2]
   exact PutR.after HW1.out ⟨rfl,HE.out⟩
 | false =>
   have HCC:=Hj (wSpoil W1 (H.out.1.belowW HW1.out))
   clear HC
   go_wp2_with fail
   refine HCC.out.mono ?_
   rintro e W2 hr2
   obtain ⟨rfl,hr2⟩:=hr2
   have HE:=Hj hr2
   clear hr2 HCC
   go_wp2_with fail
   first
    | go_end0
    | refine bodyPost_ret (results_none rfl _ _ _) rfl ?_
   rw [H.out.2]
   exact PutR.after HW1.out ⟨rfl,HE.out⟩
theorem putAssets_any (w:World) {B g:Nat} {v:Value} {st:Option (List UInt8)} (pa:Option Addr) (nc:Nat) (l:List As) (hT:Stays g w v fun W=>Row W pa l) (h:WrO W.WSt w B g v st) (hx:sz st+57 * cntA l≤700000) :
  Calls Tryz.prog 111 #[.pointer (some ⟨g,0,none⟩),.slice pa l.length nc] w (PutR W.WSt w B g v (if mintB l then asListS st l else none)):=by
 have hf:=hT.now
 obtain ⟨s3,hs3⟩:∃ s,s=(if mintB l then asListS st l else none):=⟨_,rfl⟩
 have HC:Hid (∀ V,Below w.heap.size w V→Calls Tryz.prog 181 #[.pointer (some ⟨g,0,none⟩),.slice pa l.length nc,.func (Fn.func 148) #[] #[],.func (Fn.func 182) #[] #[]] V (PutR W.WSt V B g v s3)):=Hj fun V hb=>by
  rw [hs3];exact putAssetsG_any V pa nc l (hT.on (Lk.of_below hb))  (h.belowW hb) hx
 rw [← hs3]
 clear hT h hx hf hs3
 go_enter Tryz.func111,Tryz.ntmps111
 go_wp2_with fail
 refine (HC.out _ (Below.refl _ _)).mono ?_
 rintro e W2 hr2
 obtain ⟨rfl,hr2⟩:=hr2
 have HE:=Hj hr2
 clear hr2 HC
 go_wp2_with fail
 go_end0
 exact ⟨rfl,HE.out⟩
theorem putTotalsG_any (w:World) {B g:Nat} {v:Value} {st:Option (List UInt8)} (pa:Option Addr) (nc:Nat) (l:List To) (hT:Stays g w v fun W=>RowT W pa l) (h:WrO W.WSt w B g v st) (hx:sz st+65 * cntT l≤690000) :
 Calls Tryz.prog 185 #[.pointer (some ⟨g,0,none⟩),.slice pa l.length nc,.func (Fn.func 71) #[] #[],.func (Fn.func 186) #[] #[]] w (PutR W.WSt w B g v (if wellT nzT l then totS st l else none)):=by
 have hf:=hT.now
 obtain ⟨r,hrb⟩:∃ r,r=wellT nzT l:=⟨_,rfl⟩
 obtain ⟨s2,hs2⟩:∃ s,s=totS st l:=⟨_,rfl⟩
 obtain ⟨s3,hs3⟩:∃ s,s=(if r then s2 else none):=⟨_,rfl⟩
 have hf1:=T.callK 71 Tryz.f71 Tryz.func71 (by kernel_rfl) (by kernel_rfl)
 have hf2:=T.callK 186 Tryz.f186 Tryz.func186 (by kernel_rfl) (by kernel_rfl)
 have HR:Hid (∀ V,Below w.heap.size w V→Calls Tryz.prog 71 #[.slice pa l.length nc] V fun e w'=>e=.returned (.bool r)∧Below V.heap.size V w'):=Hj fun V hb=>by
  have hf:=(hT.on (Lk.of_below hb)).now
  rw [hrb];exact totalsW_any V pa l nc hf
 have HC:Hid (r=true→∀ V,Below w.heap.size w V→Calls Tryz.prog 186 #[.agg #[.pointer (some ⟨g,0,none⟩)],.slice pa l.length nc] V (PutR W.WSt V B g v s2)):=Hj fun hr V hb=>by
  have hS:=hT.on (Lk.of_below hb)
  have hw:=h.belowW hb
  rw [hrb] at hr
  rw [hs2];exact putterTotals_any V pa nc l hS hw hx
 rw [← hrb,← hs2,← hs3]
 have H:=Hj (Aj h hs3)
 clear hT h hx hf hrb hs2 hs3
 go_enter Tryz.func185,Tryz.ntmps185
 go_wp2_with fail
 refine (HR.out _ (Below.refl _ _)).mono ?_
 rintro e W1 ⟨rfl,hb1⟩
 have hbw:=hb1
 have HW1:=Hj hbw
 clear hb1 hbw HR
 cases r with
 | true =>
   have HCC:=Hj (HC.out rfl W1 HW1.out)
   clear HC
   go_wp2_with fail
   refine HCC.out.mono ?_
   rintro e W2 hr2
   obtain ⟨rfl,hr2⟩:=hr2
   have HE:=Hj hr2
   clear hr2 HCC
   go_wp2_with fail
   first
    | go_end0
    | refine bodyPost_ret (results_none rfl _ _ _) rfl ?_
   rw [H.out.2]
   exact PutR.after HW1.out ⟨rfl,HE.out⟩
 | false =>
   have HCC:=Hj (wSpoil W1 (H.out.1.belowW HW1.out))
   clear HC
   go_wp2_with fail
   refine HCC.out.mono ?_
   rintro e W2 hr2
   obtain ⟨rfl,hr2⟩:=hr2
   have HE:=Hj hr2
   clear hr2 HCC
   go_wp2_with fail
   first
    | go_end0
    | refine bodyPost_ret (results_none rfl _ _ _) rfl ?_
   rw [H.out.2]
   exact PutR.after HW1.out ⟨rfl,HE.out⟩
theorem putTotals_any (w:World) {B g:Nat} {v:Value} {st:Option (List UInt8)} (pa:Option Addr) (nc:Nat) (l:List To) (hT:Stays g w v fun W=>RowT W pa l) (h:WrO W.WSt w B g v st) (hx:sz st+65 * cntT l≤690000) :
  Calls Tryz.prog 113 #[.pointer (some ⟨g,0,none⟩),.slice pa l.length nc] w (PutR W.WSt w B g v (if wellT nzT l then totS st l else none)):=by
 have hf:=hT.now
 obtain ⟨s3,hs3⟩:∃ s,s=(if wellT nzT l then totS st l else none):=⟨_,rfl⟩
 have HC:Hid (∀ V,Below w.heap.size w V→Calls Tryz.prog 185 #[.pointer (some ⟨g,0,none⟩),.slice pa l.length nc,.func (Fn.func 71) #[] #[],.func (Fn.func 186) #[] #[]] V (PutR W.WSt V B g v s3)):=Hj fun V hb=>by
  rw [hs3];exact putTotalsG_any V pa nc l (hT.on (Lk.of_below hb))  (h.belowW hb) hx
 rw [← hs3]
 clear hT h hx hf hs3
 go_enter Tryz.func113,Tryz.ntmps113
 go_wp2_with fail
 refine (HC.out _ (Below.refl _ _)).mono ?_
 rintro e W2 hr2
 obtain ⟨rfl,hr2⟩:=hr2
 have HE:=Hj hr2
 clear hr2 HC
 go_wp2_with fail
 go_end0
 exact ⟨rfl,HE.out⟩
theorem putEntriesG_any (w:World) {B g:Nat} {v:Value} {st:Option (List UInt8)} (pa:Option Addr) (nc:Nat) (es:List En) (hT:Stays g w v fun W=>RowE W pa es) (hi:∀ e ∈ es,∀ x ∈ e.o.ns,NdIn x) (h:WrO W.WSt w B g v st) (hx:sz st+123 * cntE es≤690000) :
 Calls Tryz.prog 189 #[.pointer (some ⟨g,0,none⟩),.slice pa es.length nc,.func (Fn.func 15) #[] #[],.func (Fn.func 190) #[] #[]] w (PutR W.WSt w B g v (if rightEB es then ensS st es else none)):=by
 have hf:=hT.now
 obtain ⟨r,hrb⟩:∃ r,r=rightEB es:=⟨_,rfl⟩
 obtain ⟨s2,hs2⟩:∃ s,s=ensS st es:=⟨_,rfl⟩
 obtain ⟨s3,hs3⟩:∃ s,s=(if r then s2 else none):=⟨_,rfl⟩
 have hf1:=T.callK 15 Tryz.f15 Tryz.func15 (by kernel_rfl) (by kernel_rfl)
 have hf2:=T.callK 190 Tryz.f190 Tryz.func190 (by kernel_rfl) (by kernel_rfl)
 have HR:Hid (∀ V,Below w.heap.size w V→Calls Tryz.prog 15 #[.slice pa es.length nc] V fun e w'=>e=.returned (.bool r)∧Below V.heap.size V w'):=Hj fun V hb=>by
  have hf:=(hT.on (Lk.of_below hb)).now
  rw [hrb];exact rightEntries_any V pa es nc hf
 have HC:Hid (r=true→∀ V,Below w.heap.size w V→Calls Tryz.prog 190 #[.agg #[.pointer (some ⟨g,0,none⟩)],.slice pa es.length nc] V (PutR W.WSt V B g v s2)):=Hj fun hr V hb=>by
  have hS:=hT.on (Lk.of_below hb)
  have hw:=h.belowW hb
  rw [hrb] at hr
  rw [hs2];exact putterEntries_any V pa nc es hS (ens_kinds hr) hi hw hx
 rw [← hrb,← hs2,← hs3]
 have H:=Hj (Aj h hs3)
 clear hT h hx hf hrb hs2 hs3 hi
 go_enter Tryz.func189,Tryz.ntmps189
 go_wp2_with fail
 refine (HR.out _ (Below.refl _ _)).mono ?_
 rintro e W1 ⟨rfl,hb1⟩
 have hbw:=hb1
 have HW1:=Hj hbw
 clear hb1 hbw HR
 cases r with
 | true =>
   have HCC:=Hj (HC.out rfl W1 HW1.out)
   clear HC
   go_wp2_with fail
   refine HCC.out.mono ?_
   rintro e W2 hr2
   obtain ⟨rfl,hr2⟩:=hr2
   have HE:=Hj hr2
   clear hr2 HCC
   go_wp2_with fail
   first
    | go_end0
    | refine bodyPost_ret (results_none rfl _ _ _) rfl ?_
   rw [H.out.2]
   exact PutR.after HW1.out ⟨rfl,HE.out⟩
 | false =>
   have HCC:=Hj (wSpoil W1 (H.out.1.belowW HW1.out))
   clear HC
   go_wp2_with fail
   refine HCC.out.mono ?_
   rintro e W2 hr2
   obtain ⟨rfl,hr2⟩:=hr2
   have HE:=Hj hr2
   clear hr2 HCC
   go_wp2_with fail
   first
    | go_end0
    | refine bodyPost_ret (results_none rfl _ _ _) rfl ?_
   rw [H.out.2]
   exact PutR.after HW1.out ⟨rfl,HE.out⟩
theorem putEntries_any (w:World) {B g:Nat} {v:Value} {st:Option (List UInt8)} (pa:Option Addr) (nc:Nat) (es:List En) (hT:Stays g w v fun W=>RowE W pa es) (hi:∀ e ∈ es,∀ x ∈ e.o.ns,NdIn x) (h:WrO W.WSt w B g v st) (hx:sz st+123 * cntE es≤690000) :
  Calls Tryz.prog 115 #[.pointer (some ⟨g,0,none⟩),.slice pa es.length nc] w (PutR W.WSt w B g v (if rightEB es then ensS st es else none)):=by
 have hf:=hT.now
 obtain ⟨s3,hs3⟩:∃ s,s=(if rightEB es then ensS st es else none):=⟨_,rfl⟩
 have HC:Hid (∀ V,Below w.heap.size w V→Calls Tryz.prog 189 #[.pointer (some ⟨g,0,none⟩),.slice pa es.length nc,.func (Fn.func 15) #[] #[],.func (Fn.func 190) #[] #[]] V (PutR W.WSt V B g v s3)):=Hj fun V hb=>by
  rw [hs3];exact putEntriesG_any V pa nc es (hT.on (Lk.of_below hb)) hi (h.belowW hb) hx
 rw [← hs3]
 clear hT h hx hf hs3 hi
 go_enter Tryz.func115,Tryz.ntmps115
 go_wp2_with fail
 refine (HC.out _ (Below.refl _ _)).mono ?_
 rintro e W2 hr2
 obtain ⟨rfl,hr2⟩:=hr2
 have HE:=Hj hr2
 clear hr2 HC
 go_wp2_with fail
 go_end0
 exact ⟨rfl,HE.out⟩
end Go.Proofs.YtilbbemdinpjcaaGreat.P
