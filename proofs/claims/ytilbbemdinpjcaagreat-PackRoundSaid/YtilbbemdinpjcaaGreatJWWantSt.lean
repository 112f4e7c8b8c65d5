/-
  wanted: the same, at the document's own writer.
-/
import Derived.Test.YtilbbemdinpjcaaGreatJWRawNil
import Derived.Test.YtilbbemdinpjcaaGreatJWTell
import Derived.Deep.RegionHeld3
import Derived.Laws.IdiomStrings
import Derived.Deep.WholeRow
import Derived.Deep.MidRow
import Derived.Lib.ConvBytes
namespace Go.Proofs.YtilbbemdinpjcaaGreat.W
open Go.RowKit
set_option maxRecDepth 100000 in
theorem newreader_some (w:World) (gx off c0:Nat) (xs:List UInt8) (hs:Src w gx off xs) (hg:gx < w.heap.size) (hx:xs.length≤2000000) (h0:xs≠[]) :
  Calls Tryz.prog 25 #[.slice (some ⟨gx,off,none⟩) xs.length c0] w fun e w'=>∃ g k c,e=.returned (.pointer (some ⟨g,0,none⟩))∧w.heap.size≤g∧w.heap.size≤k∧Rdr w' g k xs c 0 false∧Below w.heap.size w w':=by
 have hpos:0 < xs.length:=List.length_pos_iff.2 h0
 have hcl:=clone_any w xs gx off c0 hs hg hx
 have HC:=Lib.hid hcl
 clear hcl hs
 go_enter Tryz.func25,Tryz.ntmps25
 go_wp2_with fail
 refine HC.out.mono ?_
 rintro e w1 ⟨u,rfl,hown,hb⟩
 obtain ⟨k,c,rfl,hk1,hk2⟩:=hown.form hpos
 have hc:xs.length≤c:=by
  rcases hown.2 with ⟨h,_⟩ | ⟨g2,cap,cur,h,_,_,h5,_⟩
  ·
   cases h
  ·
   cases h;exact h5
 have hcn:c≠NILC:=by
  rcases hown.2 with ⟨h,_⟩ | ⟨g2,cap,cur,h,_,_,_,h6,_⟩
  ·
   cases h
  ·
   cases h
   unfold maxLen at h6
   unfold NILC
   omega
 have hsrc:=own_src hown
 have HH:=Lib.hid (And.intro hsrc hb)
 clear hown hb hsrc HC
 go_wp2_with fail
 have hl:=Lies.new w1 #[.pointer none,.bool false,.slice (some ⟨k,0,none⟩) xs.length c,.int .i64 0] 129
 have hb1:Below w1.heap.size w1 (w1.alloc (.cells #[.pointer none,.bool false,.slice (some ⟨k,0,none⟩) xs.length c,.int .i64 0] 129)):=(Below.refl _ _).alloc (Nat.le_refl _) _
 generalize w1.alloc (.cells #[.pointer none,.bool false,.slice (some ⟨k,0,none⟩) xs.length c,.int .i64 0] 129)=w2 at hl hb1 ⊢
 refine (begin_any w2 w1.heap.size (.pointer none) (hl.cell 0 rfl) (hl.free 0) rfl).mono ?_
 rintro e w3 ⟨rfl,hw3⟩
 have hr:Rdr w3 w1.heap.size k xs c 0 false:=by
  rw [hw3]
  have hl2:Lies w2 w1.heap.size #[.pointer none,.bool false,RS k xs.length c,.int .i64 0] 129:=by rw [RS_some k _ hcn];exact hl
  refine ⟨hl2.set 0 _,?_,by omega,by rw [size_set];exact Nat.lt_of_lt_of_le hk2 hb1.size,hx,hc,fun e=>absurd e hcn⟩
  have h1:Src w2 k 0 xs:=fun j hj=>(hb1.cell (p:=⟨k,0+j,none⟩) hk2).trans (HH.out.1 j hj)
  exact h1.only (only_set w1.heap.size 0 w2 _) (Nat.lt_of_lt_of_le hk2 hb1.size) (by omega)
 have hb3:Below w.heap.size w w3:=by
  rw [hw3]
  exact (HH.out.2.trans (hb1.mono HH.out.2.size)).setCell HH.out.2.size _
 have HX:=Lib.hid (And.intro hr hb3)
 clear hl hb1 hw3 hr hb3
 go_wp2_with fail
 go_ret
 exact ⟨w1.heap.size,k,c,rfl,HH.out.2.size,hk1,HX.out.1,HX.out.2⟩
end Go.Proofs.YtilbbemdinpjcaaGreat.W
namespace Go.Proofs.YtilbbemdinpjcaaGreat.W
open Go.RowKit
theorem rdr_pair {w:World} {g k:Nat} {xs:List UInt8} {c a:Nat} (h:Rdr w g k xs c a false) (v1 v2:Value) (t1 t2:TypeId) :
  Rdr ((w.alloc (.cells #[v1] t1)).alloc (.cells #[v2] t2)) g k xs c a false∧Below w.heap.size w ((w.alloc (.cells #[v1] t1)).alloc (.cells #[v2] t2)):=by
 have hb:Below w.heap.size w ((w.alloc (.cells #[v1] t1)).alloc (.cells #[v2] t2)):=((Below.refl _ _).alloc (Nat.le_refl _) _).alloc (by simp) _
 exact ⟨h.below hb,hb⟩
theorem count1_good (W:World) (p q g k:Nat) (xs:List UInt8) (c a:Nat) (m:Int) (hp:W.cell? ⟨p,0,none⟩=some (.pointer (some ⟨g,0,none⟩))) (hq:W.cell? ⟨q,0,none⟩=some (.int .i64 m)) (h:Rdr W g k xs c a false)
  (hn:a+2≤xs.length) (hm:(beVal ((xs.drop a).take 2):Int)≤m) :
  Calls Tryz.prog 268 #[.pointer (some ⟨p,0,none⟩),.pointer (some ⟨q,0,none⟩)] W fun e W'=>e=.returned (.int .i64 (beVal ((xs.drop a).take 2)))∧Rdr W' g k xs c (a+2) false∧Only g W W' none:=by
 have HU:=Lib.hid (upto_good W g k xs c a h m 2 (by omega) hn hm)
 clear h hm
 go_enter Tryz.func268,Tryz.ntmps268
 go_wp2_with fail
 refine HU.out.mono ?_
 rintro e w1 ⟨rfl,hr⟩
 have HR:=Lib.hid hr
 clear hr
 go_wp2_with fail
 go_ret
 exact ⟨rfl,HR.out⟩
theorem count1_bad (W:World) (p q g k:Nat) (xs:List UInt8) (c a:Nat) (m:Int) (hp:W.cell? ⟨p,0,none⟩=some (.pointer (some ⟨g,0,none⟩))) (hq:W.cell? ⟨q,0,none⟩=some (.int .i64 m)) (h:Rdr W g k xs c a false) (ha:a≤xs.length)
  (hm:xs.length < a+2 ∨ m < beVal ((xs.drop a).take 2)) :
  Calls Tryz.prog 268 #[.pointer (some ⟨p,0,none⟩),.pointer (some ⟨q,0,none⟩)] W fun e W'=>Unmet e∧(∃ a',Rdr W' g k xs c a' false)∧Only g W W' none:=by
 have hu:Calls Tryz.prog 269 #[.pointer (some ⟨g,0,none⟩),.int .i64 m,.int .i64 2] W fun e W'=>Unmet e∧(∃ a',Rdr W' g k xs c a' false)∧Only g W W' none:=by
  by_cases hs:xs.length < a+2
  ·
   exact (upto_short W g k xs c a h ha m 2 hs).mono fun e W' hh=>⟨hh.1,⟨a,h.below hh.2⟩,only_below hh.2⟩
  ·
   exact (upto_great W g k xs c a h m 2 (by omega) (by omega) (by omega)).mono fun e W' hh=>⟨hh.1,⟨_,hh.2.1⟩,hh.2.2⟩
 have HU:=Lib.hid hu
 clear h hu hm
 go_enter Tryz.func268,Tryz.ntmps268
 go_wp2_with fail
 refine HU.out.mono ?_
 rintro e w1 ⟨⟨v,rfl⟩,hr⟩
 have HR:=Lib.hid hr
 clear hr
 go_wp2_with fail
 exact ⟨rfl,⟨_,rfl⟩,HR.out⟩
set_option maxRecDepth 100000 in
theorem count_good (w:World) (g k:Nat) (xs:List UInt8) (c a:Nat) (m:Int) (h:Rdr w g k xs c a false) (hn:a+2≤xs.length) (hm:(beVal ((xs.drop a).take 2):Int)≤m) :
  Calls Tryz.prog 217 #[.pointer (some ⟨g,0,none⟩),.int .i64 m] w fun e w'=>e=.returned (.int .i64 (beVal ((xs.drop a).take 2)))∧Rdr w' g k xs c (a+2) false∧Only g w w' none:=by
 have hmf:∀ (fn:Fn) (first cap:Array Value) (w:World),(Instr.makeFunc fn first cap).run Tryz.prog w=.ok (.func fn first cap) w:=fun _ _ _ _=>rfl
 obtain ⟨hr,hb⟩:=rdr_pair h (.pointer (some ⟨g,0,none⟩)) (.int .i64 m) 56 3
 have ht:=tell73_met _ g k xs c a (a+2) (.int .i64 (beVal ((xs.drop a).take 2))) 268 #[.pointer (some ⟨w.heap.size,0,none⟩),.pointer (some ⟨w.heap.size+1,0,none⟩)] hr (callK 268 Tryz.f268 Tryz.func268 (by kernel_rfl) (by kernel_rfl) _)
  (fun W hW hR=>count1_good W _ _ g k xs c a m (by rw [hW.cell (p:=⟨w.heap.size,0,none⟩) (by simp;omega)];simp [go_sem]) (by rw [hW.cell (p:=⟨w.heap.size+1,0,none⟩) (by simp)];simp [go_sem]) hR hn hm)
 have HT:=Lib.hid ht
 have HB:=Lib.hid hb
 clear ht hb hr h hm
 go_enter Tryz.func217,Tryz.ntmps217
 go_wp2_with fail
 refine HT.out.mono ?_
 rintro e w1 ⟨rfl,hr,ho⟩
 have HR:=Lib.hid (And.intro hr ((only_below HB.out).trans0 ho))
 clear hr ho
 go_wp2_with fail
 go_ret
 exact ⟨rfl,HR.out⟩
set_option maxRecDepth 100000 in
theorem count_bad (w:World) (g k:Nat) (xs:List UInt8) (c a:Nat) (m:Int) (h:Rdr w g k xs c a false) (ha:a≤xs.length) (hm:xs.length < a+2 ∨ m < beVal ((xs.drop a).take 2)) :
  Calls Tryz.prog 217 #[.pointer (some ⟨g,0,none⟩),.int .i64 m] w fun e w'=>e=.returned (.int .i64 0)∧Rdr w' g k xs c a true∧Only g w w' none:=by
 have hmf:∀ (fn:Fn) (first cap:Array Value) (w:World),(Instr.makeFunc fn first cap).run Tryz.prog w=.ok (.func fn first cap) w:=fun _ _ _ _=>rfl
 obtain ⟨hr,hb⟩:=rdr_pair h (.pointer (some ⟨g,0,none⟩)) (.int .i64 m) 56 3
 have ht:=tell73_unmet _ g k xs c a 268 #[.pointer (some ⟨w.heap.size,0,none⟩),.pointer (some ⟨w.heap.size+1,0,none⟩)] hr (callK 268 Tryz.f268 Tryz.func268 (by kernel_rfl) (by kernel_rfl) _)
  (fun W hW hR=>count1_bad W _ _ g k xs c a m (by rw [hW.cell (p:=⟨w.heap.size,0,none⟩) (by simp;omega)];simp [go_sem]) (by rw [hW.cell (p:=⟨w.heap.size+1,0,none⟩) (by simp)];simp [go_sem]) hR ha hm)
 have HT:=Lib.hid ht
 have HB:=Lib.hid hb
 clear ht hb hr h hm
 go_enter Tryz.func217,Tryz.ntmps217
 go_wp2_with fail
 refine HT.out.mono ?_
 rintro e w1 ⟨rfl,hr,ho⟩
 have HR:=Lib.hid (And.intro hr ((only_below HB.out).trans0 ho))
 clear hr ho
 go_wp2_with fail
 go_ret
 exact ⟨rfl,HR.out⟩
theorem flag1_good (W:World) (p g k:Nat) (xs:List UInt8) (c a:Nat) (hp:W.cell? ⟨p,0,none⟩=some (.pointer (some ⟨g,0,none⟩))) (h:Rdr W g k xs c a false)
  (hn:a+1≤xs.length) (hm:(beVal ((xs.drop a).take 1):Int)≤1) :
  Calls Tryz.prog 292 #[.pointer (some ⟨p,0,none⟩)] W fun e W'=>e=.returned (.bool (decide (beVal ((xs.drop a).take 1)=1)))∧Rdr W' g k xs c (a+1) false∧Only g W W' none:=by
 have hu:=upto_good W g k xs c a h 1 1 (by omega) hn hm
 generalize beVal ((xs.drop a).take 1)=v at hu ⊢
 obtain ⟨t,ht⟩:∃ t,decide (v=1)=t:=⟨_,rfl⟩
 have hb:((v:Int) == 1)=t:=by rw [← ht,Bool.eq_iff_iff,beq_iff_eq,decide_eq_true_eq];omega
 rw [ht]
 have HU:=Lib.hid hu
 clear h hm hu ht
 go_enter Tryz.func292,Tryz.ntmps292
 go_wp2_with fail
 refine HU.out.mono ?_
 rintro e w1 ⟨rfl,hr⟩
 have HR:=Lib.hid hr
 clear hr
 go_wp2_with fail
 go_ret
 exact ⟨rfl,HR.out⟩
set_option maxRecDepth 100000 in
theorem flag_good (w:World) (g k:Nat) (xs:List UInt8) (c a:Nat) (h:Rdr w g k xs c a false) (hn:a+1≤xs.length) (hm:(beVal ((xs.drop a).take 1):Int)≤1) :
  Calls Tryz.prog 273 #[.pointer (some ⟨g,0,none⟩)] w fun e w'=>e=.returned (.bool (decide (beVal ((xs.drop a).take 1)=1)))∧Rdr w' g k xs c (a+1) false∧Only g w w' none:=by
 have hmf:∀ (fn:Fn) (first cap:Array Value) (w:World),(Instr.makeFunc fn first cap).run Tryz.prog w=.ok (.func fn first cap) w:=fun _ _ _ _=>rfl
 have hb:Below w.heap.size w (w.alloc (.cells #[.pointer (some ⟨g,0,none⟩)] 56)):=(Below.refl _ _).alloc (Nat.le_refl _) _
 have hr:=h.below hb
 have ht:=tell85_met _ g k xs c a (a+1) (.bool (decide (beVal ((xs.drop a).take 1)=1))) 292 #[.pointer (some ⟨w.heap.size,0,none⟩)] hr (callK 292 Tryz.f292 Tryz.func292 (by kernel_rfl) (by kernel_rfl) _)
  (fun W hW hR=>flag1_good W _ g k xs c a (by rw [hW.cell (p:=⟨w.heap.size,0,none⟩) (by simp)];simp [go_sem]) hR hn hm)
 have HT:=Lib.hid ht
 have HB:=Lib.hid hb
 clear ht hb hr h hm
 generalize decide (beVal ((xs.drop a).take 1)=1)=t at HT ⊢
 go_enter Tryz.func273,Tryz.ntmps273
 go_wp2_with fail
 refine HT.out.mono ?_
 rintro e w1 ⟨rfl,hr,ho⟩
 have HR:=Lib.hid (And.intro hr ((only_below HB.out).trans0 ho))
 clear hr ho
 go_wp2_with fail
 go_ret
 exact ⟨rfl,HR.out⟩
/-! ## Left,End,Err -/
set_option maxRecDepth 100000 in
theorem left_good (w:World) (g k:Nat) (xs:List UInt8) (c a:Nat) (h:Rdr w g k xs c a false) (ha:a≤xs.length) :
  Calls Tryz.prog 28 #[.pointer (some ⟨g,0,none⟩)] w fun e w'=>e=.returned (.int .i64 (xs.length - a:Nat))∧Below w.heap.size w w':=by
 have ht:=tells_self w g false (h.1.cell 0 rfl) (h.1.cell 1 rfl)
 obtain ⟨A,c',hrs⟩:=h.form
 have c2:w.cell? ⟨g,2,none⟩=some (RS k xs.length c):=h.1.cell 2 rfl
 rw [hrs] at c2
 clear hrs
 have c3:w.cell? ⟨g,3,none⟩=some (.int .i64 a):=h.1.cell 3 rfl
 obtain ⟨_,_,_,_,hx,_,_⟩:=h
 have hw:IntKind.i64.wrap ((xs.length:Int) - a)=((xs.length - a:Nat):Int):=by rw [IntKind.wrap_i64];omega
 go_enter Tryz.func28,Tryz.ntmps28
 go_wp2_with fail
 refine ht.mono ?_
 rintro e w1 ⟨rfl,rfl⟩
 clear ht
 go_wp2_with fail
 go_quiet (fail)
 go_wp2_with fail
 go_ret
 exact ⟨rfl,below_drewN w _⟩
set_option maxRecDepth 100000 in
theorem err_any (w:World) (g k:Nat) (xs:List UInt8) (c a:Nat) (sp:Bool) (h:Rdr w g k xs c a sp) :
  Calls Tryz.prog 30 #[.pointer (some ⟨g,0,none⟩)] w fun e w'=>e=.returned (.int .i64 (if sp then 4 else 0))∧w=w':=by
 have ha:=answered_self w g (h.1.cell 0 rfl)
 have c1:w.cell? ⟨g,1,none⟩=some (.bool sp):=h.1.cell 1 rfl
 clear h
 cases sp
 all_goals
  go_enter Tryz.func30,Tryz.ntmps30
  go_wp2_with fail
  refine ha.mono ?_
  rintro e w1 ⟨rfl,rfl⟩
  clear ha
  go_wp2_with fail
  go_ret
  exact ⟨rfl,rfl⟩
end Go.Proofs.YtilbbemdinpjcaaGreat.W
namespace Go.Proofs.YtilbbemdinpjcaaGreat.W
open Go.RowKit
set_option maxRecDepth 100000 in
theorem ask25_idle (w:World) (p:Option Addr) (h:Idle w p):Calls Tryz.prog 200 #[.pointer p] w fun e w'=>e=.returned (.int .i64 0)∧Below w.heap.size w w':=by
 have hmf:∀ (fn:Fn) (first cap:Array Value) (w:World),(Instr.makeFunc fn first cap).run Tryz.prog w=.ok (.func fn first cap) w:=fun _ _ _ _=>rfl
 have hb:Below w.heap.size w (w.alloc (.cells #[.pointer p] 56)):=(Below.refl _ _).alloc (Nat.le_refl _) _
 have ht:=tell73_idle _ p (.func (Fn.func 259) #[] #[.pointer (some ⟨w.heap.size,0,none⟩)]) (h.below hb)
 have HT:=Lib.hid ht
 have HB:=Lib.hid hb
 clear ht hb h
 go_enter Tryz.func200,Tryz.ntmps200
 go_wp2_with fail
 refine HT.out.mono ?_
 rintro e w1 ⟨rfl,hb1⟩
 have HB1:=Lib.hid hb1
 clear hb1
 go_wp2_with fail
 go_ret
 exact ⟨rfl,HB.out.trans (HB1.out.mono HB.out.size)⟩
set_option maxRecDepth 100000 in
theorem ask53_idle (w:World) (p:Option Addr) (h:Idle w p):Calls Tryz.prog 251 #[.pointer p] w fun e w'=>e=.returned (.int .i64 0)∧Below w.heap.size w w':=by
 have hmf:∀ (fn:Fn) (first cap:Array Value) (w:World),(Instr.makeFunc fn first cap).run Tryz.prog w=.ok (.func fn first cap) w:=fun _ _ _ _=>rfl
 have hb:Below w.heap.size w (w.alloc (.cells #[.pointer p] 56)):=(Below.refl _ _).alloc (Nat.le_refl _) _
 have ht:=tell73_idle _ p (.func (Fn.func 280) #[] #[.pointer (some ⟨w.heap.size,0,none⟩)]) (h.below hb)
 have HT:=Lib.hid ht
 have HB:=Lib.hid hb
 clear ht hb h
 go_enter Tryz.func251,Tryz.ntmps251
 go_wp2_with fail
 refine HT.out.mono ?_
 rintro e w1 ⟨rfl,hb1⟩
 have HB1:=Lib.hid hb1
 clear hb1
 go_wp2_with fail
 go_ret
 exact ⟨rfl,HB.out.trans (HB1.out.mono HB.out.size)⟩
set_option maxRecDepth 100000 in
theorem ask54_idle (w:World) (p:Option Addr) (h:Idle w p):Calls Tryz.prog 224 #[.pointer p] w fun e w'=>e=.returned (.int .i64 0)∧Below w.heap.size w w':=by
 have hmf:∀ (fn:Fn) (first cap:Array Value) (w:World),(Instr.makeFunc fn first cap).run Tryz.prog w=.ok (.func fn first cap) w:=fun _ _ _ _=>rfl
 have hb:Below w.heap.size w (w.alloc (.cells #[.pointer p] 56)):=(Below.refl _ _).alloc (Nat.le_refl _) _
 have ht:=tell73_idle _ p (.func (Fn.func 272) #[] #[.pointer (some ⟨w.heap.size,0,none⟩)]) (h.below hb)
 have HT:=Lib.hid ht
 have HB:=Lib.hid hb
 clear ht hb h
 go_enter Tryz.func224,Tryz.ntmps224
 go_wp2_with fail
 refine HT.out.mono ?_
 rintro e w1 ⟨rfl,hb1⟩
 have HB1:=Lib.hid hb1
 clear hb1
 go_wp2_with fail
 go_ret
 exact ⟨rfl,HB.out.trans (HB1.out.mono HB.out.size)⟩
set_option maxRecDepth 100000 in
theorem ask55_idle (w:World) (p:Option Addr) (h:Idle w p):Calls Tryz.prog 256 #[.pointer p] w fun e w'=>e=.returned (.int .u64 0)∧Below w.heap.size w w':=by
 have hmf:∀ (fn:Fn) (first cap:Array Value) (w:World),(Instr.makeFunc fn first cap).run Tryz.prog w=.ok (.func fn first cap) w:=fun _ _ _ _=>rfl
 have hb:Below w.heap.size w (w.alloc (.cells #[.pointer p] 56)):=(Below.refl _ _).alloc (Nat.le_refl _) _
 have ht:=tell91_idle _ p (.func (Fn.func 284) #[] #[.pointer (some ⟨w.heap.size,0,none⟩)]) (h.below hb)
 have HT:=Lib.hid ht
 have HB:=Lib.hid hb
 clear ht hb h
 go_enter Tryz.func256,Tryz.ntmps256
 go_wp2_with fail
 refine HT.out.mono ?_
 rintro e w1 ⟨rfl,hb1⟩
 have HB1:=Lib.hid hb1
 clear hb1
 go_wp2_with fail
 go_ret
 exact ⟨rfl,HB.out.trans (HB1.out.mono HB.out.size)⟩
set_option maxRecDepth 100000 in
theorem ask56_idle (w:World) (p:Option Addr) (h:Idle w p):Calls Tryz.prog 221 #[.pointer p] w fun e w'=>e=.returned (.int .i64 0)∧Below w.heap.size w w':=by
 have hmf:∀ (fn:Fn) (first cap:Array Value) (w:World),(Instr.makeFunc fn first cap).run Tryz.prog w=.ok (.func fn first cap) w:=fun _ _ _ _=>rfl
 have hb:Below w.heap.size w (w.alloc (.cells #[.pointer p] 56)):=(Below.refl _ _).alloc (Nat.le_refl _) _
 have ht:=tell93_idle _ p (.func (Fn.func 271) #[] #[.pointer (some ⟨w.heap.size,0,none⟩)]) (h.below hb)
 have HT:=Lib.hid ht
 have HB:=Lib.hid hb
 clear ht hb h
 go_enter Tryz.func221,Tryz.ntmps221
 go_wp2_with fail
 refine HT.out.mono ?_
 rintro e w1 ⟨rfl,hb1⟩
 have HB1:=Lib.hid hb1
 clear hb1
 go_wp2_with fail
 go_ret
 exact ⟨rfl,HB.out.trans (HB1.out.mono HB.out.size)⟩
set_option maxRecDepth 100000 in
theorem ask33_idle (w:World) (p:Option Addr) (h:Idle w p):Calls Tryz.prog 273 #[.pointer p] w fun e w'=>e=.returned (.bool false)∧Below w.heap.size w w':=by
 have hmf:∀ (fn:Fn) (first cap:Array Value) (w:World),(Instr.makeFunc fn first cap).run Tryz.prog w=.ok (.func fn first cap) w:=fun _ _ _ _=>rfl
 have hb:Below w.heap.size w (w.alloc (.cells #[.pointer p] 56)):=(Below.refl _ _).alloc (Nat.le_refl _) _
 have ht:=tell85_idle _ p (.func (Fn.func 292) #[] #[.pointer (some ⟨w.heap.size,0,none⟩)]) (h.below hb)
 have HT:=Lib.hid ht
 have HB:=Lib.hid hb
 clear ht hb h
 go_enter Tryz.func273,Tryz.ntmps273
 go_wp2_with fail
 refine HT.out.mono ?_
 rintro e w1 ⟨rfl,hb1⟩
 have HB1:=Lib.hid hb1
 clear hb1
 go_wp2_with fail
 go_ret
 exact ⟨rfl,HB.out.trans (HB1.out.mono HB.out.size)⟩
set_option maxRecDepth 100000 in
theorem ask31_idle (w:World) (p:Option Addr) (m:Int) (h:Idle w p):Calls Tryz.prog 217 #[.pointer p,.int .i64 m] w fun e w'=>e=.returned (.int .i64 0)∧Below w.heap.size w w':=by
 have hmf:∀ (fn:Fn) (first cap:Array Value) (w:World),(Instr.makeFunc fn first cap).run Tryz.prog w=.ok (.func fn first cap) w:=fun _ _ _ _=>rfl
 have hb:Below w.heap.size w ((w.alloc (.cells #[.pointer p] 56)).alloc (.cells #[.int .i64 m] 3)):=((Below.refl _ _).alloc (Nat.le_refl _) _).alloc (by simp) _
 have ht:=tell73_idle _ p (.func (Fn.func 268) #[] #[.pointer (some ⟨w.heap.size,0,none⟩),.pointer (some ⟨w.heap.size+1,0,none⟩)]) (h.below hb)
 have HT:=Lib.hid ht
 have HB:=Lib.hid hb
 clear ht hb h
 go_enter Tryz.func217,Tryz.ntmps217
 go_wp2_with fail
 refine HT.out.mono ?_
 rintro e w1 ⟨rfl,hb1⟩
 have HB1:=Lib.hid hb1
 clear hb1
 go_wp2_with fail
 go_ret
 exact ⟨rfl,HB.out.trans (HB1.out.mono HB.out.size)⟩
set_option maxRecDepth 100000 in
theorem ask32_idle (w:World) (p:Option Addr) (m:Int) (h:Idle w p):Calls Tryz.prog 254 #[.pointer p,.int .i64 m] w fun e w'=>e=.returned (.string ⟨#[]⟩)∧Below w.heap.size w w':=by
 have hmf:∀ (fn:Fn) (first cap:Array Value) (w:World),(Instr.makeFunc fn first cap).run Tryz.prog w=.ok (.func fn first cap) w:=fun _ _ _ _=>rfl
 have hb:Below w.heap.size w ((w.alloc (.cells #[.pointer p] 56)).alloc (.cells #[.int .i64 m] 3)):=((Below.refl _ _).alloc (Nat.le_refl _) _).alloc (by simp) _
 have ht:=tell83_idle _ p (.func (Fn.func 282) #[] #[.pointer (some ⟨w.heap.size,0,none⟩),.pointer (some ⟨w.heap.size+1,0,none⟩)]) (h.below hb)
 have HT:=Lib.hid ht
 have HB:=Lib.hid hb
 clear ht hb h
 go_enter Tryz.func254,Tryz.ntmps254
 go_wp2_with fail
 refine HT.out.mono ?_
 rintro e w1 ⟨rfl,hb1⟩
 have HB1:=Lib.hid hb1
 clear hb1
 go_wp2_with fail
 go_ret
 exact ⟨rfl,HB.out.trans (HB1.out.mono HB.out.size)⟩
set_option maxRecDepth 100000 in
theorem left_idle (w:World) (p:Option Addr) (h:Idle w p):Calls Tryz.prog 28 #[.pointer p] w fun e w'=>e=.returned (.int .i64 0)∧w=w':=by
 have ht:=tells_idle w p h
 go_enter Tryz.func28,Tryz.ntmps28
 go_wp2_with fail
 refine ht.mono ?_
 rintro e w1 ⟨rfl,rfl⟩
 clear ht
 go_wp2_with fail
 go_ret
 exact ⟨rfl,rfl⟩
set_option maxRecDepth 100000 in
theorem rspoil_idle (w:World) (p:Option Addr) (h:Idle w p):Calls Tryz.prog 197 #[.pointer p] w fun e w'=>e=.returned (.tuple #[])∧w=w':=by
 have ht:=tells_idle w p h
 go_enter Tryz.func197,Tryz.ntmps197
 go_wp2_with fail
 refine ht.mono ?_
 rintro e w1 ⟨rfl,rfl⟩
 clear ht
 go_wp2_with fail
 go_end0
 exact ⟨rfl,rfl⟩
def Nobody (w:World) (p:Option Addr):Prop:=p=none ∨ ∃ g,p=some ⟨g,0,none⟩∧g < w.heap.size∧w.cell? ⟨g,0,none⟩=some (.pointer none)
theorem Nobody.idle {w:World} {p:Option Addr} (h:Nobody w p):Idle w p:=by
 rcases h with h | ⟨g,h1,h2,h3⟩
 ·
  exact .inl h
 ·
  exact .inr ⟨g,h1,h2,.inl h3⟩
theorem Nobody.below {w w':World} {p:Option Addr} (h:Nobody w p) (hb:Below w.heap.size w w'):Nobody w' p:=by
 rcases h with h | ⟨g,h1,h2,h3⟩
 ·
  exact .inl h
 ·
  exact .inr ⟨g,h1,Nat.lt_of_lt_of_le h2 hb.size,(hb.cell (p:=⟨g,0,none⟩) h2).trans h3⟩
end Go.Proofs.YtilbbemdinpjcaaGreat.W
namespace Go.Proofs.YtilbbemdinpjcaaGreat.W
open Go.RowKit
structure PutC (cs:Array Value):Prop where
 size:cs.size=37
 what:∃ n:Int,cs[0]? = some (.int .i64 n)
 num:∃ n:Int,cs[1]? = some (.int .i64 n)
 wide:∃ n:Int,cs[2]? = some (.int .u64 n)
 raw:∃ a l c,cs[35]? = some (.slice a l c)
 text:∃ s,cs[36]? = some (.string s)
end Go.Proofs.YtilbbemdinpjcaaGreat.W
namespace Go.Proofs.YtilbbemdinpjcaaGreat.W
open Go.RowKit
structure PutV (cs:Array Value) (n0 n1:Int) (n2:Nat) (hs:List UInt8) (bv:Value) (s:ByteArray):Prop where
 size:cs.size=37
 what:cs[0]? = some (.int .i64 n0)
 num:cs[1]? = some (.int .i64 n1)
 wide:cs[2]? = some (.int .u64 n2)
 wlt:n2 < 18446744073709551616
 hash:(cs.toList.drop 3).take 32=(B8 hs).toList
 hlen:hs.length=32
 raw:cs[35]? = some bv
 text:cs[36]? = some (.string s)
 slen:s.size < 9223372036854775808
def stepText (st:Option (List UInt8)) (s:ByteArray):Option (List UInt8):=if s.size < 65536 then stepB st (beN s.size 2 ++ s.data.toList) else none
theorem text_of (w:World) (B g:Nat) (v:Value) (st:Option (List UInt8)) (s:ByteArray) (h:WSt w B g v st) (hB:B≤w.heap.size) (hx:∀ l,st=some l→l.length≤900000) (hs2:s.size < 9223372036854775808) :
  Calls Tryz.prog 237 #[.pointer (some ⟨g,0,none⟩),.string s] w fun e w'=>e=.returned (.tuple #[])∧MoreO w B g v (stepText st s) w':=text_st w B g v st s h hB hx hs2
def low64 (n:Int):Nat:=(n % 18446744073709551616).toNat
theorem low64_eq (n:Int):((low64 n:Nat):Int)=n % 18446744073709551616:=by unfold low64;omega
theorem Src.below {w w':World} {g off:Nat} {xs:List UInt8} (h:Src w g off xs) (hb:Below w.heap.size w w') (hg:g < w.heap.size):Src w' g off xs:=fun j hj=>(hb.cell (p:=⟨g,off+j,none⟩) hg).trans (h j hj)
theorem RawIn.below {w w':World} {bv:Value} {xs:List UInt8} (h:RawIn w bv xs) (hb:Below w.heap.size w w'):RawIn w' bv xs:=by
 rcases h with h | ⟨ad,c,rfl,hs⟩
 ·
  exact .inl h
 ·
  exact .inr ⟨ad,c,rfl,hs.below hb hs.lt⟩
end Go.Proofs.YtilbbemdinpjcaaGreat.W
namespace Go.Proofs.YtilbbemdinpjcaaGreat.W
open Go.RowKit
def RfV (w:World) (B g:Nat) (v:Value) (l:List UInt8):Prop :=
 Lies w g #[v,.bool false] 76∧w.ownsRow B 5 1 v l.length (B8 l).toList∧v.ownBlock≠some g∧B≤g
def RMore (w:World) (B g:Nat) (v:Value) (l:List UInt8) (w':World):Prop :=
 ∃ v',RfV w' B g v' l∧Only g w w' v.ownBlock∧(v'.ownBlock=v.ownBlock ∨ ∃ k,v'.ownBlock=some k∧w.heap.size≤k∧k < w'.heap.size)
theorem RMore.trans {w w1 w2:World} {B g:Nat} {v v1:Value} {l:List UInt8} (h1:Only g w w1 v.ownBlock) (hat:v1.ownBlock=v.ownBlock ∨ ∃ k,v1.ownBlock=some k∧w.heap.size≤k∧k < w1.heap.size) (k:RMore w1 B g v1 l w2):RMore w B g v l w2:=by
 obtain ⟨v2,a,b,c⟩:=k
 refine ⟨v2,a,h1.trans b (hat.imp id fun ⟨k,e,h,_⟩=>⟨k,e,h⟩),?_⟩
 rcases c with e | ⟨x,e,hx⟩
 ·
  exact hat.imp (fun h=>e.trans h) (fun ⟨k,hk,h2,h3⟩=>⟨k,e.trans hk,h2,Nat.lt_of_lt_of_le h3 b.size⟩)
 ·
  exact .inr ⟨x,e,Nat.le_trans h1.size hx.1,hx.2⟩
end Go.Proofs.YtilbbemdinpjcaaGreat.W
namespace Go.Proofs.YtilbbemdinpjcaaGreat.W
open Go.RowKit
def RfS (w:World) (B g:Nat) (v:Value):Option (List UInt8)→Prop
 | some l=>RfV w B g v l
 | none=>Lies w g #[v,.bool true] 76∧v.ownBlock≠some g∧B≤g
def RMoreO (w:World) (B g:Nat) (v:Value) (st:Option (List UInt8)) (w':World):Prop :=
 ∃ v',RfS w' B g v' st∧Only g w w' v.ownBlock∧(v'.ownBlock=v.ownBlock ∨ ∃ k,v'.ownBlock=some k∧w.heap.size≤k∧k < w'.heap.size)
theorem RMoreO.same {w:World} {B g:Nat} {v:Value} {st:Option (List UInt8)} (h:RfS w B g v st):RMoreO w B g v st w:=⟨v,h,Only.refl g w _,.inl rfl⟩
theorem RfS.bad {w:World} {B g:Nat} {v:Value} {st:Option (List UInt8)} (h:RfS w B g v st):RfS (w.setCell ⟨g,1,none⟩ (.bool true)) B g v none:=by
 cases st with
 | none=>exact ⟨h.1.set 1 _,h.2.1,h.2.2⟩
 | some l=>exact ⟨h.1.set 1 _,h.2.2.1,h.2.2.2⟩
theorem RMoreO.bad {w:World} {B g:Nat} {v:Value} {st:Option (List UInt8)} (h:RfS w B g v st):RMoreO w B g v none (w.setCell ⟨g,1,none⟩ (.bool true)):=⟨v,h.bad,(only_set g 1 w _).weak _,.inl rfl⟩
theorem RfS.cell1 {w:World} {B g:Nat} {v:Value} {st:Option (List UInt8)} (h:RfS w B g v st):w.cell? ⟨g,1,none⟩=some (.bool st.isNone):=by
 cases st with
 | none=>exact h.1.cell 1 rfl
 | some l=>exact h.1.cell 1 rfl
end Go.Proofs.YtilbbemdinpjcaaGreat.W
namespace Go.Proofs.YtilbbemdinpjcaaGreat.W
open Go.RowKit
theorem RfV.below {w w':World} {B g:Nat} {v:Value} {l:List UInt8} (h:RfV w B g v l) (hb:Below w.heap.size w w'):RfV w' B g v l :=
 ⟨h.1.below hb h.1.lt,own_kept h.2.1 (grown_below hb none) (fun _ _=>by simp),h.2.2.1,h.2.2.2⟩
theorem RfS.below {w w':World} {B g:Nat} {v:Value} {st:Option (List UInt8)} (h:RfS w B g v st) (hb:Below w.heap.size w w'):RfS w' B g v st:=by
 cases st with
 | none=>exact ⟨h.1.below hb h.1.lt,h.2⟩
 | some l=>exact RfV.below h hb
theorem RMoreO.after {w w1 w2:World} {B g:Nat} {v:Value} {st:Option (List UInt8)} (hb:Below w.heap.size w w1) (h:RMoreO w1 B g v st w2):RMoreO w B g v st w2:=by
 obtain ⟨v',h1,h2,h3⟩:=h
 refine ⟨v',h1,Only.trans ((only_below hb).weak _) h2 (.inl rfl),?_⟩
 rcases h3 with h3 | ⟨k,h3,h4⟩
 ·
  exact .inl h3
 ·
  exact .inr ⟨k,h3,Nat.le_trans hb.size h4.1,h4.2⟩
theorem RMoreO.trans {w w1 w2:World} {B g:Nat} {v v1:Value} {st:Option (List UInt8)} (ho:Only g w w1 v.ownBlock) (hat:v1.ownBlock=v.ownBlock ∨ ∃ k,v1.ownBlock=some k∧w.heap.size≤k∧k < w1.heap.size) (h:RMoreO w1 B g v1 st w2):RMoreO w B g v st w2:=by
 obtain ⟨v',h1,h2,h3⟩:=h
 refine ⟨v',h1,Only.trans ho h2 (hat.imp id fun ⟨k,e,h,_⟩=>⟨k,e,h⟩),?_⟩
 rcases h3 with h3 | ⟨k,h3,h4⟩
 ·
  exact hat.imp (fun h=>h3.trans h) (fun ⟨k,hk,h4,h5⟩=>⟨k,h3.trans hk,h4,Nat.lt_of_lt_of_le h5 h2.size⟩)
 ·
  exact .inr ⟨k,h3,Nat.le_trans ho.size h4.1,h4.2⟩
theorem RMoreO.again {w:World} {B g:Nat} {v:Value} {l:List UInt8} (h:RfV w B g v l):RMoreO w B g v (some l) (w.setCell ⟨g,0,none⟩ v):=by
 refine ⟨v,⟨?_,own_set h.2.1 h.2.2.1,h.2.2.1,h.2.2.2⟩,(only_set g 0 w v).weak _,.inl rfl⟩
 have:=h.1.set 0 v
 exact this
end Go.Proofs.YtilbbemdinpjcaaGreat.W
namespace Go.Proofs.YtilbbemdinpjcaaGreat.W
open Go.RowKit
end Go.Proofs.YtilbbemdinpjcaaGreat.W
namespace Go.Proofs.YtilbbemdinpjcaaGreat.W
open Go.RowKit
theorem str_of_src {W:World} {k off c:Nat} {l:List UInt8} (h:Src W k off l):(convert 54 9 (.slice (some ⟨k,off,none⟩) l.length c)).run Tryz.prog W=.ok (.string ⟨l.toArray⟩) W :=
 run_convert_bytes_back W 54 9 5 ⟨k,off,none⟩ c l Tryz.underlying54 Tryz.underlying5 Tryz.underlying9 (fun j hj=>by
  rw [Addr.add_mid,h j hj]
  simp [hj])
theorem str_none (w:World) (k off c:Nat):(convert 54 9 (.slice (some ⟨k,off,none⟩) 0 c)).run Tryz.prog w=.ok (.string ⟨#[]⟩) w :=
 str_of_src (l:=[]) (fun j hj=>absurd hj (by simp))
set_option maxRecDepth 100000 in
theorem text1_some (W:World) (p q g k:Nat) (xs:List UInt8) (c a:Nat) (m:Int) (n:Nat) (ys:List UInt8) (hp:W.cell? ⟨p,0,none⟩=some (.pointer (some ⟨g,0,none⟩))) (hq:W.cell? ⟨q,0,none⟩=some (.int .i64 m)) (hpl:p < W.heap.size) (hql:q < W.heap.size) (hpg:p≠g) (hqg:q≠g) (h:Rdr W g k xs c a false)
  (hn:a+2+n≤xs.length) (h0:0 < n) (hv:beVal ((xs.drop a).take 2)=n) (hm:(n:Int)≤m) (hys:(xs.drop (a+2)).take n=ys) :
  Calls Tryz.prog 282 #[.pointer (some ⟨p,0,none⟩),.pointer (some ⟨q,0,none⟩)] W fun e W'=>e=.returned (.string ⟨ys.toArray⟩)∧Rdr W' g k xs c (a+2+n) false∧Only g W W' none:=by
 have hyl:ys.length=n:=by rw [← hys,List.length_take,List.length_drop];omega
 have hu:∀ V,Rdr V g k xs c a false→Calls Tryz.prog 269 #[.pointer (some ⟨g,0,none⟩),.int .i64 m,.int .i64 2] V fun e V'=>e=.returned (.int .i64 n)∧Rdr V' g k xs c (a+2) false∧Only g V V' none:=fun V hV=>by
  have:=upto_good V g k xs c a hV m 2 (by omega) (by omega) (by rw [hv];exact hm)
  rwa [hv] at this
 have hx:∀ V,Rdr V g k xs c (a+2) false→Calls Tryz.prog 276 #[.pointer (some ⟨g,0,none⟩),.int .i64 n] V fun e V'=>e=.returned (.slice (some ⟨k,a+2,none⟩) n (c - (a+2)))∧Rdr V' g k xs c (a+2+n) false∧Only g V V' none:=fun V hV=>next_at V g k xs c (a+2) hV n hn h0
 have hts:∀ V,V.cell? ⟨p,0,none⟩=some (.pointer (some ⟨g,0,none⟩))→V.cell? ⟨q,0,none⟩=some (.int .i64 m)→Src V k 0 xs →
   V.cell? ⟨p,0,none⟩=some (.pointer (some ⟨g,0,none⟩))∧V.cell? ⟨q,0,none⟩=some (.int .i64 m)∧(convert 54 9 (.slice (some ⟨k,a+2,none⟩) n (c - (a+2)))).run Tryz.prog V=.ok (.string ⟨ys.toArray⟩) V:=fun V h1 h2 hs=>⟨h1,h2,by
  have:=str_of_src (c:=c - (a+2)) (part_src hs (a+2) n)
  rwa [hys,hyl] at this⟩
 have HU:=Lib.hid hu
 have HX:=Lib.hid hx
 have HT:=Lib.hid hts
 have hbd:Below W.heap.size W W.drew:=(Below.refl _ _).drew
 have hd:=h.below hbd
 have HBD:=Lib.hid hbd
 have HR:=Lib.hid hd
 have hsw:Src W k 0 xs:=h.2.1
 clear hu hx hts hv hm hys hyl hd hbd h
 go_enter Tryz.func282,Tryz.ntmps282
 go_wp2_with fail
 go_region_held3 (fun w'=>w'.cell? ⟨p,0,none⟩=some (.pointer (some ⟨g,0,none⟩))∧w'.cell? ⟨q,0,none⟩=some (.int .i64 m)∧(convert 54 9 (.slice (some ⟨k,a+2,none⟩) n (c - (a+2)))).run Tryz.prog w'=.ok (.string ⟨ys.toArray⟩) w') (exact HT.out _ (by assumption) (by assumption) (by assumption)) (first
  | ((with_reducible refine (HU.out _ HR.out).mono ?_);rintro e w1 ⟨rfl,hr1,ho1⟩;have g1:=(ho1.cell (o:=0) hpl hpg).trans hp;have g2:=(ho1.cell (o:=0) hql hqg).trans hq;have g3:=hr1.2.1)
  | ((with_reducible refine (HX.out _ hr1).mono ?_);rintro e w2 ⟨rfl,hr2,ho2⟩;have k1:=(ho2.cell (o:=0) (Nat.lt_of_lt_of_le hpl ho1.size) hpg).trans g1;have k2:=(ho2.cell (o:=0) (Nat.lt_of_lt_of_le hql ho1.size) hqg).trans g2;have k3:=hr2.2.1))
 all_goals
  go_wp2_with fail
  go_ret
  exact ⟨rfl,hr2,((only_below HBD.out).trans0 ho1).trans0 ho2⟩
set_option maxRecDepth 100000 in
theorem rtext_some (w:World) (g k:Nat) (xs:List UInt8) (c a:Nat) (m:Int) (n:Nat) (ys:List UInt8) (h:Rdr w g k xs c a false)
 (hn:a+2+n≤xs.length) (h0:0 < n) (hv:beVal ((xs.drop a).take 2)=n) (hm:(n:Int)≤m) (hys:(xs.drop (a+2)).take n=ys) :
 Calls Tryz.prog 254 #[.pointer (some ⟨g,0,none⟩),.int .i64 m] w fun e w'=>e=.returned (.string ⟨ys.toArray⟩)∧Rdr w' g k xs c (a+2+n) false∧Only g w w' none:=by
 have hmf:∀ (fn:Fn) (first cap:Array Value) (w:World),(Instr.makeFunc fn first cap).run Tryz.prog w=.ok (.func fn first cap) w:=fun _ _ _ _=>rfl
 have hgl:=h.1.lt
 obtain ⟨hr,hb⟩:=rdr_pair h (.pointer (some ⟨g,0,none⟩)) (.int .i64 m) 56 3
 have ht:=tell83_met _ g k xs c a (a+2+n) (.string ⟨ys.toArray⟩) 282 #[.pointer (some ⟨w.heap.size,0,none⟩),.pointer (some ⟨w.heap.size+1,0,none⟩)] hr (callK 282 Tryz.f282 Tryz.func282 (by kernel_rfl) (by kernel_rfl) _)
  (fun W hW hR=>text1_some W w.heap.size (w.heap.size+1) g k xs c a m n ys (by rw [hW.cell (p:=⟨w.heap.size,0,none⟩) (by simp;omega)];simp [go_sem]) (by rw [hW.cell (p:=⟨w.heap.size+1,0,none⟩) (by simp)];simp [go_sem])
    (by have:=hW.size;simp at this;omega) (by have:=hW.size;simp at this;omega) (by omega) (by omega) hR hn h0 hv hm hys)
 have HT:=Lib.hid ht
 have HB:=Lib.hid hb
 clear ht hb hr h hv hm hys
 go_enter Tryz.func254,Tryz.ntmps254
 go_wp2_with fail
 refine HT.out.mono ?_
 rintro e w1 ⟨rfl,hr,ho⟩
 have HR:=Lib.hid (And.intro hr ((only_below HB.out).trans0 ho))
 clear hr ho
 go_wp2_with fail
 go_ret
 exact ⟨rfl,HR.out⟩
end Go.Proofs.YtilbbemdinpjcaaGreat.W
namespace Go.Proofs.YtilbbemdinpjcaaGreat.W
open Go.RowKit
theorem Only.below {w0:World} {g:Nat} {w w':World} {o:Option Nat} (h:Only g w w' o) (hb:Below w0.heap.size w0 w) (hg:w0.heap.size≤g) (ho:∀ x,o=some x→w0.heap.size≤x):Below w0.heap.size w0 w' :=
 ⟨h.os.trans hb.os,h.tape.trans hb.tape,h.output.trans hb.output,Nat.le_trans hb.size h.size,fun k hk=>(h.block k (Nat.lt_of_lt_of_le hk hb.size) (by omega) (fun e=>by have:=ho k e.symm;omega)).trans (hb.block k hk)⟩
theorem WrV.block {w:World} {B g:Nat} {v:Value} {l:List UInt8} (h:WrV w B g v l):∀ x,v.ownBlock=some x→B≤x:=by
 intro x hx
 rcases h.2.1.2 with ⟨rfl,_⟩ | ⟨g2,cap,cur,rfl,h2,_⟩
 ·
  cases hx
 ·
  have:g2=x:=by simpa [Value.ownBlock] using hx
  omega
theorem Wr.wrv {w:World} {B g:Nat} {l:List UInt8} (h:Wr w B g l):∃ v,WrV w B g v l:=by
 obtain ⟨v,h1,h2,h3,h4⟩:=h
 exact ⟨v,h1,h2,h3,h4⟩
theorem Rdr.only {w w':World} {g k g':Nat} {xs:List UInt8} {c a:Nat} {sp:Bool} (h:Rdr w g k xs c a sp) (ho:Only g' w w' none) (hg:g≠g') (hk:k≠g'):Rdr w' g k xs c a sp :=
 ⟨(ho.block g h.1.lt hg (by simp)).trans h.1,h.2.1.only ho h.2.2.2.1 hk,h.2.2.1,Nat.lt_of_lt_of_le h.2.2.2.1 ho.size,h.2.2.2.2⟩
def exB:List UInt8:=[1,2,0,2,97,98,1]
end Go.Proofs.YtilbbemdinpjcaaGreat.W
namespace Go.Proofs.YtilbbemdinpjcaaGreat.W
open Go.RowKit
end Go.Proofs.YtilbbemdinpjcaaGreat.W
