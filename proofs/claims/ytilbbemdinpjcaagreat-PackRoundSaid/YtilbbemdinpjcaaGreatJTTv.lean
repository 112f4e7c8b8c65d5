/-
  rise (106): the keys of a map rise.
-/
import Derived.Test.YtilbbemdinpjcaaGreatJTTs
import Derived.Laws.StructEq
set_option maxHeartbeats 16000000
namespace Go.Proofs.YtilbbemdinpjcaaGreat.T
open Go.RowKit
theorem guard32:Tryz.prog.eqGuardType Tryz.prog.depth 72=false:=by kernel_rfl
theorem stood32:Tryz.prog.stoodInHeld 72=false:=by kernel_rfl
def justB (x h:Nd):Bool:=h.num == x.num && (h.bits == x.bits && (h.txt.toList == x.txt.toList && h.kids == x.kids))
set_option maxRecDepth 100000 in
theorem eq_nodes (W:World) (k:Int) (n1 n2:Int) (b1 b2:Nat) (t1 t2:ByteArray) (d1 d2:Int) :
  (binOp .eql 72 (.agg #[.int .i64 k,.int .i64 n2,.int .u64 b2,.string t2,.int .i64 d2]) (.agg #[.int .i64 k,.int .i64 n1,.int .u64 b1,.string t1,.int .i64 d1])).run Tryz.prog W=.ok (.bool (justB ⟨k,n1,b1,t1,d1⟩ ⟨k,n2,b2,t2,d2⟩)) W:=by
 have h2:=stood32
 rw [run_eql_struct,run_equalIn_agg W 9999 72 _ _ (by kernel_rfl) h2]
 unfold justB
 simp only
 by_cases e1:n2=n1
 ·
  by_cases e2:b2=b1
  ·
   by_cases e3:t2.toList=t1.toList
   ·
    by_cases e4:d2=d1 <;> simp [go_sem,e1,e2,e3,e4]
   ·
    simp [go_sem,e1,e2,e3]
  ·
   have e2':¬ (b2:Int)=(b1:Int):=by omega
   simp [go_sem,e1,e2,e2']
 ·
  simp [go_sem,e1]
set_option maxRecDepth 100000 in
theorem just_any (w:World) (p g off n nc gE gD i:Nat) (xs:List Nd) (h:Nd) (hl:Lies w p (layV (some ⟨g,off,none⟩) n nc gE gD) 279) (hx:NAt w g off xs) (hn:n=xs.length) (hi:i < xs.length) :
  Calls Tryz.prog 294 #[.int .i64 i,.agg h.cells,.pointer (some ⟨p,0,none⟩)] w fun e w'=>e=.returned (.bool (justB xs[i] h))∧Below w.heap.size w w':=by
 obtain ⟨x,ex⟩:∃ x,x=xs[i]:=⟨_,rfl⟩
 rw [← ex]
 have hxc:=hx.2 i hi
 rw [← ex] at hxc
 obtain ⟨k2,n2,b2,t2,d2⟩:=h
 obtain ⟨k1,n1,b1,t1,d1⟩:=x
 have hA:Lies (w.alloc (.cells #[.int .i64 k2,.int .i64 n2,.int .u64 b2,.string t2,.int .i64 d2] 72)) w.heap.size #[.int .i64 k2,.int .i64 n2,.int .u64 b2,.string t2,.int .i64 d2] 72:=Lies.new _ _ _
 have hb0:Below w.heap.size w (w.alloc (.cells #[.int .i64 k2,.int .i64 n2,.int .u64 b2,.string t2,.int .i64 d2] 72)):=(Below.refl _ _).alloc (Nat.le_refl _) _
 have q0:(0:Int)≤(i:Int):=by omega
 have q1:(i:Int) < (n:Int):=by omega
 have z1:w.heap.size≠p:=Nat.ne_of_gt hl.lt
 have z2:w.heap.size≠g:=Nat.ne_of_gt hx.1
 have hl2:=hl.below hb0 hl.lt
 have hx2:∀ j v,(Nd.cells ⟨k1,n1,b1,t1,d1⟩)[j]? = some v→(w.alloc (.cells #[.int .i64 k2,.int .i64 n2,.int .u64 b2,.string t2,.int .i64 d2] 72)).cell? ⟨g,off+i * 5+j,none⟩=some v:=fun j v hv=>(hb0.cell (p:=⟨g,off+i * 5+j,none⟩) hx.1).trans (hxc j v hv)
 clear hl hx hn hi ex hxc
 unfold Nd.cells
 go_enter Tryz.func294,Tryz.ntmps294
 go_upto_region 1 with fail
 generalize w.alloc (.cells #[.int .i64 k2,.int .i64 n2,.int .u64 b2,.string t2,.int .i64 d2] 72)=W0 at hA hb0 hl2 hx2 ⊢
 have c0:=hl2.cell 0 (v:=.slice (some ⟨g,off,none⟩) n nc) rfl
 have x0:W0.cell? ⟨g,off+i * 5,none⟩=some (.int .i64 k1):=hx2 0 _ rfl
 have x1:W0.cell? ⟨g,off+i * 5+1,none⟩=some (.int .i64 n1):=hx2 1 _ rfl
 have x2:W0.cell? ⟨g,off+i * 5+2,none⟩=some (.int .u64 b1):=hx2 2 _ rfl
 have x3:W0.cell? ⟨g,off+i * 5+3,none⟩=some (.string t1):=hx2 3 _ rfl
 have x4:W0.cell? ⟨g,off+i * 5+4,none⟩=some (.int .i64 d1):=hx2 4 _ rfl
 have y0:=hA.cell 0 (v:=.int .i64 k2) rfl
 have hf:=hA.free 0
 have y1:=hA.cell 1 (v:=.int .i64 n2) rfl
 have y2:=hA.cell 2 (v:=.int .u64 b2) rfl
 have y3:=hA.cell 3 (v:=.string t2) rfl
 have y4:=hA.cell 4 (v:=.int .i64 d2) rfl
 have HX:=Lib.hid (And.intro hA hb0)
 clear hA hb0 hl2 hx2
 go_upto_region 2 with fail
 have hg:=guard32
 have hqq:=fun W=>eq_nodes W k1 n1 n2 b1 b2 t1 t2 d1 d2
 go_region
 go_wp2_with fail
 go_ret
 exact ⟨rfl,(HX.out.2.setCell (p:=⟨w.heap.size,0,none⟩) (Nat.le_refl _) _).drew⟩
structure KW (w:World) (p q g off n nc gE gD:Nat) (xs:List Nd):Prop where
 lay:Lies w p (layV (some ⟨g,off,none⟩) n nc gE gD) 279
 just:Lies w q #[.func (Fn.func 294) #[] #[.pointer (some ⟨p,0,none⟩)]] 296
 at_:NAt w g off xs
 len:n=xs.length
theorem KW.below {w w':World} {p q g off n nc gE gD:Nat} {xs:List Nd} (h:KW w p q g off n nc gE gD xs) (hb:Below w.heap.size w w'):KW w' p q g off n nc gE gD xs :=
 ⟨h.lay.below hb h.lay.lt,h.just.below hb h.just.lt,h.at_.below hb h.at_.1,h.len⟩
set_option maxRecDepth 100000 in
theorem kindInt_any (w:World) (p q g off n nc gE gD i:Nat) (xs:List Nd) (h:KW w p q g off n nc gE gD xs) (hi:i < xs.length) :
  Calls Tryz.prog 295 #[.int .i64 i,.pointer (some ⟨q,0,none⟩),.pointer (some ⟨p,0,none⟩)] w fun e w'=>e=.returned (.bool (justB xs[i] ⟨0,xs[i].num,0,⟨#[]⟩,0⟩))∧Below w.heap.size w w':=by
 obtain ⟨r,hr⟩:∃ r,r=justB xs[i] ⟨0,xs[i].num,0,⟨#[]⟩,0⟩:=⟨_,rfl⟩
 have hj:∀ V,Below w.heap.size w V→Calls Tryz.prog 294 #[.int .i64 i,.agg #[.int .i64 0,.int .i64 xs[i].num,.int .u64 0,.string ⟨#[]⟩,.int .i64 0],.pointer (some ⟨p,0,none⟩)] V fun e w'=>e=.returned (.bool r)∧Below w.heap.size w w':=fun V hV=>by
  rw [hr]
  exact (just_any V p g off n nc gE gD i xs ⟨0,xs[i].num,0,⟨#[]⟩,0⟩ (h.below hV).lay (h.below hV).at_ h.len hi).mono fun e w' h=>⟨h.1,hV.trans (h.2.mono hV.size)⟩
 rw [← hr]
 have hS:∀ V,Below w.heap.size w V→V.cell? ⟨p,0,none⟩=some (.slice (some ⟨g,off,none⟩) n nc)∧V.cell? ⟨q,0,none⟩=some (.func (Fn.func 294) #[] #[.pointer (some ⟨p,0,none⟩)])∧V.cell? ⟨g,off+i * 5+1,none⟩=some (.int .i64 xs[i].num):=fun V hV =>
  ⟨(h.below hV).lay.cell 0 rfl,(h.below hV).just.cell 0 rfl,(h.below hV).at_.2 i hi 1 _ rfl⟩
 have q0:(0:Int)≤(i:Int):=by omega
 have q1:(i:Int) < (n:Int):=by have:=h.len;omega
 obtain ⟨m,hm⟩:∃ m,m=xs[i].num:=⟨_,rfl⟩
 rw [← hm] at hj
 simp only [← hm] at hS
 obtain ⟨c0,k0,x1⟩:=hS w (Below.refl _ _)
 have HJ:=Lib.hid hj
 have HS:=Lib.hid hS
 have d0:Below w.heap.size w w.drew:=(Below.refl _ _).drew
 clear h hi hr hm hj hS
 go_enter Tryz.func295,Tryz.ntmps295
 go_upto_region 1 with fail
 go_region_held3 (fun V=>V.cell? ⟨p,0,none⟩=some (.slice (some ⟨g,off,none⟩) n nc)∧V.cell? ⟨q,0,none⟩=some (.func (Fn.func 294) #[] #[.pointer (some ⟨p,0,none⟩)])∧V.cell? ⟨g,off+i * 5+1,none⟩=some (.int .i64 m)) (first | go_keep | exact HS.out _ (by assumption)) (first | (with_reducible refine (HJ.out _ (by assumption)).mono ?_;rintro e w1 ⟨rfl,hb1⟩))
 go_wp2_with fail
 go_ret
 exact ⟨rfl,hb1⟩
set_option maxRecDepth 100000 in
theorem kindList_any (w:World) (p q g off n nc gE gD i:Nat) (xs:List Nd) (h:KW w p q g off n nc gE gD xs) (hi:i < xs.length) :
  Calls Tryz.prog 299 #[.int .i64 i,.pointer (some ⟨q,0,none⟩),.pointer (some ⟨p,0,none⟩)] w fun e w'=>e=.returned (.bool (justB xs[i] ⟨0,0,0,⟨#[]⟩,xs[i].kids⟩))∧Below w.heap.size w w':=by
 obtain ⟨r,hr⟩:∃ r,r=justB xs[i] ⟨0,0,0,⟨#[]⟩,xs[i].kids⟩:=⟨_,rfl⟩
 have hj:∀ V,Below w.heap.size w V→Calls Tryz.prog 294 #[.int .i64 i,.agg #[.int .i64 0,.int .i64 0,.int .u64 0,.string ⟨#[]⟩,.int .i64 xs[i].kids],.pointer (some ⟨p,0,none⟩)] V fun e w'=>e=.returned (.bool r)∧Below w.heap.size w w':=fun V hV=>by
  rw [hr]
  exact (just_any V p g off n nc gE gD i xs ⟨0,0,0,⟨#[]⟩,xs[i].kids⟩ (h.below hV).lay (h.below hV).at_ h.len hi).mono fun e w' h=>⟨h.1,hV.trans (h.2.mono hV.size)⟩
 rw [← hr]
 have hS:∀ V,Below w.heap.size w V→V.cell? ⟨p,0,none⟩=some (.slice (some ⟨g,off,none⟩) n nc)∧V.cell? ⟨q,0,none⟩=some (.func (Fn.func 294) #[] #[.pointer (some ⟨p,0,none⟩)])∧V.cell? ⟨g,off+i * 5+4,none⟩=some (.int .i64 xs[i].kids):=fun V hV =>
  ⟨(h.below hV).lay.cell 0 rfl,(h.below hV).just.cell 0 rfl,(h.below hV).at_.2 i hi 4 _ rfl⟩
 have q0:(0:Int)≤(i:Int):=by omega
 have q1:(i:Int) < (n:Int):=by have:=h.len;omega
 obtain ⟨m,hm⟩:∃ m,m=xs[i].kids:=⟨_,rfl⟩
 rw [← hm] at hj
 simp only [← hm] at hS
 obtain ⟨c0,k0,x1⟩:=hS w (Below.refl _ _)
 have HJ:=Lib.hid hj
 have HS:=Lib.hid hS
 have d0:Below w.heap.size w w.drew:=(Below.refl _ _).drew
 clear h hi hr hm hj hS
 go_enter Tryz.func299,Tryz.ntmps299
 go_upto_region 1 with fail
 go_region_held3 (fun V=>V.cell? ⟨p,0,none⟩=some (.slice (some ⟨g,off,none⟩) n nc)∧V.cell? ⟨q,0,none⟩=some (.func (Fn.func 294) #[] #[.pointer (some ⟨p,0,none⟩)])∧V.cell? ⟨g,off+i * 5+4,none⟩=some (.int .i64 m)) (first | go_keep | exact HS.out _ (by assumption)) (first | (with_reducible refine (HJ.out _ (by assumption)).mono ?_;rintro e w1 ⟨rfl,hb1⟩))
 go_wp2_with fail
 go_ret
 exact ⟨rfl,hb1⟩
set_option maxRecDepth 100000 in
theorem kindBytes_any (w:World) (p q g off n nc gE gD i:Nat) (xs:List Nd) (h:KW w p q g off n nc gE gD xs) (hi:i < xs.length) :
  Calls Tryz.prog 296 #[.int .i64 i,.pointer (some ⟨p,0,none⟩),.pointer (some ⟨q,0,none⟩)] w fun e w'=>e=.returned (.bool (decide (xs[i].txt.size≤200) && justB xs[i] ⟨0,0,0,xs[i].txt,0⟩))∧Below w.heap.size w w':=by
 obtain ⟨r,hr⟩:∃ r,r=justB xs[i] ⟨0,0,0,xs[i].txt,0⟩:=⟨_,rfl⟩
 have hj:∀ V,Below w.heap.size w V→Calls Tryz.prog 294 #[.int .i64 i,.agg #[.int .i64 0,.int .i64 0,.int .u64 0,.string xs[i].txt,.int .i64 0],.pointer (some ⟨p,0,none⟩)] V fun e w'=>e=.returned (.bool r)∧Below w.heap.size w w':=fun V hV=>by
  rw [hr]
  exact (just_any V p g off n nc gE gD i xs ⟨0,0,0,xs[i].txt,0⟩ (h.below hV).lay (h.below hV).at_ h.len hi).mono fun e w' h=>⟨h.1,hV.trans (h.2.mono hV.size)⟩
 rw [← hr]
 have hS:∀ V,Below w.heap.size w V→V.cell? ⟨p,0,none⟩=some (.slice (some ⟨g,off,none⟩) n nc)∧V.cell? ⟨q,0,none⟩=some (.func (Fn.func 294) #[] #[.pointer (some ⟨p,0,none⟩)])∧V.cell? ⟨g,off+i * 5+3,none⟩=some (.string xs[i].txt):=fun V hV =>
  ⟨(h.below hV).lay.cell 0 rfl,(h.below hV).just.cell 0 rfl,(h.below hV).at_.2 i hi 3 _ rfl⟩
 have q0:(0:Int)≤(i:Int):=by omega
 have q1:(i:Int) < (n:Int):=by have:=h.len;omega
 obtain ⟨m,hm⟩:∃ m,m=xs[i].txt:=⟨_,rfl⟩
 rw [← hm] at hj
 simp only [← hm] at hS
 rw [← hm]
 obtain ⟨c0,k0,x1⟩:=hS w (Below.refl _ _)
 have HJ:=Lib.hid hj
 have HS:=Lib.hid hS
 have d0:Below w.heap.size w w.drew:=(Below.refl _ _).drew
 clear h hi hr hm hj hS
 by_cases hz:m.size≤200
 ·
  have e1:decide (m.size≤200)=true:=decide_eq_true hz
  have e2:(m.size:Int)≤200:=by omega
  rw [e1,Bool.true_and]
  clear e1
  go_enter Tryz.func296,Tryz.ntmps296
  go_wp2_with fail
  refine (HJ.out _ (Below.refl _ _)).mono ?_
  rintro e w1 ⟨rfl,hb1⟩
  clear c0 k0 x1
  go_wp2_with fail
  go_ret
  exact ⟨rfl,hb1⟩
 ·
  have e1:decide (m.size≤200)=false:=decide_eq_false hz
  have e2:¬ (m.size:Int)≤200:=by omega
  rw [e1,Bool.false_and]
  clear e1
  go_enter Tryz.func296,Tryz.ntmps296
  go_wp2_with fail
  go_ret
  exact ⟨rfl,Below.refl _ _⟩
set_option maxRecDepth 100000 in
theorem kindReal_any (w:World) (p q g off n nc gE gD i:Nat) (xs:List Nd) (h:KW w p q g off n nc gE gD xs) (hi:i < xs.length) :
 Calls Tryz.prog 297 #[.int .i64 i,.pointer (some ⟨p,0,none⟩),.pointer (some ⟨q,0,none⟩)] w fun e w'=>e=.returned (.bool (decide (canonB xs[i].bits=xs[i].bits) && justB xs[i] ⟨0,0,xs[i].bits,⟨#[]⟩,0⟩))∧Below w.heap.size w w':=by
 obtain ⟨r,hr⟩:∃ r,r=justB xs[i] ⟨0,0,xs[i].bits,⟨#[]⟩,0⟩:=⟨_,rfl⟩
 have hj:∀ V,Below w.heap.size w V→Calls Tryz.prog 294 #[.int .i64 i,.agg #[.int .i64 0,.int .i64 0,.int .u64 xs[i].bits,.string ⟨#[]⟩,.int .i64 0],.pointer (some ⟨p,0,none⟩)] V fun e w'=>e=.returned (.bool r)∧Below w.heap.size w w':=fun V hV=>by
  rw [hr]
  exact (just_any V p g off n nc gE gD i xs ⟨0,0,xs[i].bits,⟨#[]⟩,0⟩ (h.below hV).lay (h.below hV).at_ h.len hi).mono fun e w' h=>⟨h.1,hV.trans (h.2.mono hV.size)⟩
 rw [← hr]
 have hS:∀ V,Below w.heap.size w V→V.cell? ⟨p,0,none⟩=some (.slice (some ⟨g,off,none⟩) n nc)∧V.cell? ⟨q,0,none⟩=some (.func (Fn.func 294) #[] #[.pointer (some ⟨p,0,none⟩)])∧V.cell? ⟨g,off+i * 5+2,none⟩=some (.int .u64 (xs[i].bits:Nat)):=fun V hV =>
  ⟨(h.below hV).lay.cell 0 rfl,(h.below hV).just.cell 0 rfl,(h.below hV).at_.2 i hi 2 _ rfl⟩
 have q0:(0:Int)≤(i:Int):=by omega
 have q1:(i:Int) < (n:Int):=by have:=h.len;omega
 obtain ⟨m,hm⟩:∃ m,m=xs[i].bits:=⟨_,rfl⟩
 rw [← hm] at hj
 simp only [← hm] at hS
 rw [← hm]
 obtain ⟨c0,k0,x1⟩:=hS w (Below.refl _ _)
 have HJ:=Lib.hid hj
 have HS:=Lib.hid hS
 have d0:Below w.heap.size w w.drew:=(Below.refl _ _).drew
 clear h hi hr hm hj hS
 have hrt:=right_any w m
 obtain ⟨b,hb⟩:∃ b,b=decide (canonB m=m):=⟨_,rfl⟩
 rw [← hb] at hrt ⊢
 have HR:=Lib.hid hrt
 clear hrt hb
 cases b with
 | true =>
   rw [Bool.true_and]
   go_enter Tryz.func297,Tryz.ntmps297
   go_wp2_with fail
   refine HR.out.mono ?_
   rintro e w1 ⟨rfl,hb1⟩
   obtain ⟨u0,u1,u2⟩:=HS.out _ hb1
   clear c0 k0 x1 d0
   have HB:=Lib.hid hb1
   clear hb1
   go_wp2_with fail
   refine (HJ.out _ HB.out).mono ?_
   rintro e w2 ⟨rfl,hb2⟩
   clear u0 u1 u2
   go_wp2_with fail
   go_ret
   exact ⟨rfl,hb2⟩
 | false =>
   rw [Bool.false_and]
   go_enter Tryz.func297,Tryz.ntmps297
   go_wp2_with fail
   refine HR.out.mono ?_
   rintro e w1 ⟨rfl,hb1⟩
   go_wp2_with fail
   go_ret
   exact ⟨rfl,hb1⟩
end Go.Proofs.YtilbbemdinpjcaaGreat.T
namespace Go.Proofs.YtilbbemdinpjcaaGreat.T
open Go.RowKit
structure Ends (xs:List Nd) (E:Nat→Nat):Prop where
 kids:∀ i (h:i < xs.length),0≤xs[i].kids∧steps E xs.length xs[i].kids.toNat (i+1)=some (E i)
 inc:∀ x,x < xs.length→x < E x∧E x≤xs.length
theorem ends_of {xs:List Nd} {E D:Nat→Nat} (h:Laid (ksOf xs) xs.length E D):Ends xs E:=by
 have hinv:=layN_inv _ _ _ E D (Nat.le_refl _) h.2.1
 exact ⟨fun i hi=>by have:=laid_steps h i hi;rw [ksOf_get xs i hi] at this;exact this,fun x hx=>⟨(hinv.2.2 x (by omega) hx).1,hinv.1 x⟩⟩
theorem tile {E:Nat→Nat} {n:Nat} (inc:∀ x,x < n→x < E x∧E x≤n):∀ (m p b i:Nat),p≤n→steps E n m p=some b→p≤i→i < b→∃ c,p≤c∧c≤i∧i < E c∧E c≤b∧c < n
 | 0,p,b,i,_,h,h1,h2=>by
   simp only [steps,Option.some.injEq] at h
   omega
 | m+1,p,b,i,hp,h,h1,h2=>by
   simp only [steps] at h
   by_cases hn:n≤p
   · rw [if_pos hn] at h;cases h
   · rw [if_neg hn] at h
     have hi:=inc p (by omega)
     by_cases e:i < E p
     · exact ⟨p,Nat.le_refl _,h1,e,by have:=steps_far inc m _ _ hi.2 h;omega,by omega⟩
     · obtain ⟨c,c1,c2,c3,c4,c5⟩:=tile inc m (E p) b i hi.2 h (by omega) h2
       exact ⟨c,by omega,c2,c3,c4,c5⟩
theorem Ends.nest {xs:List Nd} {E:Nat→Nat} (h:Ends xs E):∀ (f a:Nat),xs.length - a≤f→a < xs.length→∀ i,a≤i→i < E a→E i≤E a
 | 0,a,hf,ha,_,_,_=>by omega
 | f+1,a,hf,ha,i,h1,h2=>by
   by_cases e:i=a
   · subst e;exact Nat.le_refl _
   · obtain ⟨c,c1,c2,c3,c4,c5⟩:=tile h.inc _ _ _ i (by omega) (h.kids a ha).2 (by omega) h2
     exact Nat.le_trans (Ends.nest h f c (by omega) c5 i c2 c3) c4
theorem sub_steps {E:Nat→Nat} {n a e:Nat} (inc:∀ x,x < n→x < E x∧E x≤n):∀ (m p b:Nat),a≤p→p≤n→steps E n m p=some b→b≤e→steps (fun x=>E (x+a) - a) (e - a) m (p - a)=some (b - a)
 | 0,p,b,_,_,h,_=>by
   simp only [steps,Option.some.injEq] at h ⊢
   rw [h]
 | m+1,p,b,ha,hp,h,he=>by
   simp only [steps] at h ⊢
   by_cases hn:n≤p
   · rw [if_pos hn] at h;cases h
   · rw [if_neg hn] at h
     have hi:=inc p (by omega)
     have hf:=steps_far inc m _ _ hi.2 h
     rw [if_neg (by omega),show p - a+a=p by omega]
     exact sub_steps inc m (E p) b (by omega) hi.2 h he
def sub (xs:List Nd) (a e:Nat):List Nd:=(xs.drop a).take (e - a)
theorem sub_len {xs:List Nd} {a e:Nat} (he:e≤xs.length):(sub xs a e).length=e - a:=by
 unfold sub
 rw [List.length_take,List.length_drop]
 omega
theorem sub_get {xs:List Nd} {a e:Nat} (i:Nat) (h:i < (sub xs a e).length) (h2:a+i < xs.length):(sub xs a e)[i]=xs[a+i]:=by
 simp [sub]
theorem Ends.sub {xs:List Nd} {E:Nat→Nat} (h:Ends xs E) (a:Nat) (ha:a < xs.length):Ends (sub xs a (E a)) (fun x=>E (x+a) - a):=by
 have hi:=h.inc a ha
 have hl:(YtilbbemdinpjcaaGreat.T.sub xs a (E a)).length=E a - a:=sub_len hi.2
 refine ⟨fun i hx => ?_,fun x hx => ?_⟩
 ·
  rw [hl] at hx
  have hk:=h.kids (a+i) (by omega)
  have hn:=h.nest _ a (Nat.le_refl _) ha (a+i) (by omega) (by omega)
  rw [sub_get i (by rw [hl];exact hx) (by omega)]
  refine ⟨hk.1,?_⟩
  have:=sub_steps (a:=a) (e:=E a) h.inc _ _ _ (by omega) (by omega) hk.2 hn
  rw [hl,show a+i+1 - a=i+1 by omega] at *
  rw [this,Nat.add_comm i a]
 ·
  rw [hl] at hx ⊢
  have hn:=h.nest _ a (Nat.le_refl _) ha (x+a) (by omega) (by omega)
  have:=h.inc (x+a) (by omega)
  show x < E (x+a) - a∧E (x+a) - a≤E a - a
  omega
theorem Ends.told {xs ys:List Nd} {E F:Nat→Nat} (h:Ends xs E) (k:Ends ys F) (h0:0 < xs.length) (k0:0 < ys.length):∃ r,aheadR xs ys 0 1=some r:=by
 have:=ahead_told (E1:=E) (E2:=F) h.kids k.kids xs.length 0 1 0 (by omega) (by simp only [steps];rw [if_neg (by omega)];rfl) (by simp only [steps];rw [if_neg (by omega)];rfl)
 simpa using this
theorem NAt.sub {w:World} {g off:Nat} {xs:List Nd} (h:NAt w g off xs) (a e:Nat) (he:e≤xs.length):NAt w g (off+a * 5) (sub xs a e) :=
 ⟨h.1,fun j hj i v hv=>by
  have hl:=sub_len (a:=a) he
  rw [hl] at hj
  rw [sub_get j (by rw [hl];exact hj) (by omega)] at hv
  have:=h.2 (a+j) (by omega) i v hv
  rw [show off+(a+j) * 5+i=off+a * 5+j * 5+i by omega] at this
  exact this⟩
theorem KidsIn.sub {xs:List Nd} (h:KidsIn xs) (a e:Nat):KidsIn (sub xs a e):=fun x hx=>h x (List.drop_subset _ _ (List.take_subset _ _ hx))
set_option maxRecDepth 100000 in
theorem below_any (w:World) (g off n nc gE gD i:Nat) (E:Nat→Nat) (hE:Lies w gE (iv n E) 3) (hi:i < n) (h1:i≤E i) (h2:E i≤n) (hc:n≤nc) :
  Calls Tryz.prog 307 #[.agg (layV (some ⟨g,off,none⟩) n nc gE gD),.int .i64 i] w fun e w'=>e=.returned (.slice (some ⟨g,off+i * 5,none⟩) (E i - i) (nc - i))∧Below w.heap.size w w':=by
 have hA:Lies (w.alloc (.cells (layV (some ⟨g,off,none⟩) n nc gE gD) 279)) w.heap.size (layV (some ⟨g,off,none⟩) n nc gE gD) 279:=Lies.new _ _ _
 have hb0:Below w.heap.size w (w.alloc (.cells (layV (some ⟨g,off,none⟩) n nc gE gD) 279)):=(Below.refl _ _).alloc (Nat.le_refl _) _
 have hE2:=hE.below hb0 hE.lt
 have ce:=hE2.cell i (iv_get n E i hi)
 have c0:=hA.cell 0 (v:=.slice (some ⟨g,off,none⟩) n nc) rfl
 have c1:=hA.cell 1 (v:=.slice (some ⟨gE,0,none⟩) n n) rfl
 obtain ⟨x,hx⟩:∃ x,x=E i:=⟨_,rfl⟩
 rw [← hx] at ce h1 h2 ⊢
 have q0:(0:Int)≤(i:Int):=by omega
 have q1:(i:Int) < (n:Int):=by omega
 have q2:(i:Int)≤(x:Int):=by omega
 have q3:(x:Int)≤(nc:Int):=by omega
 have q4:¬ nc=i:=by omega
 clear hA hE hE2 hx
 unfold layV at *
 go_enter Tryz.func307,Tryz.ntmps307
 go_upto_region 1 with fail
 generalize w.alloc (.cells #[.slice (some ⟨g,off,none⟩) n nc,.slice (some ⟨gE,0,none⟩) n n,.slice (some ⟨gD,0,none⟩) n n] 279)=W0 at *
 go_quiet (fail)
 go_wp2_with fail
 go_ret
 exact ⟨rfl,below_drewN hb0 _⟩
end Go.Proofs.YtilbbemdinpjcaaGreat.T
namespace Go.Proofs.YtilbbemdinpjcaaGreat.T
open Go.RowKit
def riseB (xs:List Nd) (E:Nat→Nat):Nat→Nat→Option Nat→Bool
 | 0,_,_=>true
 | k+1,p,l=>(match l with | none=>true | some b=>decide ((aheadR (sub xs b (E b)) (sub xs p (E p)) 0 1).getD 0 < 0)) && riseB xs E k (E (E p)) (some p)
theorem steps_two {E:Nat→Nat} {n m p b:Nat} (h:steps E n (m+2) p=some b):p < n∧E p < n∧steps E n m (E (E p))=some b:=by
 rw [show m+2=(m+1)+1 by omega] at h
 simp only [steps] at h
 by_cases h1:n≤p
 ·
  rw [if_pos h1] at h;cases h
 ·
  rw [if_neg h1] at h
  by_cases h2:n≤E p
  ·
   rw [if_pos h2] at h;cases h
  ·
   rw [if_neg h2] at h
   exact ⟨by omega,by omega,h⟩
def LastV (xs:List Nd) (E:Nat→Nat) (g off nc:Nat) (l:Option Nat) (v:Value):Prop:=match l with
 | none=>v=.slice none 0 0
 | some b=>b < xs.length∧v=.slice (some ⟨g,off+b * 5,none⟩) (E b - b) (nc - b)
set_option maxRecDepth 100000 in
theorem rise_any (w:World) (g off nc gE gD i kd:Nat) (xs:List Nd) (E:Nat→Nat) (hE:Lies w gE (iv xs.length E) 3) (hx:NAt w g off xs) (he:Ends xs E) (hki:KidsIn xs) (hi:i < xs.length) (hc:xs.length≤nc) (hn:xs.length≤1000000) (hkd:xs[i].kids=((2 * kd:Nat):Int)) :
 Calls Tryz.prog 302 #[.agg (layV (some ⟨g,off,none⟩) xs.length nc gE gD),.int .i64 i] w fun e w'=>e=.returned (.bool (riseB xs E kd (i+1) none))∧Below w.heap.size w w':=by
 obtain ⟨n,hnn⟩:∃ n,n=xs.length:=⟨_,rfl⟩
 rw [← hnn] at hE hn hc ⊢
 have hA:Lies (w.alloc (.cells (layV (some ⟨g,off,none⟩) n nc gE gD) 279)) w.heap.size (layV (some ⟨g,off,none⟩) n nc gE gD) 279:=Lies.new _ _ _
 have hb0:Below w.heap.size w (w.alloc (.cells (layV (some ⟨g,off,none⟩) n nc gE gD) 279)):=(Below.refl _ _).alloc (Nat.le_refl _) _
 have hk0:=he.kids i hi
 have hkb:=hki _ (List.getElem_mem hi)
 have hst:steps E n (2 * kd) (i+1)=some (E i):=by
  have:=hk0.2
  rw [hkd,← hnn] at this
  exact this
 have hS:∀ V,Below w.heap.size w V→Lies V gE (iv n E) 3∧NAt V g off xs∧V.cell? ⟨g,off+i * 5+4,none⟩=some (.int .i64 ((2 * kd:Nat):Int)):=fun V hV=>by
  have:V.cell? ⟨g,off+i * 5+4,none⟩=some (.int .i64 xs[i].kids):=(hx.below hV hx.1).2 i hi 4 _ rfl
  rw [hkd] at this
  exact ⟨hE.below hV hE.lt,hx.below hV hx.1,this⟩
 have H:=Lib.hid (And.intro hS (And.intro he (And.intro hki (And.intro hst (And.intro hc (And.intro hn hnn))))))
 have q0:(0:Int)≤(i:Int):=by omega
 have q1:(i:Int) < (n:Int):=by omega
 have hkz:kd≤500000:=by omega
 have x4:=(hS _ hb0).2.2
 have w1:IntKind.i64.wrap ((i:Int)+1)=((i+1:Nat):Int):=by rw [IntKind.wrap_i64];omega
 clear hE hx hk0 hkb hst hS hc hkd he hki hi hn hnn
 unfold layV at *
 go_enter Tryz.func302,Tryz.ntmps302
 go_upto_region 1 with fail
 generalize w.alloc (.cells #[.slice (some ⟨g,off,none⟩) n nc,.slice (some ⟨gE,0,none⟩) n n,.slice (some ⟨gD,0,none⟩) n n] 279)=W0 at *
 have c0:=hA.cell 0 (v:=.slice (some ⟨g,off,none⟩) n nc) rfl
 have HA:=Lib.hid (And.intro hA hb0)
 clear hA hb0
 go_wp2_with fail
 clear x4 c0
 have hall:∀ V,Below W0.heap.size W0 V→V.cell? ⟨w.heap.size,0,none⟩=some (.slice (some ⟨g,off,none⟩) n nc)∧V.cell? ⟨w.heap.size,1,none⟩=some (.slice (some ⟨gE,0,none⟩) n n)∧V.cell? ⟨w.heap.size,2,none⟩=some (.slice (some ⟨gD,0,none⟩) n n) ∧
  Lies V gE (iv n E) 3∧NAt V g off xs∧Below w.heap.size w V:=fun V hV=>by
  have hA':=HA.out.1.below hV HA.out.1.lt
  have hbw:=HA.out.2.trans (hV.mono HA.out.2.size)
  exact ⟨hA'.cell 0 rfl,hA'.cell 1 rfl,hA'.cell 2 rfl,(H.out.1 V hbw).1,(H.out.1 V hbw).2.1,hbw⟩
 have HALL:=Lib.hid hall
 clear hall
 go_loopw [5,6,17] (fun a l c W=>∃ (k at':Nat) (lo:Option Nat),k≤kd∧a=.int .i64 at'∧c=.int .i64 k∧LastV xs E g off nc lo l∧steps E n (2 * (kd - k)) at'=some (E i)∧riseB xs E (kd - k) at' lo=riseB xs E kd (i+1) none∧Below W0.heap.size W0 W) (fun _ _ c _=>(kd - intOf c).toNat)
 case atStart=>exact ⟨0,i+1,none,by omega,by go_num,rfl,rfl,H.out.2.2.2.1,rfl,Below.refl _ _⟩
 case round =>
  obtain ⟨k,at',lo,hk,rfl,rfl,hl,hst,hrb,hbr⟩:=hrel
  by_cases hlt:k < kd
  · obtain ⟨j,hj⟩:∃ j,kd - k=j+1:=⟨kd - k - 1,by omega⟩
    rw [hj] at hst hrb
    rw [show 2 * (j+1)=2 * j+2 by omega] at hst
    obtain ⟨p1,p2,p3⟩:=steps_two hst
    have he:=H.out.2.1
    have hnn:=H.out.2.2.2.2.2.2
    have hc:=H.out.2.2.2.2.1
    have hn:=H.out.2.2.2.2.2.1
    have ia:=he.inc at' (by omega)
    obtain ⟨s0,s1,s2,sE,sN,sB⟩:=HALL.out _ hbr
    have hbl:=below_any wr g off n nc gE gD at' E sE p1 (by omega) (by omega) hc
    unfold layV at hbl
    have k1:(k:Int) < (kd:Int):=by omega
    have HR:=Lib.hid (And.intro hbr (And.intro hl (And.intro hst (And.intro hrb (And.intro p1 (And.intro p2 (And.intro p3 (And.intro hlt hj))))))))
    have HB:=Lib.hid hbl
    clear hbr hl hst hrb p1 p2 p3 hlt hj he hnn hc hn ia hbl hk sE sN sB
    go_wp2_with fail
    refine HB.out.mono ?_
    rintro e w5 ⟨rfl,hb5⟩
    have HB5:=Lib.hid (HR.out.1.trans (hb5.mono HR.out.1.size))
    clear hb5 s0 s1 s2
    have hrb:=HR.out.2.2.2.1
    cases lo with
    | none =>
      have hl:=HR.out.2.1
      change _=Value.slice none 0 0 at hl
      subst hl
      have HK2:=Lib.hid (show riseB xs E j (E (E at')) (some at')=riseB xs E kd (i+1) none by rw [← hrb];simp [riseB])
      have HZ:=Lib.hid HB5.out
      have HK:=Lib.hid (show E at'=E at' from rfl)
      clear hrb
      obtain ⟨s0,s1,s2,sE,-,-⟩:=HALL.out _ HZ.out
      have ce1:=sE.cell at' (iv_get n E at' HR.out.2.2.2.2.1)
      have ce2:=sE.cell (E at') (iv_get n E (E at') HR.out.2.2.2.2.2.1)
      obtain ⟨x1,hx1⟩:∃ x,x=E at':=⟨_,rfl⟩
      obtain ⟨x2,hx2⟩:∃ x,x=E x1:=⟨_,rfl⟩
      rw [← hx1] at ce1 ce2 HK
      rw [← hx2] at ce2
      have m1:(0:Int)≤(at':Int):=by omega
      have m2:(at':Int) < (n:Int):=by have:=HR.out.2.2.2.2.1;omega
      have m3:(0:Int)≤(x1:Int):=by omega
      have m4:(x1:Int) < (n:Int):=by have:=HR.out.2.2.2.2.2.1;rw [← hx1] at this;omega
      have HX:=Lib.hid (And.intro hx1 hx2)
      rw [← hx1]
      clear sE hx1 hx2
      go_wp2_with fail
      go_quiet (fail)
      go_wp2_with fail
      have g1:=HX.out.1
      have g2:=HX.out.2
      have hkd:=HR.out.2.2.2.2.2.2.2.1
      have hjd:=HR.out.2.2.2.2.2.2.2.2
      have hb7:=HZ.out
      refine ⟨⟨k+1,x2,some at',by omega,rfl,by go_num,⟨by rw [← H.out.2.2.2.2.2.2];exact HR.out.2.2.2.2.1,by rw [← g1]⟩,?_,?_,below_drewN hb7 _⟩,by simp [intOf];omega⟩
      · rw [show kd - (k+1)=j by omega,g2,g1];exact HR.out.2.2.2.2.2.2.1
      · rw [show kd - (k+1)=j by omega,g2,g1];exact HK2.out
    | some b =>
      have hlv:=HR.out.2.1
      obtain ⟨hb0,hlv⟩:=hlv
      subst hlv
      have he:=H.out.2.1
      have hnn:=H.out.2.2.2.2.2.2
      have hp1:=HR.out.2.2.2.2.1
      rw [hnn] at hp1
      have ib:=he.inc b hb0
      have ia:=he.inc at' hp1
      obtain ⟨r,hr⟩:=(he.sub b hb0).told (he.sub at' hp1) (by rw [sub_len ib.2];omega) (by rw [sub_len ia.2];omega)
      obtain ⟨-,-,-,-,sN,-⟩:=HALL.out _ HB5.out
      have hah:=ahead_any w5 g (off+b * 5) (nc - b) g (off+at' * 5) (nc - at') _ _ r (sN.sub b (E b) ib.2) (sN.sub at' (E at') ia.2) (by rw [sub_len ib.2];have:=H.out.2.2.2.2.2.1;omega) (by rw [sub_len ia.2];have:=H.out.2.2.2.2.2.1;omega) (H.out.2.2.1.sub _ _) (H.out.2.2.1.sub _ _) hr
      rw [sub_len ib.2,sub_len ia.2] at hah
      have hrb2:(decide (r < 0) && riseB xs E j (E (E at')) (some at'))=riseB xs E kd (i+1) none:=by
       rw [← hrb]
       simp only [riseB,hr]
       rfl
      have HAH:=Lib.hid hah
      have HRB:=Lib.hid hrb2
      clear hrb hrb2 hah hr sN ia ib hp1 hnn he hb0
      by_cases hr0:r < 0
      · have hge:¬ r ≥ 0:=by omega
        have hge2:¬ (0:Int)≤r:=by omega
        have HK2:=Lib.hid (show riseB xs E j (E (E at')) (some at')=riseB xs E kd (i+1) none by rw [← HRB.out,decide_eq_true hr0,Bool.true_and])
        go_wp2_with fail
        refine HAH.out.mono ?_
        rintro e w6 ⟨rfl,hb6⟩
        have HZ:=Lib.hid (HB5.out.trans (hb6.mono HB5.out.size))
        clear hb6
        have HK:=Lib.hid (show E at'=E at' from rfl)
        obtain ⟨s0,s1,s2,sE,-,-⟩:=HALL.out _ HZ.out
        have ce1:=sE.cell at' (iv_get n E at' HR.out.2.2.2.2.1)
        have ce2:=sE.cell (E at') (iv_get n E (E at') HR.out.2.2.2.2.2.1)
        obtain ⟨x1,hx1⟩:∃ x,x=E at':=⟨_,rfl⟩
        obtain ⟨x2,hx2⟩:∃ x,x=E x1:=⟨_,rfl⟩
        rw [← hx1] at ce1 ce2 HK
        rw [← hx2] at ce2
        have m1:(0:Int)≤(at':Int):=by omega
        have m2:(at':Int) < (n:Int):=by have:=HR.out.2.2.2.2.1;omega
        have m3:(0:Int)≤(x1:Int):=by omega
        have m4:(x1:Int) < (n:Int):=by have:=HR.out.2.2.2.2.2.1;rw [← hx1] at this;omega
        have HX:=Lib.hid (And.intro hx1 hx2)
        rw [← hx1]
        clear sE hx1 hx2
        go_wp2_with fail
        go_quiet (fail)
        go_wp2_with fail
        have g1:=HX.out.1
        have g2:=HX.out.2
        have hkd:=HR.out.2.2.2.2.2.2.2.1
        have hjd:=HR.out.2.2.2.2.2.2.2.2
        have hb7:=HZ.out
        refine ⟨⟨k+1,x2,some at',by omega,rfl,by go_num,⟨by rw [← H.out.2.2.2.2.2.2];exact HR.out.2.2.2.2.1,by rw [← g1]⟩,?_,?_,below_drewN hb7 _⟩,by simp [intOf];omega⟩
        · rw [show kd - (k+1)=j by omega,g2,g1];exact HR.out.2.2.2.2.2.2.1
        · rw [show kd - (k+1)=j by omega,g2,g1];exact HK2.out
      · have hge:r ≥ 0:=by omega
        have hge2:(0:Int)≤r:=by omega
        have HK2:=Lib.hid (show riseB xs E kd (i+1) none=false by rw [← HRB.out,decide_eq_false hr0,Bool.false_and])
        go_wp2_with fail
        refine HAH.out.mono ?_
        rintro e w6 ⟨rfl,hb6⟩
        have HZ:=Lib.hid (HB5.out.trans (hb6.mono HB5.out.size))
        clear hb6
        go_wp2_with fail
        go_ret
        exact ⟨by rw [HK2.out];rfl,(HALL.out _ HZ.out).2.2.2.2.2⟩
  · have hke:k=kd:=by omega
    subst hke
    rw [Nat.sub_self] at hrb
    have HR:=Lib.hid (And.intro hbr hrb)
    clear hbr hrb hst hl hk hlt
    go_wp2_with fail
    go_ret
    exact ⟨by rw [← HR.out.2];rfl,(HALL.out _ HR.out.1).2.2.2.2.2⟩
end Go.Proofs.YtilbbemdinpjcaaGreat.T
