/-
  pack: the putter's assets, bundles, addresses, refs.
-/
import Derived.Test.YtilbbemdinpjcaaGreatJPo
import Derived.Test.YtilbbemdinpjcaaGreatJTTfo
import Derived.Test.YtilbbemdinpjcaaGreatJTTjp
set_option maxHeartbeats 16000000
namespace Go.Proofs.YtilbbemdinpjcaaGreat.P
set_option maxRecDepth 100000
open Go.RowKit
theorem cl1_any (w:World) {B g:Nat} {v:Value} {st:Option (List UInt8)} (p:Nat) (n:T.Nd) (hp:w.cell? ⟨p,0,none⟩=some (.pointer (some ⟨g,0,none⟩))) (hl:p < w.heap.size) (h:WrO W.WSt w B g v st) (hx:sz st≤900000) :
  Calls Tryz.prog 245 #[.agg n.cells,.pointer (some ⟨p,0,none⟩)] w (PutR W.WSt w B g v (W.stepN st (W.low64 n.kids) 2)):=by
 obtain ⟨k1,n1,b1,t1,d1⟩:=n
 have hA:=Lies.new w #[.int .i64 k1,.int .i64 n1,.int .u64 b1,.string t1,.int .i64 d1] 72
 have hb:Below w.heap.size w (w.alloc (.cells #[.int .i64 k1,.int .i64 n1,.int .u64 b1,.string t1,.int .i64 d1] 72)):=(Below.refl _ _).alloc (Nat.le_refl _) _
 have H:=Hj (Aj h (Aj hp (Aj hl hx)))
 clear h hp hl hx
 unfold T.Nd.cells
 go_enter Tryz.func245,Tryz.ntmps245
 go_upto_region 1 with fail
 generalize w.alloc (.cells #[.int .i64 k1,.int .i64 n1,.int .u64 b1,.string t1,.int .i64 d1] 72)=W0 at hA hb ⊢
 have c4:=hA.cell 4 (v:=.int .i64 d1) rfl
 have cp:=(hb.cell (p:=⟨p,0,none⟩) H.out.2.2.1).trans H.out.2.1
 have HC:=Hj (wU16 W0 d1 (H.out.1.belowW hb) H.out.2.2.2)
 have HB:=Hj hb
 clear hA hb
 go_wp2_with fail
 refine HC.out.mono ?_
 rintro e w1 hr
 obtain ⟨rfl,hr⟩:=hr
 have HR:=Hj hr
 clear hr c4 cp HC
 go_wp2_with fail
 go_end0
 exact PutR.after HB.out ⟨rfl,HR.out⟩
theorem cl2_any (w:World) {B g:Nat} {v:Value} {st:Option (List UInt8)} (p:Nat) (n:T.Nd) (hp:w.cell? ⟨p,0,none⟩=some (.pointer (some ⟨g,0,none⟩))) (hl:p < w.heap.size) (h:WrO W.WSt w B g v st) (hx:sz st≤900000) :
  Calls Tryz.prog 246 #[.agg n.cells,.pointer (some ⟨p,0,none⟩)] w (PutR W.WSt w B g v (W.stepN st (W.low64 n.num) 8)):=by
 obtain ⟨k1,n1,b1,t1,d1⟩:=n
 have hA:=Lies.new w #[.int .i64 k1,.int .i64 n1,.int .u64 b1,.string t1,.int .i64 d1] 72
 have hb:Below w.heap.size w (w.alloc (.cells #[.int .i64 k1,.int .i64 n1,.int .u64 b1,.string t1,.int .i64 d1] 72)):=(Below.refl _ _).alloc (Nat.le_refl _) _
 have H:=Hj (Aj h (Aj hp (Aj hl hx)))
 clear h hp hl hx
 unfold T.Nd.cells
 go_enter Tryz.func246,Tryz.ntmps246
 go_upto_region 1 with fail
 generalize w.alloc (.cells #[.int .i64 k1,.int .i64 n1,.int .u64 b1,.string t1,.int .i64 d1] 72)=W0 at hA hb ⊢
 have c4:=hA.cell 1 (v:=.int .i64 n1) rfl
 have cp:=(hb.cell (p:=⟨p,0,none⟩) H.out.2.2.1).trans H.out.2.1
 have HC:=Hj (wI64 W0 n1 (H.out.1.belowW hb) H.out.2.2.2)
 have HB:=Hj hb
 clear hA hb
 go_wp2_with fail
 refine HC.out.mono ?_
 rintro e w1 hr
 obtain ⟨rfl,hr⟩:=hr
 have HR:=Hj hr
 clear hr c4 cp HC
 go_wp2_with fail
 go_end0
 exact PutR.after HB.out ⟨rfl,HR.out⟩
theorem cl3_any (w:World) {B g:Nat} {v:Value} {st:Option (List UInt8)} (p:Nat) (n:T.Nd) (hp:w.cell? ⟨p,0,none⟩=some (.pointer (some ⟨g,0,none⟩))) (hl:p < w.heap.size) (hn:n.txt.size≤140737488355328) (h:WrO W.WSt w B g v st) (hx:sz st≤900000) :
  Calls Tryz.prog 247 #[.agg n.cells,.pointer (some ⟨p,0,none⟩)] w (PutR W.WSt w B g v (W.stepText st n.txt)):=by
 obtain ⟨k1,n1,b1,t1,d1⟩:=n
 have hA:=Lies.new w #[.int .i64 k1,.int .i64 n1,.int .u64 b1,.string t1,.int .i64 d1] 72
 have hb:Below w.heap.size w (w.alloc (.cells #[.int .i64 k1,.int .i64 n1,.int .u64 b1,.string t1,.int .i64 d1] 72)):=(Below.refl _ _).alloc (Nat.le_refl _) _
 have H:=Hj (Aj h (Aj hp (Aj hl (Aj hx hn))))
 clear h hp hl hx hn
 unfold T.Nd.cells
 go_enter Tryz.func247,Tryz.ntmps247
 go_upto_region 1 with fail
 generalize w.alloc (.cells #[.int .i64 k1,.int .i64 n1,.int .u64 b1,.string t1,.int .i64 d1] 72)=W0 at hA hb ⊢
 have c4:=hA.cell 3 (v:=.string t1) rfl
 have cp:=(hb.cell (p:=⟨p,0,none⟩) H.out.2.2.1).trans H.out.2.1
 have HC:=Hj (wText W0 t1 H.out.2.2.2.2 (H.out.1.belowW hb) H.out.2.2.2.1)
 have HB:=Hj hb
 clear hA hb
 go_wp2_with fail
 refine HC.out.mono ?_
 rintro e w1 hr
 obtain ⟨rfl,hr⟩:=hr
 have HR:=Hj hr
 clear hr c4 cp HC
 go_wp2_with fail
 go_end0
 exact PutR.after HB.out ⟨rfl,HR.out⟩
theorem cl4_any (w:World) {B g:Nat} {v:Value} {st:Option (List UInt8)} (p:Nat) (n:T.Nd) (hp:w.cell? ⟨p,0,none⟩=some (.pointer (some ⟨g,0,none⟩))) (hl:p < w.heap.size) (hn:n.bits < 18446744073709551616) (h:WrO W.WSt w B g v st) (hx:sz st≤900000) :
  Calls Tryz.prog 248 #[.agg n.cells,.pointer (some ⟨p,0,none⟩)] w (PutR W.WSt w B g v (W.stepN st n.bits 8)):=by
 obtain ⟨k1,n1,b1,t1,d1⟩:=n
 have hA:=Lies.new w #[.int .i64 k1,.int .i64 n1,.int .u64 b1,.string t1,.int .i64 d1] 72
 have hb:Below w.heap.size w (w.alloc (.cells #[.int .i64 k1,.int .i64 n1,.int .u64 b1,.string t1,.int .i64 d1] 72)):=(Below.refl _ _).alloc (Nat.le_refl _) _
 have H:=Hj (Aj h (Aj hp (Aj hl (Aj hx hn))))
 clear h hp hl hx hn
 unfold T.Nd.cells
 go_enter Tryz.func248,Tryz.ntmps248
 go_upto_region 1 with fail
 generalize w.alloc (.cells #[.int .i64 k1,.int .i64 n1,.int .u64 b1,.string t1,.int .i64 d1] 72)=W0 at hA hb ⊢
 have c4:=hA.cell 2 (v:=.int .u64 b1) rfl
 have cp:=(hb.cell (p:=⟨p,0,none⟩) H.out.2.2.1).trans H.out.2.1
 have HC:=Hj (wU64 W0 b1 H.out.2.2.2.2 (H.out.1.belowW hb) H.out.2.2.2.1)
 have HB:=Hj hb
 clear hA hb
 go_wp2_with fail
 refine HC.out.mono ?_
 rintro e w1 hr
 obtain ⟨rfl,hr⟩:=hr
 have HR:=Hj hr
 clear hr c4 cp HC
 go_wp2_with fail
 go_end0
 exact PutR.after HB.out ⟨rfl,HR.out⟩
theorem cl5_any (w:World) {B g:Nat} {v:Value} {st:Option (List UInt8)} (p:Nat) (n:T.Nd) (hp:w.cell? ⟨p,0,none⟩=some (.pointer (some ⟨g,0,none⟩))) (hl:Off w g v p) (h:WrO W.WSt w B g v st) (hx:sz st≤800000) :
  Calls Tryz.prog 249 #[.agg n.cells,.pointer (some ⟨p,0,none⟩)] w (PutR W.WSt w B g v (W.stepN (W.stepN st (W.low64 n.num) 4) (W.low64 n.kids) 2)):=by
 obtain ⟨k1,n1,b1,t1,d1⟩:=n
 have hA:=Lies.new w #[.int .i64 k1,.int .i64 n1,.int .u64 b1,.string t1,.int .i64 d1] 72
 have hb:Below w.heap.size w (w.alloc (.cells #[.int .i64 k1,.int .i64 n1,.int .u64 b1,.string t1,.int .i64 d1] 72)):=(Below.refl _ _).alloc (Nat.le_refl _) _
 have H:=Hj (Aj h (Aj hp (Aj hl hx)))
 have HQ:=Hj (h.off (w':=w.alloc (.cells #[.int .i64 k1,.int .i64 n1,.int .u64 b1,.string t1,.int .i64 d1] 72)) (Nat.le_refl _) (by simp))
 clear h hp hl hx
 unfold T.Nd.cells
 go_enter Tryz.func249,Tryz.ntmps249
 go_upto_region 1 with fail
 generalize w.alloc (.cells #[.int .i64 k1,.int .i64 n1,.int .u64 b1,.string t1,.int .i64 d1] 72)=W0 at hA hb HQ ⊢
 have c1:=hA.cell 1 (v:=.int .i64 n1) rfl
 have c4:=hA.cell 4 (v:=.int .i64 d1) rfl
 have cp:=(hb.cell (p:=⟨p,0,none⟩) H.out.2.2.1.lt).trans H.out.2.1
 have hw0:=H.out.1.belowW hb
 have HC:=Hj (wU32 W0 n1 hw0 (by have:=H.out.2.2.2;omega))
 have HB:=Hj hb
 have HP:=Hj (H.out.2.2.1.on (Lk.of_below hb))
 clear hA hb
 go_wp2_with fail
 refine HC.out.mono ?_
 rintro e w1 hr
 obtain ⟨rfl,v1,hw1,hk1⟩:=hr
 have d4:=(hk1.cell (o:=4) HQ.out.lt HQ.out.ne HQ.out.own).trans c4
 have dp:=(hk1.cell (o:=0) HP.out.lt HP.out.ne HP.out.own).trans cp
 have HC2:=Hj (wU16 w1 d1 hw1 (by have:=H.out.2.2.2;have:=sz_N st (W.low64 n1) 4;omega))
 have HR:=Hj hk1
 clear hw1 hk1 c1 c4 cp HC
 go_wp2_with fail
 refine HC2.out.mono ?_
 rintro e w2 hr
 obtain ⟨rfl,hr⟩:=hr
 have HR2:=Hj hr
 clear hr d4 dp HC2
 go_wp2_with fail
 go_end0
 exact PutR.after HB.out (PutR.on HR.out ⟨rfl,HR2.out⟩)
theorem uMapP:Tryz.prog.underlying 247=some (.map 67 249):=by kernel_rfl
theorem run_insertP (w:World) (es:Array MapEntry) (clock:Nat) (key:Int) (v:Value) (h:Instr.findNow (.int .i64) (.int .i64 key) es.toList 0=some none) :
  (Instr.mapUpdate 247 (.map (some w.heap.size)) (.int .i64 key) v).run Tryz.prog (w.alloc (.map es clock))=.ok () (w.alloc (.map (es.push ⟨.int .i64 key,v,clock⟩) (clock+1))):=by
 have hb:(w.alloc (.map es clock)).heap[w.heap.size]? = some (.map es clock):=(MapKept.heap_alloc w _).1
 have hk:=MapKept.run_checkKey (P:=Tryz.prog) (w:=w.alloc (.map es clock)) (k:=.int .i64 key) T.u29 (by simp [MapKept.IsKey]) false 9999
 simp [Instr.mapUpdate,run_underlying uMapP,MapKept.run_getObj_map hb,hk,MapKept.run_findKey T.u29 h,MapKept.run_setObj_map _ hb,Result.andThen]
 simp [World.alloc,-World.alloc_eq,T.push_set]
theorem run_foundP (w:World) (b:Nat) (es:Array MapEntry) (clock:Nat) (key:Int) (i:Nat) (v:Value) (hb:w.heap[b]? = some (.map es clock)) (h:Instr.findNow (.int .i64) (.int .i64 key) es.toList 0=some (some (i,v))) :
  (Instr.lookup 247 (.map (some b)) (.int .i64 key) false).run Tryz.prog w=.ok v w:=by
 have hk:=MapKept.run_checkKey (P:=Tryz.prog) (w:=w) (k:=.int .i64 key) T.u29 (by simp [MapKept.IsKey]) es.isEmpty 9999
 simp [Instr.lookup,run_underlying uMapP,MapKept.run_getObj_map hb,hk,MapKept.run_findKey T.u29 h,Result.andThen]
def entP (k:Int) (f:Nat) (a:Nat) (born:Nat):MapEntry:=⟨.int .i64 k,.func (Fn.func f) #[] #[.pointer (some ⟨a,0,none⟩)],born⟩
def kindsP (p:Nat):Array MapEntry:=#[entP 1 246 p 0,entP 2 247 p 1,entP 3 248 p 2,entP 4 245 p 3,entP 5 249 p 4,entP 6 245 p 5]
theorem kindsP_any (w:World) (g:Nat) :
  Calls Tryz.prog 195 #[.agg #[.pointer (some ⟨g,0,none⟩)]] w fun e w'=>e=.returned (.map (some (w.heap.size+1)))∧w'.cell? ⟨w.heap.size,0,none⟩=some (.pointer (some ⟨g,0,none⟩))∧w'.heap[w.heap.size+1]? = some (.map (kindsP w.heap.size) 6)∧Below w.heap.size w w'∧w'.heap.size=w.heap.size+2:=by
 have hmf:∀ (fn:Fn) (first cap:Array Value) (w:World),(Instr.makeFunc fn first cap).run Tryz.prog w=.ok (.func fn first cap) w:=fun _ _ _ _=>rfl
 have hmm:=@run_makeMap Tryz.prog
 have k1:=fun (W:World) (v1:Value)=>run_insertP W #[] 0 1 v1 rfl
 have k2:=fun (W:World) (v1 v2:Value)=>run_insertP W #[⟨.int .i64 1,v1,0⟩] 1 2 v2 rfl
 have k3:=fun (W:World) (v1 v2 v3:Value)=>run_insertP W #[⟨.int .i64 1,v1,0⟩,⟨.int .i64 2,v2,1⟩] 2 3 v3 rfl
 have k4:=fun (W:World) (v1 v2 v3 v4:Value)=>run_insertP W #[⟨.int .i64 1,v1,0⟩,⟨.int .i64 2,v2,1⟩,⟨.int .i64 3,v3,2⟩] 3 4 v4 rfl
 have k5:=fun (W:World) (v1 v2 v3 v4 v5:Value)=>run_insertP W #[⟨.int .i64 1,v1,0⟩,⟨.int .i64 2,v2,1⟩,⟨.int .i64 3,v3,2⟩,⟨.int .i64 4,v4,3⟩] 4 5 v5 rfl
 have k6:=fun (W:World) (v1 v2 v3 v4 v5 v6:Value)=>run_insertP W #[⟨.int .i64 1,v1,0⟩,⟨.int .i64 2,v2,1⟩,⟨.int .i64 3,v3,2⟩,⟨.int .i64 4,v4,3⟩,⟨.int .i64 5,v5,4⟩] 5 6 v6 rfl
 simp only [List.push_toArray,List.cons_append,List.nil_append,Nat.reduceAdd] at k1 k2 k3 k4 k5 k6
 have hA:=Lies.new w #[.pointer (some ⟨g,0,none⟩)] 170
 have hb0:Below w.heap.size w (w.alloc (.cells #[.pointer (some ⟨g,0,none⟩)] 170)):=(Below.refl _ _).alloc (Nat.le_refl _) _
 have hz:(w.alloc (.cells #[.pointer (some ⟨g,0,none⟩)] 170)).heap.size=w.heap.size+1:=by simp
 go_enter Tryz.func195,Tryz.ntmps195
 go_upto_region 1 with fail
 generalize w.alloc (.cells #[.pointer (some ⟨g,0,none⟩)] 170)=W0 at *
 have H:=Hj (Aj hA (Aj hb0 hz))
 clear hA hb0 hz
 go_wp2_with fail
 go_ret
 refine ⟨by rw [H.out.2.2];rfl,(H.out.1.alloc _).cell 0 rfl,?_,H.out.2.1.alloc H.out.2.1.size _,by simp [H.out.2.2]⟩
 rw [← H.out.2.2]
 exact (MapKept.heap_alloc _ _).1
end Go.Proofs.YtilbbemdinpjcaaGreat.P
namespace Go.Proofs.YtilbbemdinpjcaaGreat.P
set_option maxRecDepth 100000
open Go.RowKit
def KindP (x:T.Nd) (K:Nat):Prop :=
 (∀ V b p,V.heap[b]? = some (.map (kindsP p) 6)→(Instr.lookup 247 (.map (some b)) (.int .i64 x.kind) false).run Tryz.prog V=.ok (.func (Fn.func K) #[] #[.pointer (some ⟨p,0,none⟩)]) V) ∧
 (∀ cap V,(callFunc K cap).run Tryz.prog V=.ok (.enter K cap) V) ∧
 ∀ (w:World) (B g:Nat) (v:Value) (st:Option (List UInt8)) (p:Nat),w.cell? ⟨p,0,none⟩=some (.pointer (some ⟨g,0,none⟩))→Off w g v p→WrO W.WSt w B g v st→sz st≤800000→Calls Tryz.prog K #[.agg x.cells,.pointer (some ⟨p,0,none⟩)] w (PutR W.WSt w B g v (ndT st x))
theorem kindP_at (x:T.Nd) (hk:1≤x.kind∧x.kind≤6) (hi:NdIn x):∃ K,KindP x K:=by
 unfold KindP
 by_cases e1:x.kind=1
 ·
  refine ⟨246,fun V b p hb => ?_,fun cap V=>T.callK 246 Tryz.f246 Tryz.func246 (by kernel_rfl) (by kernel_rfl) cap V,fun w B g v st p hp hl h hx => ?_⟩
  ·
   rw [e1];exact run_foundP V b _ 6 1 0 _ hb rfl
  ·
   have:=cl2_any w p x hp hl.lt h (by omega)
   rwa [show ndT st x=W.stepN st (W.low64 x.num) 8 by unfold ndT;rw [if_pos e1]]
 by_cases e2:x.kind=2
 ·
  refine ⟨247,fun V b p hb => ?_,fun cap V=>T.callK 247 Tryz.f247 Tryz.func247 (by kernel_rfl) (by kernel_rfl) cap V,fun w B g v st p hp hl h hx => ?_⟩
  ·
   rw [e2];exact run_foundP V b _ 6 2 1 _ hb rfl
  ·
   have:=cl3_any w p x hp hl.lt hi.txt h (by omega)
   rwa [show ndT st x=W.stepText st x.txt by unfold ndT;rw [if_neg e1,if_pos e2]]
 by_cases e3:x.kind=3
 ·
  refine ⟨248,fun V b p hb => ?_,fun cap V=>T.callK 248 Tryz.f248 Tryz.func248 (by kernel_rfl) (by kernel_rfl) cap V,fun w B g v st p hp hl h hx => ?_⟩
  ·
   rw [e3];exact run_foundP V b _ 6 3 2 _ hb rfl
  ·
   have:=cl4_any w p x hp hl.lt hi.bits h (by omega)
   rwa [show ndT st x=W.stepN st x.bits 8 by unfold ndT;rw [if_neg e1,if_neg e2,if_pos e3]]
 by_cases e5:x.kind=5
 ·
  refine ⟨249,fun V b p hb => ?_,fun cap V=>T.callK 249 Tryz.f249 Tryz.func249 (by kernel_rfl) (by kernel_rfl) cap V,fun w B g v st p hp hl h hx => ?_⟩
  ·
   rw [e5];exact run_foundP V b _ 6 5 4 _ hb rfl
  ·
   have:=cl5_any w p x hp hl h hx
   rwa [show ndT st x=W.stepN (W.stepN st (W.low64 x.num) 4) (W.low64 x.kids) 2 by unfold ndT;rw [if_neg e1,if_neg e2,if_neg e3,if_pos e5]]
 refine ⟨245,fun V b p hb => ?_,fun cap V=>T.callK 245 Tryz.f245 Tryz.func245 (by kernel_rfl) (by kernel_rfl) cap V,fun w B g v st p hp hl h hx => ?_⟩
 ·
  by_cases e4:x.kind=4
  ·
   rw [e4];exact run_foundP V b _ 6 4 3 _ hb rfl
  ·
   rw [show x.kind=6 by omega];exact run_foundP V b _ 6 6 5 _ hb rfl
 ·
  have:=cl1_any w p x hp hl.lt h (by omega)
  rwa [show ndT st x=W.stepN st (W.low64 x.kids) 2 by unfold ndT;rw [if_neg e1,if_neg e2,if_neg e3,if_neg e5]]
theorem cost_le {xs:List T.Nd} {k:Nat}:T.cost (xs.take k)≤T.cost xs:=by
 conv=>rhs;rw [← List.take_append_drop k xs,T.cost_app]
 omega
theorem putterTerm_any (w:World) {B g:Nat} {v:Value} {st:Option (List UInt8)} (a:Option Addr) (nc:Nat) (xs:List T.Nd) (hT:Stays g w v fun W=>T.TAt W a xs) (hk:∀ x ∈ xs,1≤x.kind∧x.kind≤6) (hi:∀ x ∈ xs,NdIn x) (h:WrO W.WSt w B g v st) (hx:sz st+26 * T.cost xs≤700000) :
  Calls Tryz.prog 119 #[.agg #[.pointer (some ⟨g,0,none⟩)],.agg #[.slice a xs.length nc]] w (PutR W.WSt w B g v (termS st xs)):=by
 have hn:=hT.now.2.1
 have hA:Lies ((w.alloc (.cells #[.pointer (some ⟨g,0,none⟩)] 170)).alloc (.cells #[.slice a xs.length nc] 24)) w.heap.size #[.pointer (some ⟨g,0,none⟩)] 170:=(Lies.new _ _ _).alloc _
 have hB:Lies ((w.alloc (.cells #[.pointer (some ⟨g,0,none⟩)] 170)).alloc (.cells #[.slice a xs.length nc] 24)) (w.heap.size+1) #[.slice a xs.length nc] 24:=by
  have:=Lies.new (w.alloc (.cells #[.pointer (some ⟨g,0,none⟩)] 170)) #[.slice a xs.length nc] 24
  simpa using this
 have hb0:Below w.heap.size w ((w.alloc (.cells #[.pointer (some ⟨g,0,none⟩)] 170)).alloc (.cells #[.slice a xs.length nc] 24)):=((Below.refl _ _).alloc (Nat.le_refl _) _).alloc (by simp) _
 have H:=Hj (Aj hT (Aj hk (Aj hi (Aj h hx))))
 have HK:=Hj (fun V=>kindsP_any V g)
 clear hT hk hi h hx
 go_enter Tryz.func119,Tryz.ntmps119
 go_upto_region 1 with fail
 generalize ((w.alloc (.cells #[.pointer (some ⟨g,0,none⟩)] 170)).alloc (.cells #[.slice a xs.length nc] 24))=W0 at hA hB hb0 ⊢
 have c0:=hA.cell 0 (v:=.pointer (some ⟨g,0,none⟩)) rfl
 have c1:=hB.cell 0 (v:=.slice a xs.length nc) rfl
 have HA:=Hj (Aj hA (Aj hB hb0))
 clear hA hB hb0
 go_wp2_with fail
 refine (HK.out _).mono ?_
 rintro e W1 ⟨rfl,l1,l2,hb1,hs1⟩
 clear c0 c1
 have hA1:=HA.out.1.below hb1 HA.out.1.lt
 have hB1:=HA.out.2.1.below hb1 HA.out.2.1.lt
 have c1:=hB1.cell 0 (v:=.slice a xs.length nc) rfl
 have hbw1:=HA.out.2.2.trans (hb1.mono HA.out.2.2.size)
 have hW1:=H.out.2.2.2.1.belowW hbw1
 have HW:=Hj (Aj hA1 (Aj hB1 (Aj hbw1 (Aj hW1 (Aj l1 (Aj l2 hs1))))))
 have hof:∀ q,w.heap.size≤q→q < W1.heap.size→Off W1 g v q:=fun q h1 h2=>H.out.2.2.2.1.off h1 h2
 have HO:=Hj hof
 have hsz:w.heap.size≤W0.heap.size:=HA.out.2.2.size
 have HZ:=Hj (Aj hsz (Aj HA.out.1.lt HA.out.2.1.lt))
 generalize W0.heap.size=z at hs1 l1 l2 hsz HW HZ ⊢
 clear l1 l2 hb1 hbw1 hA1 hB1 hW1 hs1 hof hsz
 go_wp2_with fail
 go_loopw [12] (fun i Z=>∃ (k:Nat) (u:Value),k≤xs.length∧i=.int .i64 k∧WrO W.WSt Z B g u (termS st (xs.take k))∧Lk g W1 v Z u) (fun i _=>(xs.length - intOf i).toNat)
 case atStart=>exact ⟨0,v,by omega,by go_num,HW.out.2.2.2.1,Lk.refl _ _ _⟩
 case round =>
  obtain ⟨k,u,hk,rfl,hwr,hlk⟩:=hrel
  by_cases hlt:k < xs.length
  ·
   have hmem:xs[k] ∈ xs:=List.getElem_mem hlt
   obtain ⟨K,hK⟩:=kindP_at xs[k] (H.out.2.1 _ hmem) (H.out.2.2.1 _ hmem)
   have hfull:Lk g w v wr u:=(Lk.of_below HW.out.2.2.1).trans hlk
   obtain ⟨gx,off,rfl,hat⟩:=(H.out.1 _ _ hfull).1 (by omega)
   have hxc:=hat.2 k hlt
   have hst:termS st (xs.take (k+1))=ndT (W.stepN (termS st (xs.take k)) (W.low64 xs[k].kind) 1) xs[k]:=termS_take hlt st
   have hs0:=sz_term (xs.take k) st
   have hs1:=cost_le (xs:=xs) (k:=k)
   have hs2:=sz_N (termS st (xs.take k)) (W.low64 xs[k].kind) 1
   have hxx:=H.out.2.2.2.2
   obtain ⟨x,ex⟩:∃ x,x=xs[k]:=⟨_,rfl⟩
   rw [← ex] at hK hxc hst hs2
   obtain ⟨k1,n1,b1,t1,d1⟩:=x
   have x0:wr.cell? ⟨gx,off+k * 5,none⟩=some (.int .i64 k1):=hxc 0 _ rfl
   have x1:wr.cell? ⟨gx,off+k * 5+1,none⟩=some (.int .i64 n1):=hxc 1 _ rfl
   have x2:wr.cell? ⟨gx,off+k * 5+2,none⟩=some (.int .u64 b1):=hxc 2 _ rfl
   have x3:wr.cell? ⟨gx,off+k * 5+3,none⟩=some (.string t1):=hxc 3 _ rfl
   have x4:wr.cell? ⟨gx,off+k * 5+4,none⟩=some (.int .i64 d1):=hxc 4 _ rfl
   have q0:(0:Int)≤(k:Int):=by omega
   have q1:(k:Int) < (xs.length:Int):=by omega
   have hB:=(Lies.new wr #[.int .i64 k1,.int .i64 n1,.int .u64 b1,.string t1,.int .i64 d1] 72)
   have hbA:Below wr.heap.size wr (wr.alloc (.cells #[.int .i64 k1,.int .i64 n1,.int .u64 b1,.string t1,.int .i64 d1] 72)):=(Below.refl _ _).alloc (Nat.le_refl _) _
   have hqq:=hwr.off (w':=wr.alloc (.cells #[.int .i64 k1,.int .i64 n1,.int .u64 b1,.string t1,.int .i64 d1] 72)) (Nat.le_refl _) (by simp)
   have p0:=(hlk.cell (o:=0) (HO.out w.heap.size (Nat.le_refl _) (Nat.lt_of_lt_of_le HW.out.1.lt (Nat.le_refl _))).lt (HO.out w.heap.size (Nat.le_refl _) HW.out.1.lt).ne (HO.out w.heap.size (Nat.le_refl _) HW.out.1.lt).own).trans (HW.out.1.cell 0 (v:=.pointer (some ⟨g,0,none⟩)) rfl)
   have HQ:=Hj (Aj hqq (Aj hs0 (Aj hs1 (Aj hs2 (Aj hxx (Aj hst hK))))))
   have HRD:=Hj (Aj hwr hlk)
   clear hwr hlk hqq hs0 hs1 hs2 hxx hst hK ex hxc hat hfull hmem
   go_upto_region 5 with fail
   generalize wr.alloc (.cells #[.int .i64 k1,.int .i64 n1,.int .u64 b1,.string t1,.int .i64 d1] 72)=W5 at hB hbA HQ ⊢
   clear x0 x1 x2 x3 x4
   have y0:=hB.cell 0 (v:=.int .i64 k1) rfl
   have p5:=(hbA.cell (p:=⟨w.heap.size,0,none⟩) (HO.out w.heap.size (Nat.le_refl _) HW.out.1.lt |>.on HRD.out.2).lt).trans p0
   have HC1:=Hj (wU8 W5 k1 (HRD.out.1.belowW hbA) (by have:=HQ.out;omega))
   have HB5:=Hj (Aj hbA hB)
   clear hbA hB p0
   go_wp2_with fail
   refine HC1.out.mono ?_
   rintro e W6 ⟨rfl,u6,hw6,hk6⟩
   have hl6:Lk g W1 v W6 u6:=(HRD.out.2.below HB5.out.1).trans hk6
   have hmp:W6.heap[z+1]? = some (.map (kindsP z) 6):=by
    have hlt1:=(Array.getElem?_eq_some_iff.1 HW.out.2.2.2.2.2.1).1
    have ho:=HO.out (z+1) (by have:=HZ.out.1;omega) hlt1
    exact (hl6.block hlt1 ho.ne ho.own).trans HW.out.2.2.2.2.2.1
   have hzl:z < W1.heap.size:=by have:=HW.out.2.2.2.2.2.2;omega
   have hoz:=HO.out z HZ.out.1 hzl
   have hpz:=(hl6.cell (o:=0) hoz.lt hoz.ne hoz.own).trans HW.out.2.2.2.2.1
   have hlk6:=HQ.out.2.2.2.2.2.2.1 W6 (z+1) z hmp
   have hcf:=HQ.out.2.2.2.2.2.2.2.1
   have hq6:=HQ.out.1
   have hb6:=hk6.lies HB5.out.2 hq6.ne hq6.own
   have y0:=hb6.cell 0 (v:=.int .i64 k1) rfl
   have y1:=hb6.cell 1 (v:=.int .i64 n1) rfl
   have y2:=hb6.cell 2 (v:=.int .u64 b1) rfl
   have y3:=hb6.cell 3 (v:=.string t1) rfl
   have y4:=hb6.cell 4 (v:=.int .i64 d1) rfl
   have HC2:=Hj (HQ.out.2.2.2.2.2.2.2.2 W6 B g u6 _ z hpz (hoz.on hl6) hw6 (by have:=HQ.out;omega))
   have HL6:=Hj hl6
   clear hw6 hk6 hl6 hmp hzl hoz hpz hq6 hb6 HC1 p5
   dsimp only at hlk6
   unfold T.Nd.cells at HC2
   go_wp2_with fail
   refine HC2.out.mono ?_
   rintro e W7 ⟨rfl,u7,hw7,hk7⟩
   have HN:=Hj (Aj hw7 (HL6.out.trans hk7))
   clear hw7 hk7 hlk6 y0 y1 y2 y3 y4 HC2
   go_wp2_with fail
   go_roundw
   case rel=>exact ⟨k+1,u7,by omega,by go_num,by rw [HQ.out.2.2.2.2.2.1];exact HN.out.1,HN.out.2⟩
   case measure=>simp [intOf];omega
  ·
   have hke:k=xs.length:=by omega
   have HN:=Hj (Aj hwr hlk)
   clear hwr hlk
   go_wp2_with fail
   go_end0
   have hw:=HN.out.1
   rw [hke,List.take_of_length_le (Nat.le_refl _)] at hw
   exact PutR.end_ hw ((Lk.of_below HW.out.2.2.1).trans HN.out.2)
end Go.Proofs.YtilbbemdinpjcaaGreat.P
namespace Go.Proofs.YtilbbemdinpjcaaGreat.P
set_option maxRecDepth 100000
open Go.RowKit
theorem right_kinds {xs:List T.Nd} (h:T.rightB xs=true):∀ x ∈ xs,1≤x.kind∧x.kind≤6:=by
 intro x hx
 unfold T.rightB T.fitsB at h
 simp only [Bool.and_eq_true] at h
 obtain ⟨i,hi,rfl⟩:=List.mem_iff_getElem.1 hx
 have hk:=(T.kindsB_iff.1 h.2.2.2) i hi
 unfold T.kindB at hk
 split at hk
 ·
  omega
 ·
  split at hk
  ·
   omega
  ·
   split at hk
   ·
    omega
   ·
    split at hk
    ·
     omega
    ·
     split at hk
     ·
      omega
     ·
      split at hk
      ·
       omega
      ·
       cases hk
theorem putTermG_any (w:World) {B g:Nat} {v:Value} {st:Option (List UInt8)} (a:Option Addr) (nc:Nat) (xs:List T.Nd) (hT:Stays g w v fun W=>T.TAt W a xs) (hc:xs.length≤nc) (hi:∀ x ∈ xs,NdIn x) (h:WrO W.WSt w B g v st) (hx:sz st+26 * T.cost xs≤700000) :
 Calls Tryz.prog 117 #[.pointer (some ⟨g,0,none⟩),.agg #[.slice a xs.length nc],.func (Fn.func 118) #[] #[],.func (Fn.func 119) #[] #[]] w (PutR W.WSt w B g v (if T.rightB xs then termS st xs else none)):=by
 obtain ⟨r,hr⟩:∃ r,r=T.rightB xs:=⟨_,rfl⟩
 have hA:=Lies.new w #[.slice a xs.length nc] 24
 have hb:Below w.heap.size w (w.alloc (.cells #[.slice a xs.length nc] 24)):=(Below.refl _ _).alloc (Nat.le_refl _) _
 have hf1:=T.callK 118 Tryz.f118 Tryz.func118 (by kernel_rfl) (by kernel_rfl)
 have hf2:=T.callK 119 Tryz.f119 Tryz.func119 (by kernel_rfl) (by kernel_rfl)
 have hk:r=true→∀ x ∈ xs,1≤x.kind∧x.kind≤6:=fun e=>right_kinds (hr ▸ e)
 have hR:∀ W,T.TAt W a xs→Calls Tryz.prog 118 #[.agg #[.slice a xs.length nc]] W fun e w'=>e=.returned (.bool r)∧Below W.heap.size W w':=fun W hW=>by rw [hr];exact T.rightT_any W a nc xs hW hc
 have HR:=Hj (hR _ ((hT.on (Lk.of_below hb)).now))
 obtain ⟨s2,hs2⟩:∃ s,s=(if r then termS st xs else none):=⟨_,rfl⟩
 rw [← hr,← hs2]
 have H:=Hj (Aj hT (Aj hi (Aj h (Aj hx (Aj hr hk)))))
 have HS:=Hj hs2
 clear hT hi h hx hr hk hR hc hs2
 go_enter Tryz.func117,Tryz.ntmps117
 go_upto_region 1 with fail
 generalize w.alloc (.cells #[.slice a xs.length nc] 24)=W0 at hA hb HR ⊢
 have c0:=hA.cell 0 (v:=.slice a xs.length nc) rfl
 have HB:=Hj (Aj hb hA)
 clear hA hb
 go_wp2_with fail
 refine HR.out.mono ?_
 rintro e W1 ⟨rfl,hb1⟩
 have hbw:=HB.out.1.trans (hb1.mono HB.out.1.size)
 have hw1:=H.out.2.2.1.belowW hbw
 have hA1:=HB.out.2.below hb1 HB.out.2.lt
 have hT1:=H.out.1.on (Lk.of_below hbw)
 clear c0 hb1 HR
 cases r with
 | true =>
   have c0:=hA1.cell 0 (v:=.slice a xs.length nc) rfl
   have HC:=Hj (putterTerm_any W1 a nc xs hT1 (H.out.2.2.2.2.2 rfl) H.out.2.1 hw1 H.out.2.2.2.1)
   have HW:=Hj hbw
   clear hbw hw1 hA1 hT1
   go_wp2_with fail
   refine HC.out.mono ?_
   rintro e W2 hr2
   obtain ⟨rfl,hr2⟩:=hr2
   have HE:=Hj hr2
   clear hr2 c0 HC
   go_wp2_with fail
   go_end0
   rw [HS.out]
   exact PutR.after HW.out ⟨rfl,HE.out⟩
 | false =>
   have HC:=Hj (wSpoil W1 hw1)
   have HW:=Hj hbw
   clear hbw hw1 hA1 hT1
   go_wp2_with fail
   refine HC.out.mono ?_
   rintro e W2 hr2
   obtain ⟨rfl,hr2⟩:=hr2
   have HE:=Hj hr2
   clear hr2 HC
   go_wp2_with fail
   first
    | go_end0
    | refine bodyPost_ret (results_none rfl _ _ _) rfl ?_
   rw [HS.out]
   exact PutR.after HW.out ⟨rfl,HE.out⟩
theorem putTerm_any (w:World) {B g:Nat} {v:Value} {st:Option (List UInt8)} (a:Option Addr) (nc:Nat) (xs:List T.Nd) (hT:Stays g w v fun W=>T.TAt W a xs) (hc:xs.length≤nc) (hi:∀ x ∈ xs,NdIn x) (h:WrO W.WSt w B g v st) (hx:sz st+26 * T.cost xs≤700000) :
  Calls Tryz.prog 47 #[.pointer (some ⟨g,0,none⟩),.agg #[.slice a xs.length nc]] w (PutR W.WSt w B g v (if T.rightB xs then termS st xs else none)):=by
 have hA:=Lies.new w #[.slice a xs.length nc] 24
 have hb:Below w.heap.size w (w.alloc (.cells #[.slice a xs.length nc] 24)):=(Below.refl _ _).alloc (Nat.le_refl _) _
 obtain ⟨s2,hs2⟩:∃ s,s=(if T.rightB xs then termS st xs else none):=⟨_,rfl⟩
 have hC:=putTermG_any _ a nc xs (hT.on (Lk.of_below hb)) hc hi (h.belowW hb) hx
 rw [← hs2] at hC ⊢
 have HC:=Hj hC
 clear hT hi h hx hs2 hC hc
 go_enter Tryz.func47,Tryz.ntmps47
 go_upto_region 1 with fail
 generalize w.alloc (.cells #[.slice a xs.length nc] 24)=W0 at hA hb HC ⊢
 have c0:=hA.cell 0 (v:=.slice a xs.length nc) rfl
 have HB:=Hj hb
 clear hA hb
 go_wp2_with fail
 refine HC.out.mono ?_
 rintro e W2 hr2
 obtain ⟨rfl,hr2⟩:=hr2
 have HE:=Hj hr2
 clear hr2 HC
 go_wp2_with fail
 go_end0
 exact PutR.after HB.out ⟨rfl,HE.out⟩
end Go.Proofs.YtilbbemdinpjcaaGreat.P
namespace Go.Proofs.YtilbbemdinpjcaaGreat.P
set_option maxRecDepth 100000
open Go.RowKit
def zAsP:Array Value:=Array.replicate 32 (.int .u8 0) ++ #[.string ⟨#[]⟩,.int .i64 0]
theorem alloc_assetP (w:World):(Instr.alloc 146 true (.tuple #[])).run Tryz.prog w=.ok (.pointer (some ⟨w.heap.size,0,none⟩)) (w.alloc (.cells zAsP 146)):=by kernel_rfl
theorem info_hashP:(Tryz.prog.info? 30).map (·.size)=some 32:=by kernel_rfl
theorem asC_polP {U:World} {b:Nat} {a:As} (h:a.nm.1.length=32) (hL:Lies U b (asC a) 146):U.rangeAt b 0 (B8 a.nm.1).toList:=fun j v hv=>by
 rw [Array.getElem?_toList] at hv
 have hj:j < 32:=by
  have:=(Array.getElem?_eq_some_iff.1 hv).1
  rw [B8_size,h] at this
  exact this
 rw [Nat.zero_add]
 refine hL.cell j ?_
 rw [asC_get a h j hj,← B8_get a.nm.1 j (by omega)]
 exact hv
theorem cntA_le {l:List As} {k:Nat}:cntA (l.take k)≤cntA l:=by
 unfold cntA
 conv=>rhs;rw [← List.take_append_drop k l,List.map_append,List.sum_append]
 rw [List.map_take]
 have:(l.map fun a=>1+a.nm.2.length / 16).take k=(l.take k).map fun a=>1+a.nm.2.length / 16:=by rw [List.map_take]
 rw [this]
 omega
theorem box_one (w:World) (v:Value) (t:TypeId):Lies (w.alloc (.cells #[v] t)) w.heap.size #[v] t∧Below w.heap.size w (w.alloc (.cells #[v] t)):=⟨Lies.new _ _ _,(Below.refl _ _).alloc (Nat.le_refl _) _⟩
theorem putterAssets_any (w:World) {B g:Nat} {v:Value} {st:Option (List UInt8)} (pa:Option Addr) (nc:Nat) (l:List As) (hT:Stays g w v fun W=>Row W pa l) (h:WrO W.WSt w B g v st) (hx:sz st+57 * cntA l≤700000) :
  Calls Tryz.prog 182 #[.agg #[.pointer (some ⟨g,0,none⟩)],.slice pa l.length nc] w (PutR W.WSt w B g v (asListS st l)):=by
 have hn:(l.length:Int)≤9223372036854775807:=by have:=hT.now.1;unfold maxLen at this;omega
 have hok:=hT.now.2.1
 have hal:=alloc_assetP
 obtain ⟨hA,hb0⟩:=box_one w (.pointer (some ⟨g,0,none⟩)) 170
 have hpo:=h.off (w':=w.alloc (.cells #[.pointer (some ⟨g,0,none⟩)] 170)) (Nat.le_refl _) (by simp)
 have H:=Hj (Aj hT (Aj hok (Aj h hx)))
 clear hT hok h hx
 go_enter Tryz.func182,Tryz.ntmps182
 go_upto_region 1 with fail
 generalize w.alloc (.cells #[.pointer (some ⟨g,0,none⟩)] 170)=W0 at hA hb0 hpo ⊢
 obtain ⟨p,hpe⟩:∃ p,p=w.heap.size:=⟨_,rfl⟩
 rw [← hpe] at hA hpo ⊢
 have c0:=hA.cell 0 (v:=.pointer (some ⟨g,0,none⟩)) rfl
 have HC:=Hj (wU16 W0 l.length (H.out.2.2.1.belowW hb0) (by have:=H.out.2.2.2;omega))
 have HA:=Hj (Aj hA (Aj hpo hb0))
 clear hA hpo hb0 hpe
 go_wp2_with fail
 refine HC.out.mono ?_
 rintro e W1 ⟨rfl,u1,hw1,hk1⟩
 have hp1:∀ W u,Lk g W1 u1 W u→W.cell? ⟨p,0,none⟩=some (.pointer (some ⟨g,0,none⟩)):=fun W u hl=>by
  have ho:=HA.out.2.1.on hk1
  rw [hl.cell (o:=0) ho.lt ho.ne ho.own,hk1.cell (o:=0) HA.out.2.1.lt HA.out.2.1.ne HA.out.2.1.own]
  exact HA.out.1.cell 0 rfl
 have HW:=Hj (Aj hw1 (Aj ((Lk.of_below HA.out.2.2).trans hk1) hp1))
 clear hw1 hk1 hp1 c0 HC
 go_wp2_with fail
 go_loopw [13] (fun i Z=>∃ (k:Nat) (u:Value),k≤l.length∧i=.int .i64 k∧WrO W.WSt Z B g u ((l.take k).foldl asS (W.stepN st (W.low64 l.length) 2))∧Lk g W1 u1 Z u) (fun i _=>(l.length - intOf i).toNat)
 case atStart=>exact ⟨0,u1,by omega,by go_num,HW.out.1,Lk.refl _ _ _⟩
 case round =>
  obtain ⟨k,u,hk,rfl,hwr,hlk⟩:=hrel
  by_cases hlt:k < l.length
  ·
   have hfull:Lk g w v wr u:=HW.out.2.1.trans hlk
   obtain ⟨gx,off,rfl,hgl,hat⟩:=(H.out.1 _ _ hfull).2.2 (by omega)
   obtain ⟨a,hka⟩:∃ a,l[k]? = some a:=⟨l[k],List.getElem?_eq_getElem hlt⟩
   have haok:=H.out.2.1 a (List.mem_of_getElem? hka)
   have hra:=hat k a hka
   obtain ⟨s0,hs0⟩:∃ s,s=(l.take k).foldl asS (W.stepN st (W.low64 l.length) 2):=⟨_,rfl⟩
   have hst:(l.take (k+1)).foldl asS (W.stepN st (W.low64 l.length) 2)=asS s0 a:=by rw [hs0];exact foldl_take _ _ _ _ _ hka
   have hsz0:sz s0+57 * (1+a.nm.2.length / 16)≤700010:=by
    have h1:=sz_asF (l.take k) (W.stepN st (W.low64 l.length) 2) (fun x hx=>(H.out.2.1 x (List.mem_of_mem_take hx)).1)
    have h2:=cntA_le (l:=l) (k:=k+1)
    rw [cntA_take hka] at h2
    have h3:=H.out.2.2.2
    have h4:=sz_N st (W.low64 l.length) 2
    rw [← hs0] at h1
    omega
   rw [← hs0] at hwr
   obtain ⟨av,hav⟩:∃ x,x=asC a:=⟨_,rfl⟩
   have hL:=Lies.new wr av 146
   have hbA:Below wr.heap.size wr (wr.alloc (.cells av 146)):=(Below.refl _ _).alloc (Nat.le_refl _) _
   have hqq:=hwr.off (w':=wr.alloc (.cells av 146)) (Nat.le_refl _) (by simp)
   have q0:(0:Int)≤(k:Int):=by omega
   have q1:(k:Int) < (l.length:Int):=by omega
   have HE:=Hj (Aj (show wr.rangeAt gx (off+k * 34) av.toList by rw [hav];exact hra) (Aj (show (Tryz.prog.info? 146).map (·.size)=some av.toList.length by rw [Array.length_toList,hav,asC_size a haok.1];exact info_asset) (Aj (show (Tryz.prog.info? 146).map (·.size)=some av.size by rw [hav,asC_size a haok.1];exact info_asset) (Aj (show av.size=34 by rw [hav,asC_size a haok.1]) (show av.all (·.oneCell')=true by rw [hav];exact asC_one a)))))
   have HR:=Hj (Aj hwr (Aj hlk (Aj hst (Aj hsz0 (Aj haok hav)))))
   clear hs0 hwr hlk hst hsz0 haok hav hra hat hfull hgl
   go_upto_region 5 with (first
    | (refine wpList_load_mid rfl 146 _ rfl gx (off+k * 34) rfl av.toList _ HE.out.1 Tryz.underlying146 rfl HE.out.2.1 ?_)
    | (refine wpList_store_row rfl 146 _ _ rfl wr.heap.size av rfl rfl 146 zAsP (Lies.new wr zAsP 146) HE.out.2.2.1 (by rw [HE.out.2.2.2.1];kernel_rfl) HE.out.2.2.2.2 ?_))
   rw [World.setRow_alloc_new]
   generalize wr.alloc (.cells av 146)=W5 at hL hbA hqq ⊢
   obtain ⟨q,hq⟩:∃ q,q=wr.heap.size:=⟨_,rfl⟩
   rw [← hq] at hL hqq ⊢
   clear hq
   have hl5:Lk g W1 u1 W5 u:=HR.out.2.1.below hbA
   have cp:=HW.out.2.2 W5 u hl5
   have HC1:=Hj (wHash W5 a.nm.1 HR.out.2.2.2.2.1.1 (HR.out.1.belowW hbA) (by have:=HR.out.2.2.2.1;omega))
   have HQ:=Hj (Aj hl5 (Aj hqq hL))
   have hpol:W5.rangeAt q 0 (B8 a.nm.1).toList:=asC_polP HR.out.2.2.2.2.1.1 (by rw [← HR.out.2.2.2.2.2];exact hL)
   have HP:=Hj (Aj hpol (show (Tryz.prog.info? 30).map (·.size)=some (B8 a.nm.1).toList.length by rw [Array.length_toList,B8_size,HR.out.2.2.2.2.1.1];exact info_hashP))
   clear hpol hl5 hqq hL hbA
   go_wp2_with (first
    | (at_builtin;fail)
    | (refine wpList_load_mid rfl 30 _ rfl q 0 rfl (B8 a.nm.1).toList _ HP.out.1 Tryz.underlying30 rfl HP.out.2 ?_))
   refine HC1.out.mono ?_
   rintro e W6 ⟨rfl,u6,hw6,hk6⟩
   have hl6:=HQ.out.1.trans hk6
   have cp:=HW.out.2.2 W6 u6 hl6
   have hL6:=hk6.lies HQ.out.2.2 HQ.out.2.1.ne HQ.out.2.1.own
   have hs1:=sz_B s0 a.nm.1
   have c32:=(show Lies W6 q (asC a) 146 by rw [← HR.out.2.2.2.2.2];exact hL6).cell 32 (asC_txt a HR.out.2.2.2.2.1.1)
   have HC2:=Hj (wText W6 (txt a.nm.2) (by rw [txt_size];have:=HR.out.2.2.2.1;omega) hw6 (by have:=HR.out.2.2.2.1;have:=HR.out.2.2.2.2.1.1;omega))
   have HQ6:=Hj (Aj hl6 (Aj (HQ.out.2.1.on hk6) (Aj hL6 hs1)))
   clear hl6 hL6 hk6 hw6 hs1 HC1
   go_wp2_with fail
   refine HC2.out.mono ?_
   rintro e W7 ⟨rfl,u7,hw7,hk7⟩
   have hl7:=HQ6.out.1.trans hk7
   have cp:=HW.out.2.2 W7 u7 hl7
   have hL7:=hk7.lies HQ6.out.2.2.1 HQ6.out.2.1.ne HQ6.out.2.1.own
   have hs2:=sz_T (W.stepB s0 a.nm.1) (txt a.nm.2)
   rw [txt_size] at hs2
   have c33:=(show Lies W7 q (asC a) 146 by rw [← HR.out.2.2.2.2.2];exact hL7).cell 33 (asC_amt a HR.out.2.2.2.2.1.1)
   have HC3:=Hj (wI64 W7 a.amt hw7 (by have:=HR.out.2.2.2.1;have:=HR.out.2.2.2.2.1.1;have:=HQ6.out.2.2.2;omega))
   have HQ7:=Hj hl7
   clear hl7 hL7 hk7 hw7 hs2 HC2 c32
   go_wp2_with fail
   refine HC3.out.mono ?_
   rintro e W8 ⟨rfl,u8,hw8,hk8⟩
   have HN:=Hj (Aj hw8 (HQ7.out.trans hk8))
   clear hw8 hk8 c33 cp HC3
   go_wp2_with fail
   go_roundw
   case rel=>exact ⟨k+1,u8,by omega,by go_num,by rw [HR.out.2.2.1];exact HN.out.1,HN.out.2⟩
   case measure=>simp [intOf];omega
  ·
   have hke:k=l.length:=by omega
   have HN:=Hj (Aj hwr hlk)
   clear hwr hlk
   go_wp2_with fail
   go_end0
   have hw:=HN.out.1
   rw [hke,List.take_of_length_le (Nat.le_refl _)] at hw
   exact PutR.end_ hw (HW.out.2.1.trans HN.out.2)
end Go.Proofs.YtilbbemdinpjcaaGreat.P
