/-
  What lies in order is a forest of one tree, and the other way round; how deep it is; the order of terms is that of forests.
-/
import Derived.Test.YtilbbemdinpjcaaGreatJTTv
import Derived.Carry
import Derived.MapKept
import Derived.Laws.EntriesVeiled
import Derived.Test.YtilbbemdinpjcaaGreatJTTc
set_option maxHeartbeats 16000000
namespace Go.Proofs.YtilbbemdinpjcaaGreat.T
open Go.RowKit
def tagIn (n:Int):Bool:=decide (0≤n) && decide (n≤2147483647)
set_option maxRecDepth 100000 in
theorem kindTag_any (w:World) (p q g off n nc gE gD i:Nat) (xs:List Nd) (h:KW w p q g off n nc gE gD xs) (hi:i < xs.length) :
  Calls Tryz.prog 300 #[.int .i64 i,.pointer (some ⟨p,0,none⟩),.pointer (some ⟨q,0,none⟩)] w fun e w'=>e=.returned (.bool (tagIn xs[i].num && justB xs[i] ⟨0,xs[i].num,0,⟨#[]⟩,xs[i].kids⟩))∧Below w.heap.size w w':=by
 obtain ⟨r,hr⟩:∃ r,r=justB xs[i] ⟨0,xs[i].num,0,⟨#[]⟩,xs[i].kids⟩:=⟨_,rfl⟩
 have hj:∀ V,Below w.heap.size w V→Calls Tryz.prog 294 #[.int .i64 i,.agg #[.int .i64 0,.int .i64 xs[i].num,.int .u64 0,.string ⟨#[]⟩,.int .i64 xs[i].kids],.pointer (some ⟨p,0,none⟩)] V fun e w'=>e=.returned (.bool r)∧Below w.heap.size w w':=fun V hV=>by
  rw [hr]
  exact (just_any V p g off n nc gE gD i xs ⟨0,xs[i].num,0,⟨#[]⟩,xs[i].kids⟩ (h.below hV).lay (h.below hV).at_ h.len hi).mono fun e w' h=>⟨h.1,hV.trans (h.2.mono hV.size)⟩
 rw [← hr]
 have hS:∀ V,Below w.heap.size w V→V.cell? ⟨p,0,none⟩=some (.slice (some ⟨g,off,none⟩) n nc)∧V.cell? ⟨q,0,none⟩=some (.func (Fn.func 294) #[] #[.pointer (some ⟨p,0,none⟩)]):=fun V hV =>
  ⟨(h.below hV).lay.cell 0 rfl,(h.below hV).just.cell 0 rfl⟩
 have hx:=h.at_.2 i hi
 obtain ⟨x,ex⟩:∃ x,x=xs[i]:=⟨_,rfl⟩
 rw [← ex] at hx hj ⊢
 obtain ⟨k1,n1,b1,t1,d1⟩:=x
 simp only at hj ⊢
 have q0:(0:Int)≤(i:Int):=by omega
 have q1:(i:Int) < (n:Int):=by have:=h.len;omega
 have x0:w.cell? ⟨g,off+i * 5,none⟩=some (.int .i64 k1):=hx 0 _ rfl
 have x1:w.cell? ⟨g,off+i * 5+1,none⟩=some (.int .i64 n1):=hx 1 _ rfl
 have x2:w.cell? ⟨g,off+i * 5+2,none⟩=some (.int .u64 b1):=hx 2 _ rfl
 have x3:w.cell? ⟨g,off+i * 5+3,none⟩=some (.string t1):=hx 3 _ rfl
 have x4:w.cell? ⟨g,off+i * 5+4,none⟩=some (.int .i64 d1):=hx 4 _ rfl
 obtain ⟨c0,k0⟩:=hS w (Below.refl _ _)
 have hA:Lies (w.alloc (.cells #[.int .i64 k1,.int .i64 n1,.int .u64 b1,.string t1,.int .i64 d1] 72)) w.heap.size #[.int .i64 k1,.int .i64 n1,.int .u64 b1,.string t1,.int .i64 d1] 72:=Lies.new _ _ _
 have hb0:Below w.heap.size w (w.alloc (.cells #[.int .i64 k1,.int .i64 n1,.int .u64 b1,.string t1,.int .i64 d1] 72)):=(Below.refl _ _).alloc (Nat.le_refl _) _
 have HJ:=Lib.hid hj
 have HS:=Lib.hid hS
 obtain ⟨z,hz⟩:∃ z,z=(tagIn n1 && r):=⟨_,rfl⟩
 rw [← hz]
 have HZ:=Lib.hid hz
 clear h hi hr hj hS hx ex hz
 go_enter Tryz.func300,Tryz.ntmps300
 go_upto_region 2 with fail
 generalize w.alloc (.cells #[.int .i64 k1,.int .i64 n1,.int .u64 b1,.string t1,.int .i64 d1] 72)=W0 at hA hb0 ⊢
 clear x0 x1 x2 x3 x4 c0 k0
 obtain ⟨c0,k0⟩:=HS.out _ hb0
 have y1:=hA.cell 1 (v:=.int .i64 n1) rfl
 have y4:=hA.cell 4 (v:=.int .i64 d1) rfl
 have HB:=Lib.hid hb0
 clear hA hb0
 by_cases a1:0≤n1
 ·
  by_cases a2:n1≤2147483647
  ·
   have e1:Hid (z=r):=Lib.hid (by rw [HZ.out];simp [tagIn,a1,a2])
   go_wp2_with fail
   refine (HJ.out _ HB.out).mono ?_
   rintro e w1 ⟨rfl,hb1⟩
   clear c0 k0 y1 y4
   go_wp2_with fail
   go_ret
   exact ⟨by rw [e1.out];rfl,hb1⟩
  ·
   have e1:Hid (z=false):=Lib.hid (by rw [HZ.out];simp [tagIn,a2])
   go_wp2_with fail
   go_ret
   exact ⟨by rw [e1.out];rfl,HB.out⟩
 ·
  have e1:Hid (z=false):=Lib.hid (by rw [HZ.out];simp [tagIn,a1])
  go_wp2_with fail
  go_ret
  exact ⟨by rw [e1.out];rfl,HB.out⟩
structure KE (w:World) (p q g off n nc gE gD:Nat) (xs:List Nd) (E:Nat→Nat):Prop where
 kw:KW w p q g off n nc gE gD xs
 row:Lies w gE (iv n E) 3
 ends:Ends xs E
 kids:KidsIn xs
 room:n≤nc
 few:n≤1000000
theorem KE.below {w w':World} {p q g off n nc gE gD:Nat} {xs:List Nd} {E:Nat→Nat} (h:KE w p q g off n nc gE gD xs E) (hb:Below w.heap.size w w'):KE w' p q g off n nc gE gD xs E :=
 ⟨h.kw.below hb,h.row.below hb h.row.lt,h.ends,h.kids,h.room,h.few⟩
def mapB (xs:List Nd) (E:Nat→Nat) (i:Nat) (x:Nd):Bool:=decide (x.kids % 2=0) && (justB x ⟨0,0,0,⟨#[]⟩,x.kids⟩ && riseB xs E (x.kids / 2).toNat (i+1) none)
set_option maxRecDepth 100000 in
theorem kindMap_any (w:World) (p q g off n nc gE gD i:Nat) (xs:List Nd) (E:Nat→Nat) (h:KE w p q g off n nc gE gD xs E) (hi:i < xs.length) :
 Calls Tryz.prog 301 #[.int .i64 i,.pointer (some ⟨p,0,none⟩),.pointer (some ⟨q,0,none⟩)] w fun e w'=>e=.returned (.bool (mapB xs E i xs[i]))∧Below w.heap.size w w':=by
 have hk:=h.kids _ (List.getElem_mem hi)
 obtain ⟨m,hm⟩:∃ m,m=xs[i].kids:=⟨_,rfl⟩
 obtain ⟨r,hr⟩:∃ r,r=justB xs[i] ⟨0,0,0,⟨#[]⟩,m⟩:=⟨_,rfl⟩
 obtain ⟨u,hu⟩:∃ u,u=riseB xs E (m / 2).toNat (i+1) none:=⟨_,rfl⟩
 have hR:mapB xs E i xs[i]=(decide (m % 2=0) && (r && u)):=by rw [hr,hu,hm];rfl
 rw [hR]
 have hj:∀ V,Below w.heap.size w V→Calls Tryz.prog 294 #[.int .i64 i,.agg #[.int .i64 0,.int .i64 0,.int .u64 0,.string ⟨#[]⟩,.int .i64 m],.pointer (some ⟨p,0,none⟩)] V fun e w'=>e=.returned (.bool r)∧Below w.heap.size w w':=fun V hV=>by
  rw [hr]
  exact (just_any V p g off n nc gE gD i xs ⟨0,0,0,⟨#[]⟩,m⟩ (h.below hV).kw.lay (h.below hV).kw.at_ h.kw.len hi).mono fun e w' h=>⟨h.1,hV.trans (h.2.mono hV.size)⟩
 have hq:m % 2=0→∀ V,Below w.heap.size w V→Calls Tryz.prog 302 #[.agg (layV (some ⟨g,off,none⟩) n nc gE gD),.int .i64 i] V fun e w'=>e=.returned (.bool u)∧Below w.heap.size w w':=fun h2 V hV=>by
  have hV2:=h.below hV
  have h0:=h.kw.len
  subst h0
  rw [hu]
  exact (rise_any V g off nc gE gD i (m / 2).toNat xs E hV2.row hV2.kw.at_ h.ends h.kids hi h.room h.few (by rw [← hm];omega)).mono fun e w' h=>⟨h.1,hV.trans (h.2.mono hV.size)⟩
 have hS:∀ V,Below w.heap.size w V→V.cell? ⟨p,0,none⟩=some (.slice (some ⟨g,off,none⟩) n nc)∧V.cell? ⟨p,1,none⟩=some (.slice (some ⟨gE,0,none⟩) n n)∧V.cell? ⟨p,2,none⟩=some (.slice (some ⟨gD,0,none⟩) n n)∧V.cell? ⟨q,0,none⟩=some (.func (Fn.func 294) #[] #[.pointer (some ⟨p,0,none⟩)]):=fun V hV =>
  ⟨(h.below hV).kw.lay.cell 0 rfl,(h.below hV).kw.lay.cell 1 rfl,(h.below hV).kw.lay.cell 2 rfl,(h.below hV).kw.just.cell 0 rfl⟩
 have x4:w.cell? ⟨g,off+i * 5+4,none⟩=some (.int .i64 m):=by rw [hm];exact h.kw.at_.2 i hi 4 _ rfl
 have q0:(0:Int)≤(i:Int):=by omega
 have q1:(i:Int) < (n:Int):=by have:=h.kw.len;omega
 have m0:0≤m:=by omega
 have m1:m≤1000000:=by omega
 obtain ⟨c0,c1,c2,k0⟩:=hS w (Below.refl _ _)
 have HJ:=Lib.hid hj
 have HQ:=Lib.hid hq
 have HS:=Lib.hid hS
 unfold layV at HQ
 clear h hi hr hj hS hq hu hm hR hk
 by_cases h2:m % 2=0
 · have e1:(m % 2 == 0)=true:=by simp [h2]
   have HC:=Lib.hid (HQ.out h2)
   rw [decide_eq_true h2,Bool.true_and]
   obtain ⟨z,hz⟩:∃ z,z=(r && u):=⟨_,rfl⟩
   rw [← hz]
   have HZ:=Lib.hid hz
   clear h2 HQ hz
   go_enter Tryz.func301,Tryz.ntmps301
   go_wp2_with fail
   refine (HJ.out _ (Below.refl _ _)).mono ?_
   rintro e w1 ⟨rfl,hb1⟩
   clear c0 c1 c2 k0 x4
   obtain ⟨c0,c1,c2,k0⟩:=HS.out _ hb1
   have HB:=Lib.hid hb1
   clear hb1
   cases r with
   | true =>
     have e1:Hid (z=u):=Lib.hid (by rw [HZ.out,Bool.true_and])
     go_wp2_with fail
     refine (HC.out _ HB.out).mono ?_
     rintro e w2 ⟨rfl,hb2⟩
     clear c0 c1 c2 k0
     go_wp2_with fail
     go_ret
     exact ⟨by rw [e1.out];rfl,hb2⟩
   | false =>
     have e1:Hid (z=false):=Lib.hid (by rw [HZ.out,Bool.false_and])
     go_wp2_with fail
     go_ret
     exact ⟨by rw [e1.out];rfl,HB.out⟩
 · have e1:(m % 2 == 0)=false:=by simp [h2]
   rw [decide_eq_false h2,Bool.false_and]
   clear h2 HQ
   go_enter Tryz.func301,Tryz.ntmps301
   go_wp2_with fail
   go_ret
   exact ⟨rfl,Below.refl _ _⟩
end Go.Proofs.YtilbbemdinpjcaaGreat.T
namespace Go.Proofs.YtilbbemdinpjcaaGreat.T
open Go.RowKit
theorem u29:Tryz.prog.underlying 67=some (.int .i64):=by kernel_rfl
theorem u94:Tryz.prog.underlying 288=some (.map 67 197):=by kernel_rfl
theorem push_set {α:Type} (xs:Array α) (a b:α):(xs.push a).setIfInBounds xs.size b=xs.push b:=by
 apply Array.ext
 ·
  simp
 ·
  intro i h1 h2
  simp only [Array.size_setIfInBounds,Array.size_push] at h1
  by_cases e:i=xs.size
  ·
   subst e;simp
  ·
   rw [Array.getElem_setIfInBounds (by simpa using h1),if_neg (Ne.symm e),Array.getElem_push_lt (by omega),Array.getElem_push_lt (by omega)]
theorem run_insert (w:World) (es:Array MapEntry) (clock:Nat) (key:Int) (v:Value) (h:Instr.findNow (.int .i64) (.int .i64 key) es.toList 0=some none) :
  (Instr.mapUpdate 288 (.map (some w.heap.size)) (.int .i64 key) v).run Tryz.prog (w.alloc (.map es clock))=.ok () (w.alloc (.map (es.push ⟨.int .i64 key,v,clock⟩) (clock+1))):=by
 have hb:(w.alloc (.map es clock)).heap[w.heap.size]? = some (.map es clock):=(MapKept.heap_alloc w _).1
 have hk:=MapKept.run_checkKey (P:=Tryz.prog) (w:=w.alloc (.map es clock)) (k:=.int .i64 key) u29 (by simp [MapKept.IsKey]) false 9999
 simp [Instr.mapUpdate,run_underlying u94,MapKept.run_getObj_map hb,hk,MapKept.run_findKey u29 h,MapKept.run_setObj_map _ hb,Result.andThen]
 simp [World.alloc,-World.alloc_eq,push_set]
theorem run_found (w:World) (b:Nat) (es:Array MapEntry) (clock:Nat) (key:Int) (i:Nat) (v:Value) (hb:w.heap[b]? = some (.map es clock)) (h:Instr.findNow (.int .i64) (.int .i64 key) es.toList 0=some (some (i,v))) :
  (Instr.lookup 288 (.map (some b)) (.int .i64 key) false).run Tryz.prog w=.ok v w:=by
 have hk:=MapKept.run_checkKey (P:=Tryz.prog) (w:=w) (k:=.int .i64 key) u29 (by simp [MapKept.IsKey]) es.isEmpty 9999
 simp [Instr.lookup,run_underlying u94,MapKept.run_getObj_map hb,hk,MapKept.run_findKey u29 h,Result.andThen]
theorem run_missed (w:World) (b:Nat) (es:Array MapEntry) (clock:Nat) (key:Int) (hb:w.heap[b]? = some (.map es clock)) (h:Instr.findNow (.int .i64) (.int .i64 key) es.toList 0=some none) :
  (Instr.lookup 288 (.map (some b)) (.int .i64 key) false).run Tryz.prog w=.ok .nilFunc w:=by
 have hk:=MapKept.run_checkKey (P:=Tryz.prog) (w:=w) (k:=.int .i64 key) u29 (by simp [MapKept.IsKey]) es.isEmpty 9999
 simp [Instr.lookup,run_underlying u94,MapKept.run_getObj_map hb,hk,MapKept.run_findKey u29 h,Result.andThen]
def ent (k:Int) (f:Nat) (a b:Nat) (born:Nat):MapEntry:=⟨.int .i64 k,.func (Fn.func f) #[] #[.pointer (some ⟨a,0,none⟩),.pointer (some ⟨b,0,none⟩)],born⟩
def kindsOf (p q:Nat):Array MapEntry:=#[ent 1 295 q p 0,ent 2 296 p q 1,ent 3 297 p q 2,ent 4 299 q p 3,ent 5 300 p q 4,ent 6 301 p q 5]
set_option maxRecDepth 100000 in
theorem kinds_any (w:World) (v:Array Value) (a b c:Value) (hv:v=#[a,b,c]) :
  Calls Tryz.prog 279 #[.agg v] w fun e w'=>e=.returned (.map (some (w.heap.size+2)))∧Lies w' w.heap.size v 279∧Lies w' (w.heap.size+1) #[.func (Fn.func 294) #[] #[.pointer (some ⟨w.heap.size,0,none⟩)]] 296∧w'.heap[w.heap.size+2]? = some (.map (kindsOf w.heap.size (w.heap.size+1)) 6)∧Below w.heap.size w w':=by
 subst hv
 have hmf:∀ (fn:Fn) (first cap:Array Value) (w:World),(Instr.makeFunc fn first cap).run Tryz.prog w=.ok (.func fn first cap) w:=fun _ _ _ _=>rfl
 have hmm:=@run_makeMap Tryz.prog
 have k1:=fun (W:World) (v1:Value)=>run_insert W #[] 0 1 v1 rfl
 have k2:=fun (W:World) (v1 v2:Value)=>run_insert W #[⟨.int .i64 1,v1,0⟩] 1 2 v2 rfl
 have k3:=fun (W:World) (v1 v2 v3:Value)=>run_insert W #[⟨.int .i64 1,v1,0⟩,⟨.int .i64 2,v2,1⟩] 2 3 v3 rfl
 have k4:=fun (W:World) (v1 v2 v3 v4:Value)=>run_insert W #[⟨.int .i64 1,v1,0⟩,⟨.int .i64 2,v2,1⟩,⟨.int .i64 3,v3,2⟩] 3 4 v4 rfl
 have k5:=fun (W:World) (v1 v2 v3 v4 v5:Value)=>run_insert W #[⟨.int .i64 1,v1,0⟩,⟨.int .i64 2,v2,1⟩,⟨.int .i64 3,v3,2⟩,⟨.int .i64 4,v4,3⟩] 4 5 v5 rfl
 have k6:=fun (W:World) (v1 v2 v3 v4 v5 v6:Value)=>run_insert W #[⟨.int .i64 1,v1,0⟩,⟨.int .i64 2,v2,1⟩,⟨.int .i64 3,v3,2⟩,⟨.int .i64 4,v4,3⟩,⟨.int .i64 5,v5,4⟩] 5 6 v6 rfl
 simp only [List.push_toArray,List.cons_append,List.nil_append,Nat.reduceAdd] at k1 k2 k3 k4 k5 k6
 have hA:Lies ((w.alloc (.cells #[a,b,c] 279)).alloc (.cells #[.func (Fn.func 294) #[] #[.pointer (some ⟨w.heap.size,0,none⟩)]] 296)) w.heap.size #[a,b,c] 279:=(Lies.new _ _ _).alloc _
 have hB:Lies ((w.alloc (.cells #[a,b,c] 279)).alloc (.cells #[.func (Fn.func 294) #[] #[.pointer (some ⟨w.heap.size,0,none⟩)]] 296)) (w.heap.size+1) #[.func (Fn.func 294) #[] #[.pointer (some ⟨w.heap.size,0,none⟩)]] 296:=by
  have:=Lies.new (w.alloc (.cells #[a,b,c] 279)) #[.func (Fn.func 294) #[] #[.pointer (some ⟨w.heap.size,0,none⟩)]] 296
  simpa using this
 have hb0:Below w.heap.size w ((w.alloc (.cells #[a,b,c] 279)).alloc (.cells #[.func (Fn.func 294) #[] #[.pointer (some ⟨w.heap.size,0,none⟩)]] 296)):=((Below.refl _ _).alloc (Nat.le_refl _) _).alloc (by simp) _
 have hz:((w.alloc (.cells #[a,b,c] 279)).alloc (.cells #[.func (Fn.func 294) #[] #[.pointer (some ⟨w.heap.size,0,none⟩)]] 296)).heap.size=w.heap.size+2:=by simp
 go_enter Tryz.func279,Tryz.ntmps279
 go_upto_region 2 with fail
 generalize ((w.alloc (.cells #[a,b,c] 279)).alloc (.cells #[.func (Fn.func 294) #[] #[.pointer (some ⟨w.heap.size,0,none⟩)]] 296))=W0 at *
 have H:=Lib.hid (And.intro hA (And.intro hB (And.intro hb0 hz)))
 clear hA hB hb0 hz
 go_wp2_with fail
 go_ret
 refine ⟨by rw [H.out.2.2.2];rfl,H.out.1.alloc _,H.out.2.1.alloc _,?_,H.out.2.2.1.alloc H.out.2.2.1.size _⟩
 rw [← H.out.2.2.2]
 exact (MapKept.heap_alloc _ _).1
def kindB (xs:List Nd) (E:Nat→Nat) (i:Nat) (x:Nd):Bool :=
 if x.kind=1 then justB x ⟨0,x.num,0,⟨#[]⟩,0⟩
 else if x.kind=2 then decide (x.txt.size≤200) && justB x ⟨0,0,0,x.txt,0⟩
 else if x.kind=3 then decide (canonB x.bits=x.bits) && justB x ⟨0,0,x.bits,⟨#[]⟩,0⟩
 else if x.kind=4 then justB x ⟨0,0,0,⟨#[]⟩,x.kids⟩
 else if x.kind=5 then tagIn x.num && justB x ⟨0,x.num,0,⟨#[]⟩,x.kids⟩
 else if x.kind=6 then mapB xs E i x else false
def KindAt (w:World) (b i:Nat) (kd:Int) (r:Bool):Prop :=
 (r=false∧∀ V,Below w.heap.size w V→(Instr.lookup 288 (.map (some b)) (.int .i64 kd) false).run Tryz.prog V=.ok .nilFunc V) ∨
 ∃ (K:Nat) (c1 c2:Value),(∀ V,Below w.heap.size w V→(Instr.lookup 288 (.map (some b)) (.int .i64 kd) false).run Tryz.prog V=.ok (.func (Fn.func K) #[] #[c1,c2]) V) ∧
   (∀ cap V,(callFunc K cap).run Tryz.prog V=.ok (.enter K cap) V) ∧
   ∀ V,Below w.heap.size w V→Calls Tryz.prog K #[.int .i64 i,c1,c2] V fun e w'=>e=.returned (.bool r)∧Below w.heap.size w w'
theorem kind_at (w:World) (b p q g off n nc gE gD i:Nat) (xs:List Nd) (E:Nat→Nat) (h:KE w p q g off n nc gE gD xs E) (hb:w.heap[b]? = some (.map (kindsOf p q) 6)) (hi:i < xs.length) :
  KindAt w b i xs[i].kind (kindB xs E i xs[i]):=by
 have hlt:b < w.heap.size:=(Array.getElem?_eq_some_iff.1 hb).1
 have hB:∀ V,Below w.heap.size w V→V.heap[b]? = some (.map (kindsOf p q) 6):=fun V hV=>(hV.block b hlt).trans hb
 have up:∀ V,Below w.heap.size w V→∀ e w' r,(e=Ending.returned (.bool r)∧Below V.heap.size V w')→(e=Ending.returned (.bool r)∧Below w.heap.size w w'):=fun V hV e w' r k=>⟨k.1,hV.trans (k.2.mono hV.size)⟩
 obtain ⟨kd,hk⟩:∃ kd,kd=xs[i].kind:=⟨_,rfl⟩
 unfold kindB
 rw [← hk]
 by_cases e1:kd=1
 ·
  rw [if_pos e1,e1]
  exact .inr ⟨295,_,_,fun V hV=>run_found V b _ 6 1 0 _ (hB V hV) rfl,fun cap V=>callK 295 Tryz.f295 Tryz.func295 (by kernel_rfl) (by kernel_rfl) cap V,fun V hV=>(kindInt_any V p q g off n nc gE gD i xs (h.below hV).kw hi).mono fun e w' k=>up V hV e w' _ k⟩
 rw [if_neg e1]
 by_cases e2:kd=2
 ·
  rw [if_pos e2,e2]
  exact .inr ⟨296,_,_,fun V hV=>run_found V b _ 6 2 1 _ (hB V hV) rfl,fun cap V=>callK 296 Tryz.f296 Tryz.func296 (by kernel_rfl) (by kernel_rfl) cap V,fun V hV=>(kindBytes_any V p q g off n nc gE gD i xs (h.below hV).kw hi).mono fun e w' k=>up V hV e w' _ k⟩
 rw [if_neg e2]
 by_cases e3:kd=3
 ·
  rw [if_pos e3,e3]
  exact .inr ⟨297,_,_,fun V hV=>run_found V b _ 6 3 2 _ (hB V hV) rfl,fun cap V=>callK 297 Tryz.f297 Tryz.func297 (by kernel_rfl) (by kernel_rfl) cap V,fun V hV=>(kindReal_any V p q g off n nc gE gD i xs (h.below hV).kw hi).mono fun e w' k=>up V hV e w' _ k⟩
 rw [if_neg e3]
 by_cases e4:kd=4
 ·
  rw [if_pos e4,e4]
  exact .inr ⟨299,_,_,fun V hV=>run_found V b _ 6 4 3 _ (hB V hV) rfl,fun cap V=>callK 299 Tryz.f299 Tryz.func299 (by kernel_rfl) (by kernel_rfl) cap V,fun V hV=>(kindList_any V p q g off n nc gE gD i xs (h.below hV).kw hi).mono fun e w' k=>up V hV e w' _ k⟩
 rw [if_neg e4]
 by_cases e5:kd=5
 ·
  rw [if_pos e5,e5]
  exact .inr ⟨300,_,_,fun V hV=>run_found V b _ 6 5 4 _ (hB V hV) rfl,fun cap V=>callK 300 Tryz.f300 Tryz.func300 (by kernel_rfl) (by kernel_rfl) cap V,fun V hV=>(kindTag_any V p q g off n nc gE gD i xs (h.below hV).kw hi).mono fun e w' k=>up V hV e w' _ k⟩
 rw [if_neg e5]
 by_cases e6:kd=6
 ·
  rw [if_pos e6,e6]
  exact .inr ⟨301,_,_,fun V hV=>run_found V b _ 6 6 5 _ (hB V hV) rfl,fun cap V=>callK 301 Tryz.f301 Tryz.func301 (by kernel_rfl) (by kernel_rfl) cap V,fun V hV=>(kindMap_any V p q g off n nc gE gD i xs E (h.below hV) hi).mono fun e w' k=>up V hV e w' _ k⟩
 rw [if_neg e6]
 refine .inl ⟨rfl,fun V hV=>run_missed V b _ 6 kd (hB V hV) ?_⟩
 have b1:(kd == 1)=false:=by simpa using e1
 have b2:(kd == 2)=false:=by simpa using e2
 have b3:(kd == 3)=false:=by simpa using e3
 have b4:(kd == 4)=false:=by simpa using e4
 have b5:(kd == 5)=false:=by simpa using e5
 have b6:(kd == 6)=false:=by simpa using e6
 simp [kindsOf,ent,Instr.findNow,Instr.sameNow,b1,b2,b3,b4,b5,b6]
theorem nilF_nil (W:World):(binOp .eql 197 .nilFunc .nilFunc).run Tryz.prog W=.ok (.bool true) W:=by kernel_rfl
theorem func_nil (K:Nat) (c1 c2:Value) (W:World):(binOp .eql 197 (.func (Fn.func K) #[] #[c1,c2]) .nilFunc).run Tryz.prog W=.ok (.bool false) W:=by kernel_rfl
def kindsB (xs:List Nd) (E:Nat→Nat):Bool:=(List.range xs.length).all fun i=>match xs[i]? with
 | some x=>kindB xs E i x
 | none=>true
theorem kindsB_true {xs:List Nd} {E:Nat→Nat} (h:∀ i (hi:i < xs.length),kindB xs E i xs[i]=true):kindsB xs E=true:=by
 unfold kindsB
 rw [List.all_eq_true]
 intro i hi
 rw [List.mem_range] at hi
 rw [List.getElem?_eq_getElem hi]
 exact h i hi
theorem kindsB_false {xs:List Nd} {E:Nat→Nat} (i:Nat) (hi:i < xs.length) (h:kindB xs E i xs[i]=false):kindsB xs E=false:=by
 unfold kindsB
 rw [List.all_eq_false]
 exact ⟨i,List.mem_range.2 hi,by rw [List.getElem?_eq_getElem hi];simp [h]⟩
theorem kindsB_iff {xs:List Nd} {E:Nat→Nat}:kindsB xs E=true ↔ ∀ i (hi:i < xs.length),kindB xs E i xs[i]=true:=by
 refine ⟨fun h i hi => ?_,kindsB_true⟩
 cases hk:kindB xs E i xs[i] with
 | true=>rfl
 | false=>rw [kindsB_false i hi hk] at h;cases h
set_option maxRecDepth 100000 in
theorem ofKinds_any (w:World) (g off n nc gE gD:Nat) (xs:List Nd) (E:Nat→Nat) (hx:NAt w g off xs) (hn:n=xs.length) (hE:Lies w gE (iv n E) 3) (he:Ends xs E) (hki:KidsIn xs) (hc:n≤nc) (hf:n≤1000000) :
 Calls Tryz.prog 244 #[.agg (layV (some ⟨g,off,none⟩) n nc gE gD)] w fun e w'=>e=.returned (.bool (kindsB xs E))∧Below w.heap.size w w':=by
 have hA:Lies (w.alloc (.cells (layV (some ⟨g,off,none⟩) n nc gE gD) 279)) w.heap.size (layV (some ⟨g,off,none⟩) n nc gE gD) 279:=Lies.new _ _ _
 have hb0:Below w.heap.size w (w.alloc (.cells (layV (some ⟨g,off,none⟩) n nc gE gD) 279)):=(Below.refl _ _).alloc (Nat.le_refl _) _
 have hkd:=fun V=>kinds_any V (layV (some ⟨g,off,none⟩) n nc gE gD) _ _ _ rfl
 have HK:=Lib.hid hkd
 have H0:=Lib.hid (And.intro hx (And.intro hn (And.intro hE (And.intro he (And.intro hki (And.intro hc hf))))))
 obtain ⟨res,hres⟩:∃ r,r=kindsB xs E:=⟨_,rfl⟩
 rw [← hres]
 have HR:=Lib.hid hres
 clear hkd hx hn hE he hki hc hf hres
 unfold layV at hA hb0 HK ⊢
 go_enter Tryz.func244,Tryz.ntmps244
 go_upto_region 1 with fail
 generalize w.alloc (.cells #[.slice (some ⟨g,off,none⟩) n nc,.slice (some ⟨gE,0,none⟩) n n,.slice (some ⟨gD,0,none⟩) n n] 279)=W0 at hA hb0 ⊢
 have c0:=hA.cell 0 (v:=.slice (some ⟨g,off,none⟩) n nc) rfl
 have c1:=hA.cell 1 (v:=.slice (some ⟨gE,0,none⟩) n n) rfl
 have c2:=hA.cell 2 (v:=.slice (some ⟨gD,0,none⟩) n n) rfl
 have HA:=Lib.hid (And.intro hA hb0)
 clear hA hb0
 go_wp2_with fail
 refine (HK.out _).mono ?_
 rintro e W1 ⟨rfl,l1,l2,l3,hb1⟩
 clear c0 c1 c2
 obtain ⟨p,hp⟩:∃ p,p=W0.heap.size:=⟨_,rfl⟩
 have hA1:=HA.out.1.below hb1 HA.out.1.lt
 have c0:=hA1.cell 0 (v:=.slice (some ⟨g,off,none⟩) n nc) rfl
 have hbw1:=HA.out.2.trans (hb1.mono HA.out.2.size)
 have hke:KE W1 p (p+1) g off n nc gE gD xs E:=⟨⟨by rw [hp];exact l1,by rw [hp];exact l2,H0.out.1.below hbw1 H0.out.1.1,H0.out.2.1⟩,H0.out.2.2.1.below hbw1 H0.out.2.2.1.lt,H0.out.2.2.2.1,H0.out.2.2.2.2.1,H0.out.2.2.2.2.2.1,H0.out.2.2.2.2.2.2⟩
 rw [← hp] at l3
 have HW:=Lib.hid (And.intro hke (And.intro l3 (And.intro hbw1 hA1)))
 have hnn:n≤1000000:=H0.out.2.2.2.2.2.2
 rw [← hp]
 have HP:=Lib.hid hp
 clear hp l1 l2 l3 hb1 hbw1 hke hA1
 go_wp2_with fail
 go_loopw [12] (fun i W=>∃ k:Nat,k≤n∧i=.int .i64 k∧(∀ j (hj:j < xs.length),j < k→kindB xs E j xs[j]=true)∧Below W1.heap.size W1 W) (fun i _=>(n - intOf i).toNat)
 case atStart=>exact ⟨0,by omega,by go_num,fun j _ h=>by omega,Below.refl _ _⟩
 case round =>
  obtain ⟨k,hk,rfl,hall,hbr⟩:=hrel
  by_cases hlt:k < n
  · have hxl:k < xs.length:=by rw [← H0.out.2.1];exact hlt
    have hat:=kind_at wr (p+2) p (p+1) g off n nc gE gD k xs E (HW.out.1.below hbr) ((hbr.block (p+2) (Array.getElem?_eq_some_iff.1 HW.out.2.1).1).trans HW.out.2.1) hxl
    have hxc:=(HW.out.1.below hbr).kw.at_.2 k hxl
    obtain ⟨r,hr⟩:∃ r,r=kindB xs E k xs[k]:=⟨_,rfl⟩
    rw [← hr] at hat
    obtain ⟨x,ex⟩:∃ x,x=xs[k]:=⟨_,rfl⟩
    rw [← ex] at hat hxc
    obtain ⟨k1,n1,b1,t1,d1⟩:=x
    simp only at hat
    have hnxt:r=true→∀ j (hj:j < xs.length),j < k+1→kindB xs E j xs[j]=true:=fun e j hj h=>by
     by_cases e2:j=k
     · subst e2;rw [← hr];exact e
     · exact hall j hj (by omega)
    have hbad:r=false→res=false:=fun e=>by rw [HR.out];exact kindsB_false k hxl (by rw [← hr];exact e)
    have x0:wr.cell? ⟨g,off+k * 5,none⟩=some (.int .i64 k1):=hxc 0 _ rfl
    have x1:wr.cell? ⟨g,off+k * 5+1,none⟩=some (.int .i64 n1):=hxc 1 _ rfl
    have x2:wr.cell? ⟨g,off+k * 5+2,none⟩=some (.int .u64 b1):=hxc 2 _ rfl
    have x3:wr.cell? ⟨g,off+k * 5+3,none⟩=some (.string t1):=hxc 3 _ rfl
    have x4:wr.cell? ⟨g,off+k * 5+4,none⟩=some (.int .i64 d1):=hxc 4 _ rfl
    have q0:(0:Int)≤(k:Int):=by omega
    have q1:(k:Int) < (n:Int):=by omega
    have hB:=(Lies.new wr #[.int .i64 k1,.int .i64 n1,.int .u64 b1,.string t1,.int .i64 d1] 72)
    have hbA:Below wr.heap.size wr (wr.alloc (.cells #[.int .i64 k1,.int .i64 n1,.int .u64 b1,.string t1,.int .i64 d1] 72)):=(Below.refl _ _).alloc (Nat.le_refl _) _
    have HRD:=Lib.hid (And.intro hall (And.intro hbr (And.intro hnxt hbad)))
    have HAT:=Lib.hid hat
    clear hall hbr hnxt hbad hat hr ex hxc hxl
    go_upto_region 5 with fail
    generalize wr.alloc (.cells #[.int .i64 k1,.int .i64 n1,.int .u64 b1,.string t1,.int .i64 d1] 72)=W5 at hB hbA ⊢
    clear x0 x1 x2 x3 x4
    have y0:=hB.cell 0 (v:=.int .i64 k1) rfl
    have HB5:=Lib.hid hbA
    clear hB hbA
    rcases HAT.out with ⟨hrf,hlk⟩ | ⟨K,d1',d2',hlk,hcf,hcl⟩
    · have hl5:=hlk W5 HB5.out
      have hq:=nilF_nil
      have hz:=HRD.out.2.2.2 hrf
      have HZ:=Lib.hid hz
      clear hlk hrf hz
      go_wp2_with fail
      go_ret
      exact ⟨by rw [HZ.out];rfl,HW.out.2.2.1.trans ((HRD.out.2.1.trans (HB5.out.mono HRD.out.2.1.size)).mono HW.out.2.2.1.size)⟩
    · have hl5:=hlk W5 HB5.out
      have hq:=func_nil K d1' d2'
      have HC:=Lib.hid (hcl W5 HB5.out)
      clear hlk hcl
      go_wp2_with fail
      refine HC.out.mono ?_
      rintro e W6 ⟨rfl,hb6⟩
      have HB6:=Lib.hid hb6
      clear hb6 y0 hl5
      cases r with
      | true =>
        have hnx:=HRD.out.2.2.1 rfl
        have HN:=Lib.hid hnx
        clear hnx
        go_wp2_with fail
        go_roundw
        case rel=>exact ⟨k+1,by omega,by go_num,HN.out,HRD.out.2.1.trans (HB6.out.mono HRD.out.2.1.size)⟩
        case measure=>simp [intOf];omega
      | false =>
        have hz:=HRD.out.2.2.2 rfl
        have HZ:=Lib.hid hz
        clear hz
        go_wp2_with fail
        go_ret
        exact ⟨by rw [HZ.out];rfl,HW.out.2.2.1.trans ((HRD.out.2.1.trans (HB6.out.mono HRD.out.2.1.size)).mono HW.out.2.2.1.size)⟩
  · have hke:k=n:=by omega
    have hz:res=true:=by
     rw [HR.out]
     exact kindsB_true fun i hi=>hall i hi (by rw [hke,H0.out.2.1];exact hi)
    have HZ:=Lib.hid (And.intro hz hbr)
    clear hz hall hbr hke hk
    go_wp2_with fail
    go_ret
    exact ⟨by rw [HZ.out.1];rfl,HW.out.2.2.1.trans (HZ.out.2.mono HW.out.2.2.1.size)⟩
end Go.Proofs.YtilbbemdinpjcaaGreat.T
namespace Go.Proofs.YtilbbemdinpjcaaGreat.T
open Ieee
open Go.RowKit
end Go.Proofs.YtilbbemdinpjcaaGreat.T
namespace Go.Proofs.YtilbbemdinpjcaaGreat.T
def cmpL:List UInt8→List UInt8→Int
 | [],[]=>0
 | [],_ :: _=>-1
 | _ :: _,[]=>1
 | a :: x,b :: y=>if a < b then -1 else if b < a then 1 else cmpL x y
def partB (a b:Nd):Int:=if cmpI a.kind b.kind≠0 then cmpI a.kind b.kind else if cmpI a.num b.num≠0 then cmpI a.num b.num else if orderB a.bits b.bits≠0 then orderB a.bits b.bits else cmpL a.txt.toList b.txt.toList
structure IsO {α:Type} (c:α→α→Int):Prop where
 turn:∀ a b,c a b=- c b a
 range:∀ a b,-1≤c a b∧c a b≤1
 tri:∀ a b e,c a b≤0→c b e≤0→c a e≤0∧(c a e=0→c a b=0∧c b e=0)
inductive Fo where
 | nil:Fo
 | cons (n:Nd) (k r:Fo):Fo
namespace Fo
def cnt:Fo→Nat
 | nil=>0
 | cons _ _ r=>r.cnt+1
def len:Fo→Nat
 | nil=>0
 | cons _ k r=>1+k.len+r.len
def flat:Fo→List Nd
 | nil=>[]
 | cons n k r=>{ n with kids:=(k.cnt:Int) } :: (k.flat ++ r.flat)
def cmp:Fo→Fo→Int
 | nil,nil=>0
 | nil,cons .. => -1
 | cons ..,nil=>1
 | cons n k r,cons n' k' r'=>if partB n n'≠0 then partB n n' else if k.cmp k'≠0 then k.cmp k' else r.cmp r'
theorem flat_len:∀ f:Fo,f.flat.length=f.len
 | nil=>rfl
 | cons n k r=>by simp [flat,len,flat_len k,flat_len r];omega
theorem cnt_le:∀ f:Fo,f.cnt≤f.len
 | nil=>Nat.le_refl _
 | cons n k r=>by have:=cnt_le r;simp only [cnt,len];omega
end Fo
def Words (xs:List Nd):Prop:=∀ x ∈ xs,x.bits < 2 ^ 64
end Go.Proofs.YtilbbemdinpjcaaGreat.T
namespace Go.Proofs.YtilbbemdinpjcaaGreat.T
theorem sub_split {xs:List Nd} {p e b:Nat} (h1:p≤e) (h2:e≤b):sub xs p b=sub xs p e ++ sub xs e b:=by
 unfold sub
 rw [show b - p=(e - p)+(b - e) by omega,List.take_add,List.drop_drop,show p+(e - p)=e by omega]
theorem sub_cons {xs:List Nd} {p b:Nat} (h1:p < b) (h2:p < xs.length):sub xs p b=xs[p] :: sub xs (p+1) b:=by
 unfold sub
 rw [List.drop_eq_getElem_cons h2,show b - p=(b - (p+1))+1 by omega,List.take_succ_cons]
theorem sub_self (xs:List Nd) (p:Nat):sub xs p p=[]:=by simp [sub]
theorem fo_of {xs:List Nd} {E:Nat→Nat} (h:Ends xs E):∀ (N m p b:Nat),xs.length - p≤N→p≤xs.length→steps E xs.length m p=some b→p≤b∧b≤xs.length∧∃ f:Fo,f.cnt=m∧f.flat=sub xs p b
 | _,0,p,b,_,hp,hs=>by
   simp only [steps,Option.some.injEq] at hs
   subst hs
   exact ⟨Nat.le_refl _,hp,.nil,rfl,by rw [sub_self];rfl⟩
 | 0,m+1,p,b,hN,hp,hs=>by
   simp only [steps] at hs
   rw [if_pos (by omega)] at hs
   cases hs
 | N+1,m+1,p,b,hN,hp,hs=>by
   simp only [steps] at hs
   by_cases hn:xs.length≤p
   · rw [if_pos hn] at hs;cases hs
   rw [if_neg hn] at hs
   have hi:=h.inc p (by omega)
   have hk:=h.kids p (by omega)
   obtain ⟨k1,k2,fk,k3,k4⟩:=fo_of h N xs[p].kids.toNat (p+1) (E p) (by omega) (by omega) hk.2
   obtain ⟨r1,r2,fr,r3,r4⟩:=fo_of h N m (E p) b (by omega) (by omega) hs
   refine ⟨by omega,r2,.cons xs[p] fk fr,by simp [Fo.cnt,r3],?_⟩
   rw [sub_cons (by omega) (by omega),sub_split (p:=p+1) (e:=E p) (by omega) r1]
   simp only [Fo.flat,k4,r4,k3]
   have e:((xs[p].kids.toNat:Nat):Int)=xs[p].kids:=by omega
   rw [e]
def deepT (xs:List Nd):Nat:=deepOf (ksOf xs) xs.length
theorem fo_inO {xs:List Nd} (h:inO xs=true):∃ f:Fo,f.cnt=1∧f.flat=xs:=by
 obtain ⟨E,D,l⟩:=inO_laid h
 have he:=ends_of l
 have h0:=l.1
 have hst:steps E xs.length 1 0=some xs.length:=by
  simp only [steps]
  rw [if_neg (by omega),l.2.2]
 obtain ⟨-,-,f,h1,h2⟩:=fo_of he _ 1 0 xs.length (Nat.le_refl _) (by omega) hst
 exact ⟨f,h1,by rw [h2];simp [sub]⟩
end Go.Proofs.YtilbbemdinpjcaaGreat.T
