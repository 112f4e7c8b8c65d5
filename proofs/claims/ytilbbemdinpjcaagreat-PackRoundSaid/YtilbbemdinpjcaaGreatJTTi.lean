/-
  Regions whose order Go leaves open, by what holds whenever a set of their operations has come up; one operation at a time. No condition.
-/
import Derived.Test.YtilbbemdinpjcaaGreatJTTc
import Derived.Deep.RegionHeld3
import Derived.Lib.Hide
import Derived.RegionTactic
import Derived.Deep.QuietTactic
import Derived.BigQuiet
import Derived.Outline
set_option maxHeartbeats 16000000
namespace Go.Proofs.YtilbbemdinpjcaaGreat.T
open Go.RowKit
structure Nd where
 kind:Int
 num:Int
 bits:Nat
 txt:ByteArray
 kids:Int
def Nd.cells (n:Nd):Array Value:=#[.int .i64 n.kind,.int .i64 n.num,.int .u64 n.bits,.string n.txt,.int .i64 n.kids]
def partO (a b:Nd):Int:=firstNZ [cmpI a.kind b.kind,cmpI a.num b.num,ordC a.bits b.bits,cmpS a.txt b.txt]
set_option maxRecDepth 100000 in
theorem parts_any (a b:Nd) (w:World):Calls Tryz.prog 312 #[.agg a.cells,.agg b.cells] w fun e w'=>e=.returned (.int .i64 (partO a b))∧Below w.heap.size w w':=by
 obtain ⟨k1,n1,b1,t1,d1⟩:=a
 obtain ⟨k2,n2,b2,t2,d2⟩:=b
 obtain ⟨r,hr⟩:∃ r,r=partO ⟨k1,n1,b1,t1,d1⟩ ⟨k2,n2,b2,t2,d2⟩:=⟨_,rfl⟩
 rw [← hr]
 unfold partO at hr
 simp only at hr
 obtain ⟨o1,ho1⟩:∃ o,o=cmpI k1 k2:=⟨_,rfl⟩
 obtain ⟨o2,ho2⟩:∃ o,o=cmpI n1 n2:=⟨_,rfl⟩
 obtain ⟨o3,ho3⟩:∃ o,o=ordC b1 b2:=⟨_,rfl⟩
 obtain ⟨o4,ho4⟩:∃ o,o=cmpS t1 t2:=⟨_,rfl⟩
 rw [← ho1,← ho2,← ho3,← ho4] at hr
 have q1:∀ V,Calls Tryz.prog 318 #[.int .i64 k1,.int .i64 k2] V fun e w'=>e=.returned (.int .i64 o1)∧V=w':=fun V=>by rw [ho1];exact compareK_any V k1 k2
 have q2:∀ V,Calls Tryz.prog 319 #[.int .i64 n1,.int .i64 n2] V fun e w'=>e=.returned (.int .i64 o2)∧V=w':=fun V=>by rw [ho2];exact compareI_any V n1 n2
 have q3:∀ V,Calls Tryz.prog 320 #[.int .u64 b1,.int .u64 b2] V fun e w'=>e=.returned (.int .i64 o3)∧Below V.heap.size V w':=fun V=>by rw [ho3];exact order_any V b1 b2
 have q4:∀ V,Calls Tryz.prog 261 #[.string t1,.string t2] V fun e w'=>e=.returned (.int .i64 o4)∧V=w':=fun V=>by rw [ho4];exact compareS_any V t1 t2
 have q5:∀ (V:World),Calls Tryz.prog 76 #[.slice (some ⟨V.heap.size,0,none⟩) 4 4] (V.alloc (.cells #[.int .i64 o1,.int .i64 o2,.int .i64 o3,.int .i64 o4] 3)) fun e w'=>e=.returned (.int .i64 r)∧V.alloc (.cells #[.int .i64 o1,.int .i64 o2,.int .i64 o3,.int .i64 o4] 3)=w':=fun V=>by
  have:=or_any [o1,o2,o3,o4] V.heap.size 4 (V.alloc (.cells #[.int .i64 o1,.int .i64 o2,.int .i64 o3,.int .i64 o4] 3)) (fun j hj=>by
   have:j=0 ∨ j=1 ∨ j=2 ∨ j=3:=by simp at hj;omega
   rcases this with rfl | rfl | rfl | rfl <;> simp [go_sem]) (by simp)
  rw [hr];exact this
 have Q:=Lib.hid (And.intro q1 (And.intro q2 (And.intro q3 (And.intro q4 q5))))
 clear q1 q2 q3 q4 q5 hr ho1 ho2 ho3 ho4
 unfold Nd.cells
 go_enter Tryz.func312,Tryz.ntmps312
 go_upto_region 1 with fail
 have hA:(w.alloc (.cells #[.int .i64 k1,.int .i64 n1,.int .u64 (b1:Int),.string t1,.int .i64 d1] 72) |>.alloc (.cells #[.int .i64 k2,.int .i64 n2,.int .u64 (b2:Int),.string t2,.int .i64 d2] 72)).heap[w.heap.size]? = some (.cells #[.int .i64 k1,.int .i64 n1,.int .u64 (b1:Int),.string t1,.int .i64 d1] 72 (0,0)):=(Below.heap_alloc _ _ _ (by simp)).trans (heap_alloc_new w _)
 have hB:(w.alloc (.cells #[.int .i64 k1,.int .i64 n1,.int .u64 (b1:Int),.string t1,.int .i64 d1] 72) |>.alloc (.cells #[.int .i64 k2,.int .i64 n2,.int .u64 (b2:Int),.string t2,.int .i64 d2] 72)).heap[w.heap.size+1]? = some (.cells #[.int .i64 k2,.int .i64 n2,.int .u64 (b2:Int),.string t2,.int .i64 d2] 72 (0,0)):=by
  have:=heap_alloc_new (w.alloc (.cells #[.int .i64 k1,.int .i64 n1,.int .u64 (b1:Int),.string t1,.int .i64 d1] 72)) (.cells #[.int .i64 k2,.int .i64 n2,.int .u64 (b2:Int),.string t2,.int .i64 d2] 72)
  simpa using this
 have hb0:Below w.heap.size w (w.alloc (.cells #[.int .i64 k1,.int .i64 n1,.int .u64 (b1:Int),.string t1,.int .i64 d1] 72) |>.alloc (.cells #[.int .i64 k2,.int .i64 n2,.int .u64 (b2:Int),.string t2,.int .i64 d2] 72)):=((Below.refl _ _).alloc (Nat.le_refl _) _).alloc (by simp) _
 have hz:w.heap.size+1 < (w.alloc (.cells #[.int .i64 k1,.int .i64 n1,.int .u64 (b1:Int),.string t1,.int .i64 d1] 72) |>.alloc (.cells #[.int .i64 k2,.int .i64 n2,.int .u64 (b2:Int),.string t2,.int .i64 d2] 72)).heap.size:=by simp
 generalize (w.alloc (.cells #[.int .i64 k1,.int .i64 n1,.int .u64 (b1:Int),.string t1,.int .i64 d1] 72) |>.alloc (.cells #[.int .i64 k2,.int .i64 n2,.int .u64 (b2:Int),.string t2,.int .i64 d2] 72))=W0 at hA hB hb0 hz ⊢
 have hS:∀ V,Below W0.heap.size W0 V→V.cell? ⟨w.heap.size,0,none⟩=some (.int .i64 k1)∧V.cell? ⟨w.heap.size,1,none⟩=some (.int .i64 n1)∧V.cell? ⟨w.heap.size,2,none⟩=some (.int .u64 (b1:Int))∧V.cell? ⟨w.heap.size,3,none⟩=some (.string t1)∧V.cell? ⟨w.heap.size+1,0,none⟩=some (.int .i64 k2)∧V.cell? ⟨w.heap.size+1,1,none⟩=some (.int .i64 n2)∧V.cell? ⟨w.heap.size+1,2,none⟩=some (.int .u64 (b2:Int))∧V.cell? ⟨w.heap.size+1,3,none⟩=some (.string t2):=fun V hV=>by
  have h1:=(hV.block w.heap.size (by omega)).trans hA
  have h2:=(hV.block (w.heap.size+1) hz).trans hB
  exact ⟨cell_of_row V _ 0 _ _ _ h1,cell_of_row V _ 1 _ _ _ h1,cell_of_row V _ 2 _ _ _ h1,cell_of_row V _ 3 _ _ _ h1,cell_of_row V _ 0 _ _ _ h2,cell_of_row V _ 1 _ _ _ h2,cell_of_row V _ 2 _ _ _ h2,cell_of_row V _ 3 _ _ _ h2⟩
 have d0:Below W0.heap.size W0 W0.drew:=(Below.refl _ _).drew
 have s0:=hS _ d0
 have HS:=Lib.hid hS
 have HB0:=Lib.hid hb0
 have HGA:=Lib.hid (show ∀ (V:World) (o:Obj),Below W0.heap.size W0 V→Below W0.heap.size W0 (V.alloc o) from fun V o h=>h.alloc h.size o)
 clear hA hB hb0 hz hS
 go_region_held3 (fun V=>V.cell? ⟨w.heap.size,0,none⟩=some (.int .i64 k1)∧V.cell? ⟨w.heap.size,1,none⟩=some (.int .i64 n1)∧V.cell? ⟨w.heap.size,2,none⟩=some (.int .u64 (b1:Int))∧V.cell? ⟨w.heap.size,3,none⟩=some (.string t1)∧V.cell? ⟨w.heap.size+1,0,none⟩=some (.int .i64 k2)∧V.cell? ⟨w.heap.size+1,1,none⟩=some (.int .i64 n2)∧V.cell? ⟨w.heap.size+1,2,none⟩=some (.int .u64 (b2:Int))∧V.cell? ⟨w.heap.size+1,3,none⟩=some (.string t2))
  (first | exact s0 | exact HS.out _ (by assumption) | exact HS.out _ (HGA.out _ _ (by assumption)))
  (first
   | (with_reducible refine (Q.out.1 _).mono ?_;rintro e w1 ⟨rfl,rfl⟩)
   | (with_reducible refine (Q.out.2.1 _).mono ?_;rintro e w1 ⟨rfl,rfl⟩)
   | (with_reducible refine (Q.out.2.2.1 _).mono ?_;rintro e w3 ⟨rfl,hb3'⟩;have hb3:Below W0.heap.size W0 w3:=d0.trans (hb3'.mono d0.size))
   | (with_reducible refine (Q.out.2.2.2.1 _).mono ?_;rintro e w1 ⟨rfl,rfl⟩)
   | (with_reducible refine (Q.out.2.2.2.2 _).mono ?_;rintro e w1 ⟨rfl,rfl⟩;have hb5:Below W0.heap.size W0 (w3.alloc (.cells #[.int .i64 o1,.int .i64 o2,.int .i64 o3,.int .i64 o4] 3)):=hb3.alloc hb3.size _))
 go_wp2_with fail
 go_ret
 exact ⟨rfl,HB0.out.trans (hb5.mono HB0.out.size)⟩
end Go.Proofs.YtilbbemdinpjcaaGreat.T
namespace Go.Proofs.YtilbbemdinpjcaaGreat.T
open Go.RowKit
def Lies (w:World) (g:Nat) (cs:Array Value) (t:TypeId):Prop:=w.heap[g]? = some (.cells cs t (0,0))
theorem Lies.cell {w:World} {g:Nat} {cs:Array Value} {t:TypeId} (h:Lies w g cs t) (j:Nat) {v:Value} (hv:cs[j]? = some v):w.cell? ⟨g,j,none⟩=some v:=by
 rw [cell_of_row w g j cs t (0,0) h];exact hv
theorem Lies.free {w:World} {g:Nat} {cs:Array Value} {t:TypeId} (h:Lies w g cs t) (j:Nat):w.frozen? ⟨g,j,none⟩=false:=frozen_of_row w g j cs t h
theorem Lies.lt {w:World} {g:Nat} {cs:Array Value} {t:TypeId} (h:Lies w g cs t):g < w.heap.size:=(Array.getElem?_eq_some_iff.1 h).1
theorem Lies.set {w:World} {g:Nat} {cs:Array Value} {t:TypeId} (h:Lies w g cs t) (j:Nat) (v:Value):Lies (w.setCell ⟨g,j,none⟩ v) g (cs.setIfInBounds j v) t:=heap_setCell_same w g j cs t v h
theorem Lies.other {w:World} {g:Nat} {cs:Array Value} {t:TypeId} (h:Lies w g cs t) (a:Addr) (v:Value) (hne:g≠a.block):Lies (w.setCell a v) g cs t:=(heap_setCell_other w a g v hne).trans h
theorem Lies.below {B:Nat} {w w':World} {g:Nat} {cs:Array Value} {t:TypeId} (h:Lies w g cs t) (hb:Below B w w') (hg:g < B):Lies w' g cs t:=(hb.block g hg).trans h
theorem Lies.new (w:World) (cs:Array Value) (t:TypeId):Lies (w.alloc (.cells cs t)) w.heap.size cs t:=heap_alloc_new w _
theorem Lies.alloc {w:World} {g:Nat} {cs:Array Value} {t:TypeId} (h:Lies w g cs t) (o:Obj):Lies (w.alloc o) g cs t:=(Below.heap_alloc w o g h.lt).trans h
def iv (n:Nat) (f:Nat→Nat):Array Value:=((List.range n).map fun j=>Value.int .i64 (f j)).toArray
theorem iv_get (n:Nat) (f:Nat→Nat) (j:Nat) (h:j < n):(iv n f)[j]? = some (.int .i64 (f j)):=by simp [iv,h]
def upd (f:Nat→Nat) (i x:Nat):Nat→Nat:=fun j=>if j=i then x else f j
theorem iv_set (n:Nat) (f:Nat→Nat) (i x:Nat):(iv n f).setIfInBounds i (.int .i64 x)=iv n (upd f i x):=by
 apply Array.ext'
 simp only [iv,Array.toList_setIfInBounds]
 apply List.ext_getElem?
 intro j
 by_cases hj:j < n
 ·
  rw [List.getElem?_set]
  by_cases e:i=j
  ·
   subst e;simp [hj,upd]
  ·
   have e2:¬ j=i:=fun h=>e h.symm
   simp [e,hj,upd,e2]
 ·
  rw [List.getElem?_eq_none (by simp;omega),List.getElem?_eq_none (by simp;omega)]
def NAt (w:World) (g off:Nat) (ns:List Nd):Prop:=g < w.heap.size∧∀ j (h:j < ns.length) i v,(ns[j]).cells[i]? = some v→w.cell? ⟨g,off+j * 5+i,none⟩=some v
theorem NAt.below {B:Nat} {w w':World} {g off:Nat} {ns:List Nd} (h:NAt w g off ns) (hb:Below B w w') (hg:g < B):NAt w' g off ns :=
 ⟨Nat.lt_of_lt_of_le h.1 hb.size,fun j hj i v hv=>(hb.cell (p:=⟨g,off+j * 5+i,none⟩) hg).trans (h.2 j hj i v hv)⟩
def walk (E D:Nat→Nat) (n:Nat):Nat→Nat × Nat→Option (Nat × Nat)
 | 0,s=>some s
 | k+1,s=>match walk E D n k s with
   | none=>none
   | some (a,m)=>if a=n then none else some (E a,max m (D a))
def ThrownT (e:Ending):Prop:=∃ v,e=.panicked [{ v:=.iface 64 v,recovered:=false }]
theorem size_set (w:World) (a:Addr) (v:Value):(w.setCell a v).heap.size=w.heap.size:=by simp [World.setCell]
theorem below_drewN {B:Nat} {w w':World} (h:Below B w w') (n:Nat):Below B w (w'.drewN n):=⟨h.os,h.tape,h.output,h.size,h.block⟩
theorem walk_le {E D:Nat→Nat} {n:Nat} (hE:∀ j,E j≤n) (hD:∀ j,D j≤n):∀ (k:Nat) (s:Nat × Nat) (a m:Nat),s.1≤n→s.2≤n→walk E D n k s=some (a,m)→a≤n∧m≤n
 | 0,s,a,m,h1,h2,h=>by
   simp only [walk,Option.some.injEq] at h
   subst h
   exact ⟨h1,h2⟩
 | k+1,s,a,m,h1,h2,h=>by
   simp only [walk] at h
   cases hk:walk E D n k s with
   | none=>rw [hk] at h;cases h
   | some x =>
     obtain ⟨a0,m0⟩:=x
     rw [hk] at h
     have ih:=walk_le hE hD k s a0 m0 h1 h2 hk
     simp only at h
     split at h
     · cases h
     · cases h
       exact ⟨hE _,by have:=hD a0;omega⟩
theorem walk_some {E D:Nat→Nat} {n k K:Nat} {s:Nat × Nat} {x:Nat × Nat} (h:walk E D n K s=some x) (hk:k≤K):∃ a m,walk E D n k s=some (a,m)∧(k < K→a≠n∧walk E D n (k+1) s=some (E a,max m (D a))):=by
 induction K generalizing x with
 | zero =>
   obtain rfl:k=0:=by omega
   exact ⟨s.1,s.2,rfl,fun h=>by omega⟩
 | succ K ih =>
   simp only [walk] at h
   cases hK:walk E D n K s with
   | none=>rw [hK] at h;cases h
   | some y =>
     obtain ⟨a0,m0⟩:=y
     rw [hK] at h
     simp only at h
     by_cases e:k=K+1
     · subst e
       refine ⟨x.1,x.2,?_,fun h=>by omega⟩
       simp only [walk,hK]
       exact h
     · by_cases e2:k=K
       · subst e2
         refine ⟨a0,m0,hK,fun _ => ?_⟩
         split at h
         · cases h
         · rename_i hne
           refine ⟨hne,?_⟩
           simp only [walk,hK]
           rw [if_neg hne]
       · obtain ⟨a,m,h1,h2⟩:=ih hK (by omega)
         exact ⟨a,m,h1,fun _=>h2 (by omega)⟩
theorem walk_none {E D:Nat→Nat} {n:Nat} {s:Nat × Nat}:∀ {K:Nat},walk E D n K s=none→∃ r m,r < K∧walk E D n r s=some (n,m)
 | 0,h=>by simp [walk] at h
 | K+1,h=>by
   simp only [walk] at h
   cases hK:walk E D n K s with
   | none =>
     obtain ⟨r,m,h1,h2⟩:=walk_none hK
     exact ⟨r,m,by omega,h2⟩
   | some y =>
     obtain ⟨a0,m0⟩:=y
     rw [hK] at h
     simp only at h
     split at h
     · rename_i e
       subst e
       exact ⟨K,m0,by omega,hK⟩
     · cases h
set_option maxRecDepth 100000 in
theorem set_ok (n g off nc gE cE gD cD i at' m':Nat) (K:Int) (E D:Nat→Nat) (w:World) (hi:i < n) (hkc:w.cell? ⟨g,off+i * 5+4,none⟩=some (.int .i64 K)) (hg:g < w.heap.size) (hE:Lies w gE (iv n E) 3) (hD:Lies w gD (iv n D) 3) (hne:gE≠gD) (hsz:n≤1000000)
  (hEb:∀ j,E j≤n) (hDb:∀ j,D j≤n) (hk:0≤K) (hk63:K≤9223372036854775807) (hw:walk E D n K.toNat (i+1,0)=some (at',m')) :
  Calls Tryz.prog 278 #[.agg #[.slice (some ⟨g,off,none⟩) n nc,.slice (some ⟨gE,0,none⟩) n cE,.slice (some ⟨gD,0,none⟩) n cD],.int .i64 i] w fun e w'=>e=.returned (.tuple #[]) ∧
   Lies w' gE (iv n (upd E i at')) 3∧Lies w' gD (iv n (upd D i (m'+1))) 3∧(∀ B,B≤gE→B≤gD→Below B w w')∧∀ k,k < w.heap.size→k≠gE→k≠gD→w'.heap[k]? = w.heap[k]? := by
 have i0:(0:Int)≤(i:Int):=by omega
 have i1:(i:Int) < (n:Int):=by omega
 have n1:(n:Int)≤1000000:=by omega
 have k0:¬ K < 0:=by omega
 have H:=Lib.hid (And.intro hE (And.intro hD (And.intro hne (And.intro hEb (And.intro hDb (And.intro hw (And.intro hi (And.intro hk (And.intro hg (And.intro hkc hsz))))))))))
 clear hE hD hne hEb hDb hw hi hk hg hkc hsz
 go_enter Tryz.func278,Tryz.ntmps278
 go_upto_region 1 with fail
 have hA:Lies (w.alloc (.cells #[.slice (some ⟨g,off,none⟩) n nc,.slice (some ⟨gE,0,none⟩) n cE,.slice (some ⟨gD,0,none⟩) n cD] 279)) w.heap.size #[.slice (some ⟨g,off,none⟩) n nc,.slice (some ⟨gE,0,none⟩) n cE,.slice (some ⟨gD,0,none⟩) n cD] 279:=Lies.new _ _ _
 have hb0:Below w.heap.size w (w.alloc (.cells #[.slice (some ⟨g,off,none⟩) n nc,.slice (some ⟨gE,0,none⟩) n cE,.slice (some ⟨gD,0,none⟩) n cD] 279)):=(Below.refl _ _).alloc (Nat.le_refl _) _
 generalize w.alloc (.cells #[.slice (some ⟨g,off,none⟩) n nc,.slice (some ⟨gE,0,none⟩) n cE,.slice (some ⟨gD,0,none⟩) n cD] 279)=W0 at hA hb0 ⊢
 have hall:∀ V,Below W0.heap.size W0 V→V.cell? ⟨w.heap.size,0,none⟩=some (.slice (some ⟨g,off,none⟩) n nc)∧V.cell? ⟨w.heap.size,1,none⟩=some (.slice (some ⟨gE,0,none⟩) n cE)∧V.cell? ⟨w.heap.size,2,none⟩=some (.slice (some ⟨gD,0,none⟩) n cD) ∧
   V.cell? ⟨g,off+i * 5+4,none⟩=some (.int .i64 K)∧Lies V gE (iv n E) 3∧Lies V gD (iv n D) 3∧Below w.heap.size w V:=fun V hV=>by
  have hbw:=hb0.trans (hV.mono hb0.size)
  have hA':=hA.below hV hA.lt
  exact ⟨hA'.cell 0 rfl,hA'.cell 1 rfl,hA'.cell 2 rfl,(hbw.cell (p:=⟨g,off+i * 5+4,none⟩) H.out.2.2.2.2.2.2.2.2.1).trans H.out.2.2.2.2.2.2.2.2.2.1,H.out.1.below hbw H.out.1.lt,H.out.2.1.below hbw H.out.2.1.lt,hbw⟩
 have h0:=hall _ (Below.refl _ _)
 have s0:=h0.1
 have s3:=h0.2.2.2.1
 have HALL:=Lib.hid hall
 clear hA hb0 hall h0
 go_wp2_with fail
 clear s0 s3
 go_loopw [4,5,22] (fun a m k W=>∃ (x y:Nat) (q:Nat),(q:Int)≤K∧a=.int .i64 x∧m=.int .i64 y∧k=.int .i64 q∧walk E D n q (i+1,0)=some (x,y)∧Below W0.heap.size W0 W) (fun _ _ k _=>(K - intOf k).toNat)
 case atStart=>exact ⟨i+1,0,0,by have:=H.out.2.2.2.2.2.2.2.1;omega,by go_num,rfl,rfl,rfl,Below.refl _ _⟩
 case round =>
  obtain ⟨x,y,q,hq,rfl,rfl,rfl,hwk,hbr⟩:=hrel
  have hbd:=walk_le H.out.2.2.2.1 H.out.2.2.2.2.1 q (i+1,0) x y (by have:=H.out.2.2.2.2.2.2.1;simp;omega) (Nat.zero_le _) hwk
  by_cases hlt:(q:Int) < K
  ·
   obtain ⟨a1,m1,h1,h2⟩:=walk_some H.out.2.2.2.2.2.1 (k:=q) (by omega)
   rw [hwk] at h1
   cases h1
   obtain ⟨hxn,hw2⟩:=h2 (by omega)
   have hx:=HALL.out _ hbr
   have s0:=hx.1
   have s1:=hx.2.1
   have s2:=hx.2.2.1
   have cE':=hx.2.2.2.2.1.cell x (iv_get n E x (by omega))
   have cD':=hx.2.2.2.2.2.1.cell x (iv_get n D x (by omega))
   obtain ⟨ex,hex⟩:∃ e,e=E x:=⟨_,rfl⟩
   obtain ⟨dx,hdx⟩:∃ e,e=D x:=⟨_,rfl⟩
   rw [← hex] at cE' hw2
   rw [← hdx] at cD' hw2
   have j1:(x:Int) < (n:Int):=by omega
   have j0:(0:Int)≤(x:Int):=by omega
   have j2:((x:Int) == (n:Int))=false:=by rw [beq_eq_false_iff_ne];omega
   have j3:(x == n)=false:=by rw [beq_eq_false_iff_ne];exact hxn
   have HR:=Lib.hid (And.intro hbr (And.intro hw2 hq))
   clear hx hbr hw2 hwk hex hdx hbd hxn hq h2
   go_wp2_with fail
   go_quiet (fail)
   go_wp2_with fail
   have hq:=HR.out.2.2
   refine ⟨⟨ex,max y dx,q+1,by omega,rfl,?_,by go_num,HR.out.2.1,below_drewN HR.out.1 _⟩,?_⟩
   ·
    refine congrArg (Value.int .i64) ?_
    split <;> omega
   ·
    simp [intOf];omega
  ·
   have hqk:(q:Int)=K:=by omega
   have hqn:q=K.toNat:=by omega
   rw [hqn,H.out.2.2.2.2.2.1] at hwk
   cases hwk
   have hx:=HALL.out _ hbr
   have s1:=hx.2.1
   have s2:=hx.2.2.1
   have cE':=hx.2.2.2.2.1.cell i (iv_get n E i H.out.2.2.2.2.2.2.1)
   have cD':=hx.2.2.2.2.2.1.cell i (iv_get n D i H.out.2.2.2.2.2.2.1)
   have fE':=hx.2.2.2.2.1.free i
   have fD':=hx.2.2.2.2.2.1.free i
   have HX:=Lib.hid hx
   have j3:¬ (q:Int) < K:=by omega
   have j4:decide ((q:Int) < K)=false:=by simp;omega
   have hm1:IntKind.i64.wrap ((m':Int)+1)=((m'+1:Nat):Int):=by rw [IntKind.wrap_i64];omega
   clear hx hbr hlt hq hqk hqn
   have e1:¬ gE=gD:=H.out.2.2.1
   have e2:¬ gD=gE:=fun e=>H.out.2.2.1 e.symm
   have l1:=H.out.1.lt
   have l2:=H.out.2.1.lt
   have e3:¬ gE=w.heap.size:=by omega
   have e4:¬ w.heap.size=gE:=by omega
   have e5:¬ gD=w.heap.size:=by omega
   have e6:¬ w.heap.size=gD:=by omega
   go_upto_region 10 with fail
   clear l1 l2
   go_region
   have hl:=HX.out
   have f1:Lies (wr.setCell ⟨gE,i,none⟩ (.int .i64 at')) gE (iv n (upd E i at')) 3:=by rw [← iv_set];exact hl.2.2.2.2.1.set i _
   have f2:Lies (wr.setCell ⟨gE,i,none⟩ (.int .i64 at')) gD (iv n D) 3:=hl.2.2.2.2.2.1.other _ _ (fun e=>e2 e)
   have g1:Lies ((wr.setCell ⟨gE,i,none⟩ (.int .i64 at')).setCell ⟨gD,i,none⟩ (.int .i64 ((m':Int)+1))) gE (iv n (upd E i at')) 3:=f1.other _ _ (fun e=>e1 e)
   have g2:Lies ((wr.setCell ⟨gE,i,none⟩ (.int .i64 at')).setCell ⟨gD,i,none⟩ (.int .i64 ((m':Int)+1))) gD (iv n (upd D i (m'+1))) 3:=by
    rw [← iv_set,show ((m'+1:Nat):Int)=(m':Int)+1 by omega]
    exact f2.set i _
   have g3:∀ B,B≤gE→B≤gD→Below B w ((wr.setCell ⟨gE,i,none⟩ (.int .i64 at')).setCell ⟨gD,i,none⟩ (.int .i64 ((m':Int)+1))):=fun B b1 b2 =>
    ((hl.2.2.2.2.2.2.mono (by have:=H.out.1.lt;omega)).setCell (p:=⟨gE,i,none⟩) b1 _).setCell (p:=⟨gD,i,none⟩) b2 _
   have g4:∀ k,k < w.heap.size→k≠gE→k≠gD→((wr.setCell ⟨gE,i,none⟩ (.int .i64 at')).setCell ⟨gD,i,none⟩ (.int .i64 ((m':Int)+1))).heap[k]? = w.heap[k]? := fun k h1 h2 h3 =>
    (heap_setCell_other _ ⟨gD,i,none⟩ k _ h3).trans ((heap_setCell_other _ ⟨gE,i,none⟩ k _ h2).trans (hl.2.2.2.2.2.2.block k h1))
   go_end0
   exact ⟨rfl,g1,g2,fun B b1 b2=>(g3 B b1 b2).drew,g4⟩
set_option maxRecDepth 100000 in
theorem set_bad (n g off nc gE cE gD cD i:Nat) (K:Int) (E D:Nat→Nat) (w:World) (hi:i < n) (hkc:w.cell? ⟨g,off+i * 5+4,none⟩=some (.int .i64 K)) (hg:g < w.heap.size) (hE:Lies w gE (iv n E) 3) (hD:Lies w gD (iv n D) 3) (hne:gE≠gD) (hsz:n≤1000000)
  (hEb:∀ j,E j≤n) (hDb:∀ j,D j≤n) (hk63:K≤9223372036854775807) (hw:K < 0 ∨ 0≤K∧walk E D n K.toNat (i+1,0)=none) :
  Calls Tryz.prog 278 #[.agg #[.slice (some ⟨g,off,none⟩) n nc,.slice (some ⟨gE,0,none⟩) n cE,.slice (some ⟨gD,0,none⟩) n cD],.int .i64 i] w fun e w'=>ThrownT e∧Below w.heap.size w w':=by
 have i0:(0:Int)≤(i:Int):=by omega
 have i1:(i:Int) < (n:Int):=by omega
 have n1:(n:Int)≤1000000:=by omega
 have H:=Lib.hid (And.intro hE (And.intro hD (And.intro hne (And.intro hEb (And.intro hDb (And.intro hw (And.intro hi (And.intro trivial (And.intro hg (And.intro hkc hsz))))))))))
 clear hE hD hne hEb hDb hw hi hg hkc hsz
 go_enter Tryz.func278,Tryz.ntmps278
 go_upto_region 1 with fail
 have hA:Lies (w.alloc (.cells #[.slice (some ⟨g,off,none⟩) n nc,.slice (some ⟨gE,0,none⟩) n cE,.slice (some ⟨gD,0,none⟩) n cD] 279)) w.heap.size #[.slice (some ⟨g,off,none⟩) n nc,.slice (some ⟨gE,0,none⟩) n cE,.slice (some ⟨gD,0,none⟩) n cD] 279:=Lies.new _ _ _
 have hb0:Below w.heap.size w (w.alloc (.cells #[.slice (some ⟨g,off,none⟩) n nc,.slice (some ⟨gE,0,none⟩) n cE,.slice (some ⟨gD,0,none⟩) n cD] 279)):=(Below.refl _ _).alloc (Nat.le_refl _) _
 generalize w.alloc (.cells #[.slice (some ⟨g,off,none⟩) n nc,.slice (some ⟨gE,0,none⟩) n cE,.slice (some ⟨gD,0,none⟩) n cD] 279)=W0 at hA hb0 ⊢
 have hall:∀ V,Below W0.heap.size W0 V→V.cell? ⟨w.heap.size,0,none⟩=some (.slice (some ⟨g,off,none⟩) n nc)∧V.cell? ⟨w.heap.size,1,none⟩=some (.slice (some ⟨gE,0,none⟩) n cE)∧V.cell? ⟨w.heap.size,2,none⟩=some (.slice (some ⟨gD,0,none⟩) n cD) ∧
   V.cell? ⟨g,off+i * 5+4,none⟩=some (.int .i64 K)∧Lies V gE (iv n E) 3∧Lies V gD (iv n D) 3∧Below w.heap.size w V:=fun V hV=>by
  have hbw:=hb0.trans (hV.mono hb0.size)
  have hA':=hA.below hV hA.lt
  exact ⟨hA'.cell 0 rfl,hA'.cell 1 rfl,hA'.cell 2 rfl,(hbw.cell (p:=⟨g,off+i * 5+4,none⟩) H.out.2.2.2.2.2.2.2.2.1).trans H.out.2.2.2.2.2.2.2.2.2.1,H.out.1.below hbw H.out.1.lt,H.out.2.1.below hbw H.out.2.1.lt,hbw⟩
 have h0:=hall _ (Below.refl _ _)
 have s0:=h0.1
 have s3:=h0.2.2.2.1
 have HALL:=Lib.hid hall
 have HB0:=Lib.hid h0.2.2.2.2.2.2
 clear hA hb0 hall h0
 rcases H.out.2.2.2.2.2.1 with hneg | ⟨hk,hw⟩
 ·
  go_wp2_with fail
  exact ⟨rfl,⟨_,rfl⟩,HB0.out⟩
 ·
  obtain ⟨r,mr,hr,hwr⟩:=walk_none hw
  have HW:=Lib.hid (And.intro hr (And.intro hwr hk))
  have k0:¬ K < 0:=by omega
  clear hr hwr hw hk
  go_wp2_with fail
  clear s0 s3
  go_loopw [4,5,22] (fun a m k W=>∃ (x y:Nat) (q:Nat),q≤r∧a=.int .i64 x∧m=.int .i64 y∧k=.int .i64 q∧walk E D n q (i+1,0)=some (x,y)∧Below W0.heap.size W0 W) (fun _ _ k _=>(K - intOf k).toNat)
  case atStart=>exact ⟨i+1,0,0,by omega,by go_num,rfl,rfl,rfl,Below.refl _ _⟩
  case round =>
   obtain ⟨x,y,q,hq,rfl,rfl,rfl,hwk,hbr⟩:=hrel
   have hbd:=walk_le H.out.2.2.2.1 H.out.2.2.2.2.1 q (i+1,0) x y (by have:=H.out.2.2.2.2.2.2.1;simp;omega) (Nat.zero_le _) hwk
   have hqK:(q:Int) < K:=by have:=HW.out.1;have:=HW.out.2.2;omega
   have hx:=HALL.out _ hbr
   have s0:=hx.1
   by_cases hlt:q < r
   ·
    obtain ⟨a1,m1,h1,h2⟩:=walk_some HW.out.2.1 (k:=q) (by omega)
    rw [hwk] at h1
    cases h1
    obtain ⟨hxn,hw2⟩:=h2 (by omega)
    have s1:=hx.2.1
    have s2:=hx.2.2.1
    have cE':=hx.2.2.2.2.1.cell x (iv_get n E x (by omega))
    have cD':=hx.2.2.2.2.2.1.cell x (iv_get n D x (by omega))
    obtain ⟨ex,hex⟩:∃ e,e=E x:=⟨_,rfl⟩
    obtain ⟨dx,hdx⟩:∃ e,e=D x:=⟨_,rfl⟩
    rw [← hex] at cE' hw2
    rw [← hdx] at cD' hw2
    have j1:(x:Int) < (n:Int):=by omega
    have j0:(0:Int)≤(x:Int):=by omega
    have j2:((x:Int) == (n:Int))=false:=by rw [beq_eq_false_iff_ne];omega
    have j3:(x == n)=false:=by rw [beq_eq_false_iff_ne];exact hxn
    have HR:=Lib.hid (And.intro hbr (And.intro hw2 (And.intro hq (And.intro hqK hlt))))
    clear hx hbr hw2 hwk hex hdx hbd hxn hq h2 hlt
    go_wp2_with fail
    go_quiet (fail)
    go_wp2_with fail
    have hq:=HR.out.2.2
    refine ⟨⟨ex,max y dx,q+1,by omega,rfl,?_,by go_num,HR.out.2.1,below_drewN HR.out.1 _⟩,?_⟩
    ·
     refine congrArg (Value.int .i64) ?_
     split <;> omega
    ·
     simp [intOf];omega
   ·
    obtain rfl:q=r:=by omega
    rw [HW.out.2.1] at hwk
    cases hwk
    have hfin:=hx.2.2.2.2.2.2
    clear hx hbr hbd hlt hq
    go_wp2_with fail
    exact ⟨rfl,⟨_,rfl⟩,hfin⟩
end Go.Proofs.YtilbbemdinpjcaaGreat.T
namespace Go.Proofs.YtilbbemdinpjcaaGreat.T
open Go.RowKit
section
variable {P:Program} {ops:Array Oper} {Q:Exit→Act→World→Prop} {md:Region.Mode}
theorem count_true (l:Array Bool) (i:Nat) (h:l.getD i true=false):(l.setIfInBounds i true).toList.count false+1=l.toList.count false:=by
 have hi:i < l.size:=by
  apply Decidable.byContradiction
  intro hn
  rw [Array.getD_eq_getD_getElem?,Array.getElem?_eq_none (by omega)] at h
  cases h
 have hv:l.toList[i]'(by simpa using hi)=false:=by
  rw [Array.getD_eq_getD_getElem?,Array.getElem?_eq_getElem hi] at h
  simpa using h
 rw [Array.toList_setIfInBounds,List.count_set (by simpa using hi),hv]
 have hm:false ∈ l.toList:=by rw [← hv];exact List.getElem_mem _
 have hp:0 < l.toList.count false:=List.count_pos_iff.2 hm
 generalize l.toList.count false=c at hp ⊢
 have e:(if (true == false)=true then 1 else 0:Nat)=0:=rfl
 have e2:(if (false == false)=true then 1 else 0:Nat)=1:=rfl
 rw [e,e2]
 omega
theorem wpAny_inv (I:Array Bool→Act→World→Prop) (hdone:∀ l a w,I l a w→Region.ready md ops l=[]→Q .normal a w)
 (hstep:∀ l a w i,I l a w→i ∈ Region.ready md ops l→wpOp P ops Q i (I (l.setIfInBounds i true)) a w) :
 ∀ fuel l a w,l.toList.count false≤fuel→I l a w→wpAny P md ops Q fuel l a w:=by
 intro fuel
 induction fuel with
 | zero =>
   intro l a w hc hI
   have hr:Region.ready md ops l=[]:=by
    rw [List.eq_nil_iff_forall_not_mem]
    intro i hi
    have:=count_true l i (mem_ready.1 hi).1
    omega
   exact ⟨hr,hdone _ _ _ hI hr⟩
 | succ fuel ih =>
   intro l a w hc hI
   refine ⟨fun h=>hdone _ _ _ hI h,fun i hi=>wpOp_mono (fun a' w' h'=>ih _ a' w' ?_ h') (hstep l a w i hI hi)⟩
   have:=count_true l i (mem_ready.1 hi).1
   omega
end
section
variable {P:Program} {ops:Array Oper} {Q:Exit→Act→World→Prop} {md:Region.Mode}
end
def put4 (a:Act) (s1 s2 p1 p2:Tmp) (v1 v2 v3 v4:Value):Act:=(((a.put (some s1) v1).put (some s2) v2).put (some p1) v3).put (some p2) v4
theorem put_twice (a:Act) (s:Tmp) (u v:Value):(a.put (some s) u).put (some s) v=a.put (some s) v:=by simp [Act.put]
theorem put_turn (a:Act) (s t:Tmp) (u v:Value) (h:s≠t):(a.put (some s) u).put (some t) v=(a.put (some t) v).put (some s) u:=by
 simp only [Act.put];rw [Array.setIfInBounds_comm _ _ h]
theorem put4_1 (a:Act) (s1 s2 p1 p2:Tmp) (v1 v2 v3 v4 v:Value) (h2:s1≠s2) (h3:s1≠p1) (h4:s1≠p2):(put4 a s1 s2 p1 p2 v1 v2 v3 v4).put (some s1) v=put4 a s1 s2 p1 p2 v v2 v3 v4:=by
 unfold put4
 rw [put_turn _ p2 s1 _ _ (Ne.symm h4),put_turn _ p1 s1 _ _ (Ne.symm h3),put_turn _ s2 s1 _ _ (Ne.symm h2),put_twice]
theorem put4_2 (a:Act) (s1 s2 p1 p2:Tmp) (v1 v2 v3 v4 v:Value) (h3:s2≠p1) (h4:s2≠p2):(put4 a s1 s2 p1 p2 v1 v2 v3 v4).put (some s2) v=put4 a s1 s2 p1 p2 v1 v v3 v4:=by
 unfold put4
 rw [put_turn _ p2 s2 _ _ (Ne.symm h4),put_turn _ p1 s2 _ _ (Ne.symm h3),put_twice]
theorem put4_3 (a:Act) (s1 s2 p1 p2:Tmp) (v1 v2 v3 v4 v:Value) (h4:p1≠p2):(put4 a s1 s2 p1 p2 v1 v2 v3 v4).put (some p1) v=put4 a s1 s2 p1 p2 v1 v2 v v4:=by
 unfold put4
 rw [put_turn _ p2 p1 _ _ (Ne.symm h4),put_twice]
theorem put4_4 (a:Act) (s1 s2 p1 p2:Tmp) (v1 v2 v3 v4 v:Value):(put4 a s1 s2 p1 p2 v1 v2 v3 v4).put (some p2) v=put4 a s1 s2 p1 p2 v1 v2 v3 v:=by
 unfold put4
 rw [put_twice]
theorem all_two {p:Bool→Bool} (h:[false,true].all p=true) (b:Bool):p b=true:=by
 simp at h
 cases b
 ·
  exact h.1
 ·
  exact h.2
theorem put_self (a:Act) (s:Tmp):a.put (some s) (a.tmps.getD s undef)=a:=by
 cases a with
 | mk tmps defers =>
   simp only [Act.put]
   congr 1
   apply Array.ext
   · simp
   · intro i h1 h2
     rw [Array.getElem_setIfInBounds (by simpa using h2)]
     split
     · rename_i h;subst h;simp [Array.getD_eq_getD_getElem?,h2]
     · rfl
theorem put4_self (a:Act) (s1 s2 p1 p2:Tmp) (h12:s1≠s2) (h13:s1≠p1) (h14:s1≠p2) (h23:s2≠p1) (h24:s2≠p2) (h34:p1≠p2):∃ v1 v2 v3 v4,a=put4 a s1 s2 p1 p2 v1 v2 v3 v4:=by
 have _:=And.intro h12 (And.intro h13 (And.intro h14 (And.intro h23 (And.intro h24 h34))))
 refine ⟨a.tmps.getD s1 undef,a.tmps.getD s2 undef,a.tmps.getD p1 undef,a.tmps.getD p2 undef,?_⟩
 unfold put4
 rw [put_self,put_self,put_self,put_self]
theorem eval_put_same (a:Act) (s:Tmp) (v:Value) (h:s < a.tmps.size):(a.put (some s) v).eval (.tmp s)=v:=by
 simp [Act.put,Act.eval,Array.getD_eq_getD_getElem?,h]
theorem eval_put_other (a:Act) (s t:Tmp) (v:Value) (h:s≠t):(a.put (some s) v).eval (.tmp t)=a.eval (.tmp t) :=
 Act.eval_put (fun d hd=>by intro e;injection e with e;injection hd with hd;exact h (hd.trans e.symm))
theorem put_size (a:Act) (s:Tmp) (v:Value):(a.put (some s) v).tmps.size=a.tmps.size:=by simp [Act.put]
theorem eval4_3 (a:Act) (s1 s2 p1 p2:Tmp) (v1 v2 v3 v4:Value) (h4:p2≠p1) (h:p1 < a.tmps.size):(put4 a s1 s2 p1 p2 v1 v2 v3 v4).eval (.tmp p1)=v3:=by
 unfold put4
 rw [eval_put_other _ _ _ _ h4,eval_put_same _ _ _ (by rw [put_size,put_size];exact h)]
theorem eval4_4 (a:Act) (s1 s2 p1 p2:Tmp) (v1 v2 v3 v4:Value) (h:p2 < a.tmps.size):(put4 a s1 s2 p1 p2 v1 v2 v3 v4).eval (.tmp p2)=v4:=by
 unfold put4
 rw [eval_put_same _ _ _ (by rw [put_size,put_size,put_size];exact h)]
section
variable {P:Program} {ops:Array Oper} {Q:Exit→Act→World→Prop}
theorem wanted_bare {o:Oper} {a:Act} (hg:o.guard=none):Region.wanted o (yielded ops a.tmps)=true:=by simp [Region.wanted,hg]
theorem wpOp_call {i:Nat} {o:Oper} {a:Act} {w:World} {K:Act→World→Prop} (hi:ops[i]? = some o) (hg:o.guard=none) (f:FuncId) (args:Array Value)
  (hr:(execOp a.eval o).run P w=.ok (.enter f args) w) (R:Value→World→Prop) (hc:Calls P f args w fun e w'=>∃ v,e=.returned v∧R v w') (h:∀ v w',R v w'→K (a.put o.dst v) w'):wpOp P ops Q i K a w:=by
 unfold wpOp
 rw [hi]
 show if Region.wanted o (yielded ops a.tmps)=true then _ else _
 rw [if_pos (wanted_bare hg)]
 refine .inl ?_
 unfold Oper.wp
 rw [hr,Oper.upon_enter]
 refine hc.mono fun e w' hh => ?_
 obtain ⟨v,rfl,hR⟩:=hh
 exact h v w' hR
theorem wpOp_wp {i:Nat} {o:Oper} {a:Act} {w:World} {K:Act→World→Prop} (hi:ops[i]? = some o) (hg:o.guard=none) (h:o.wp P a w K Q):wpOp P ops Q i K a w:=by
 unfold wpOp
 rw [hi]
 show if Region.wanted o (yielded ops a.tmps)=true then _ else _
 rw [if_pos (wanted_bare hg)]
 exact .inl h
end
section
variable {P:Program} {ops:Array Oper} {Q:Exit→Act→World→Prop} {md:Region.Mode}
end
section
variable {P:Program} {ops:Array Oper} {Q:Exit→Act→World→Prop}
theorem wpOp_callTo {i:Nat} {o:Oper} {a:Act} {w:World} {K:Act→World→Prop} (hi:ops[i]? = some o) (hg:o.guard=none) (d:Tmp) (hd:o.dst=some d) (f:FuncId) (args:Array Value)
  (hr:(execOp a.eval o).run P w=.ok (.enter f args) w) (R:Value→World→Prop) (hc:Calls P f args w fun e w'=>∃ v,e=.returned v∧R v w') (h:∀ v w',R v w'→K (a.put (some d) v) w'):wpOp P ops Q i K a w :=
 wpOp_call hi hg f args hr R hc (by rw [hd];exact h)
theorem wpOp_valueTo {i:Nat} {o:Oper} {a:Act} {w w':World} {K:Act→World→Prop} {v:Value} (hi:ops[i]? = some o) (hg:o.guard=none) (d:Tmp) (hd:o.dst=some d)
  (hr:(execOp a.eval o).run P w=.ok (.value v) w') (h:K (a.put (some d) v) w'):wpOp P ops Q i K a w:=by
 refine wpOp_wp hi hg ?_
 unfold Oper.wp
 rw [hr,Oper.upon_value,hd]
 exact h
end
section
variable {P:Program} {ops:Array Oper} {Q:Exit→Act→World→Prop} {md:Region.Mode} {S:World→Prop}
theorem held_take {i:Nat} {oi:Oper} {v:Value} {fuel:Nat} {listed:Array Bool} {a:Act} {w:World} (hi:ops[i]? = some oi) (d:Tmp) (hd:oi.dst=some d)
  (hs:Region.noSelect ops=true) (hf:Region.free md ops listed i=true) (hr:(Region.ready md ops listed).contains i=true) (hQ:∀ c a w,Q (.panic c) (a.put (some d) v) w→Q (.panic c) a w)
  (hw:Region.wanted oi (yielded ops a.tmps)=true) (hy:∀ w,S w→(execOp a.eval oi).run P w=.ok (.value v) w) (hS:S w) (l2:Array Bool) (hl:listed.setIfInBounds i true=l2)
  (h:wpAnyH P md ops Q S fuel l2 (a.put (some d) v) w):wpAnyH P md ops Q S (fuel+1) listed a w:=by
 subst hl
 rw [← hd] at h hQ
 exact wpAnyH_take hi hs hf hr hQ (.inl ⟨hw,hy⟩) hS h
theorem held_one {i:Nat} {fuel:Nat} {listed:Array Bool} {a:Act} {w:World} (hr:Region.ready md ops listed=[i]) (l2:Array Bool) (hl:listed.setIfInBounds i true=l2)
  (h:wpOp P ops Q i (fun a' w'=>S w'∧wpAnyH P md ops Q S fuel l2 a' w') a w):wpAnyH P md ops Q S (fuel+1) listed a w:=by
 subst hl
 refine wpAnyH_all hr (by simp) ?_
 intro j hj
 obtain rfl:j=i:=by simpa using hj
 exact h
theorem wpOp_valG {i:Nat} {o:Oper} {a:Act} {w w':World} {K:Act→World→Prop} {v:Value} (hi:ops[i]? = some o) (hw:Region.wanted o (yielded ops a.tmps)=true) (d:Tmp) (hd:o.dst=some d)
  (hr:(execOp a.eval o).run P w=.ok (.value v) w') (h:K (a.put (some d) v) w'):wpOp P ops Q i K a w:=by
 unfold wpOp
 rw [hi]
 show if Region.wanted o (yielded ops a.tmps)=true then _ else _
 rw [if_pos hw]
 refine .inl ?_
 unfold Oper.wp
 rw [hr,Oper.upon_value,hd]
 exact h
theorem wpOp_callG {i:Nat} {o:Oper} {a:Act} {w:World} {K:Act→World→Prop} (hi:ops[i]? = some o) (hw:Region.wanted o (yielded ops a.tmps)=true) (d:Tmp) (hd:o.dst=some d) (f:FuncId) (args:Array Value)
  (hr:(execOp a.eval o).run P w=.ok (.enter f args) w) (R:Value→World→Prop) (hc:Calls P f args w fun e w'=>∃ v,e=.returned v∧R v w') (h:∀ v w',R v w'→K (a.put (some d) v) w'):wpOp P ops Q i K a w:=by
 unfold wpOp
 rw [hi]
 show if Region.wanted o (yielded ops a.tmps)=true then _ else _
 rw [if_pos hw]
 refine .inl ?_
 unfold Oper.wp
 rw [hr,Oper.upon_enter]
 refine hc.mono fun e w' hh => ?_
 obtain ⟨v,rfl,hR⟩:=hh
 rw [hd]
 exact h v w' hR
end
section
variable {P:Program} {ops:Array Oper} {Q:Exit→Act→World→Prop} {md:Region.Mode} {S:World→Prop}
theorem wpAnyH_inv (I:Array Bool→Act→World→Prop) (hdone:∀ l a w,I l a w→Region.ready md ops l=[]→Q .normal a w)
 (hstep:∀ l a w i,I l a w→i ∈ Region.ready md ops l→wpOp P ops Q i (fun a' w'=>S w'∧I (l.setIfInBounds i true) a' w') a w) :
 ∀ fuel l a w,l.toList.count false≤fuel→I l a w→wpAnyH P md ops Q S fuel l a w:=by
 intro fuel
 induction fuel with
 | zero =>
   intro l a w hc hI
   have hr:Region.ready md ops l=[]:=by
    rw [List.eq_nil_iff_forall_not_mem]
    intro i hi
    have:=count_true l i (mem_ready.1 hi).1
    omega
   exact ⟨hr,hdone _ _ _ hI hr⟩
 | succ fuel ih =>
   intro l a w hc hI
   refine ⟨fun h=>hdone _ _ _ hI h,fun i hi=>wpOp_mono (fun a' w' h'=>⟨h'.1,ih _ a' w' ?_ h'.2⟩) (hstep l a w i hI hi)⟩
   have:=count_true l i (mem_ready.1 hi).1
   omega
end
section
variable {P:Program} {ops:Array Oper} {Q:Exit→Act→World→Prop} {md:Region.Mode} {S:World→Prop}
theorem held_two {i j:Nat} {fuel:Nat} {listed:Array Bool} {a:Act} {w:World} (hr:Region.ready md ops listed=[i,j]) (l1 l2:Array Bool) (h1:listed.setIfInBounds i true=l1) (h2:listed.setIfInBounds j true=l2)
  (k1:wpOp P ops Q i (fun a' w'=>S w'∧wpAnyH P md ops Q S fuel l1 a' w') a w) (k2:wpOp P ops Q j (fun a' w'=>S w'∧wpAnyH P md ops Q S fuel l2 a' w') a w):wpAnyH P md ops Q S (fuel+1) listed a w:=by
 subst h1 h2
 refine wpAnyH_all hr (by simp) ?_
 intro x hx
 simp only [List.mem_cons,List.not_mem_nil,or_false] at hx
 rcases hx with rfl | rfl
 ·
  exact k1
 ·
  exact k2
end
end Go.Proofs.YtilbbemdinpjcaaGreat.T
