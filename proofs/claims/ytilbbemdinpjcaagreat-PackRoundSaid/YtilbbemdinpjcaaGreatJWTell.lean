/-
  tell: what an ask tells; where it is not met, the reader is spoilt, and stands where it stood.
-/
import Derived.Test.YtilbbemdinpjcaaGreatJWRnum
namespace Go.Proofs.YtilbbemdinpjcaaGreat.W
open Go.RowKit
theorem bcell {B:Nat} {W w1:World} (hb:Below B W w1):(∀ b o,b < B→w1.cell? ⟨b,o,none⟩=W.cell? ⟨b,o,none⟩)∧(∀ b o,b < B→w1.frozen? ⟨b,o,none⟩=W.frozen? ⟨b,o,none⟩) :=
 ⟨fun b o h=>hb.cell (p:=⟨b,o,none⟩) h,fun b o h=>hb.frozen (p:=⟨b,o,none⟩) h⟩
theorem Only.frozen {g:Nat} {w w':World} (h:Only g w w' none) {b o:Nat} (hb:b < w.heap.size) (hne:b≠g):w'.frozen? ⟨b,o,none⟩=w.frozen? ⟨b,o,none⟩:=by
 have:=h.block b hb hne (by simp)
 unfold World.frozen?
 simp only [this]
def Met' (K:Nat) (cap:Array Value) (w:World) (g k:Nat) (xs:List UInt8) (c a a':Nat) (v:Value):Prop :=
 ∀ W,Below w.heap.size w W→Rdr W g k xs c a false→Calls Tryz.prog K cap W fun e W'=>e=.returned v∧Rdr W' g k xs c a' false∧Only g W W' none
def Thrown' (K:Nat) (cap:Array Value) (w:World) (g k:Nat) (xs:List UInt8) (c a:Nat):Prop :=
 ∀ W,Below w.heap.size w W→Rdr W g k xs c a false→Calls Tryz.prog K cap W fun e W'=>Unmet e∧(∃ a',Rdr W' g k xs c a' false)∧Only g W W' none
theorem callK (K:Nat) (fn:Func) (hf:Tryz.prog.funcs[K]? = some fn) (hb:fn.body.isSome=true) (hn:(fn.name == "runtime.NumGoroutine")=false) (cap:Array Value) (w:World):(callFunc K cap).run Tryz.prog w=.ok (.enter K cap) w:=by
 have h1:fn.name≠"runtime.NumGoroutine" := by simpa using hn
 have h2:fn.body≠none:=by
  intro e
  rw [e] at hb
  cases hb
 simp [callFunc,hf,h1,h2]
set_option maxRecDepth 100000 in
theorem catch100_panicking (p q g:Nat) (a:Nat) (v0 v1:Value) (u:TypeId) (pv:Value) (older:List PanicEntry) (w:World) (hp:w.cell? ⟨p,0,none⟩=some (.int .i64 a)) (hq:w.cell? ⟨q,0,none⟩=some (.pointer (some ⟨g,0,none⟩)))
  (h3:w.cell? ⟨g,3,none⟩=some v0) (f3:w.frozen? ⟨g,3,none⟩=false) (h1:w.cell? ⟨g,1,none⟩=some v1) (f1:w.frozen? ⟨g,1,none⟩=false) (ho:v1.oneCell'=true) :
  CallsD Tryz.prog 285 #[.pointer (some ⟨p,0,none⟩),.pointer (some ⟨q,0,none⟩)] (.panicking ({ v:=.iface u pv,recovered:=false } :: older)) w fun e u' w' =>
   e=.returned (.tuple #[])∧u'=.panicking ({ v:=.iface u pv,recovered:=true } :: older)∧w'=(w.setCell ⟨g,3,none⟩ (.int .i64 a)).setCell ⟨g,1,none⟩ (.bool true):=by
 have k1:(w.setCell ⟨g,3,none⟩ (.int .i64 a)).cell? ⟨g,1,none⟩=some v1:=by simp [go_sem,h1]
 have k2:(w.setCell ⟨g,3,none⟩ (.int .i64 a)).frozen? ⟨g,1,none⟩=false:=by simp [go_sem,f1]
 have k3:(w.setCell ⟨g,3,none⟩ (.int .i64 a)).cell? ⟨q,0,none⟩=some (.pointer (some ⟨g,0,none⟩)):=by simp [go_sem,hq]
 have hs:=spoil_any (w.setCell ⟨g,3,none⟩ (.int .i64 a)) g v1 k1 k2 ho
 refine callsD_of_wpS Tryz.func285 rfl fun c₀ cs hu => ?_
 apply wpS_seq
 apply wpS_region
 simp [wpOpsS,go_sem,recoverD,hu,Tryz.ntmps285,Exit.thenS]
 refine wpS_cond (t:=true) (by simp [Act.eval,Array.replicate]) ?_
 simp only [if_true]
 refine wpS_of_wp ?_
 go_wp2_with fail
 refine hs.mono ?_
 rintro e w2 ⟨rfl,rfl⟩
 go_wp2_with fail
 simp [bodyPostS,results,Tryz.results285]
theorem catch100_idle (p q:Addr) (w:World) :
  CallsD Tryz.prog 285 #[.pointer (some p),.pointer (some q)] .returning w fun e u' w'=>e=.returned (.tuple #[])∧u'=.returning∧w'=w:=by
 refine callsD_of_wpS Tryz.func285 rfl fun c₀ cs hu => ?_
 apply wpS_seq
 apply wpS_region
 simp [wpOpsS,go_sem,recoverD,hu,Tryz.ntmps285,Exit.thenS]
 refine wpS_cond (t:=false) (by simp [Act.eval,Array.replicate]) ?_
 simp only [Bool.false_eq_true,if_false]
 refine wpS_of_wp (wp_skip ?_)
 cases c₀
 simp_all [bodyPostS,results,Tryz.results285]
set_option maxRecDepth 100000 in
theorem tell73_idle (w:World) (p:Option Addr) (fv:Value) (h:Idle w p):Calls Tryz.prog 258 #[.pointer p,fv] w fun e w'=>e=.returned (.int .i64 0)∧Below w.heap.size w w':=by
 have hb:Below w.heap.size w (w.alloc (.cells #[.pointer p] 56)):=(Below.refl _ _).alloc (Nat.le_refl _) _
 have ht:=tells_idle _ p (h.below hb)
 have HT:=Lib.hid ht
 have HB:=Lib.hid hb
 clear ht hb h
 go_enter_defers Tryz.func258,Tryz.ntmps258
 go_wp2_with fail
 refine HT.out.mono ?_
 rintro e w1 ⟨rfl,rfl⟩
 go_wp2_with fail
 simp [bodyPostD,Leaves,results,Tryz.results258,go_sem]
 exact HB.out
set_option maxRecDepth 100000 in
theorem tell73_met (w:World) (g k:Nat) (xs:List UInt8) (c a a':Nat) (v:Value) (K:Nat) (cap:Array Value) (h:Rdr w g k xs c a false) (hK:∀ w:World,(callFunc K cap).run Tryz.prog w=.ok (.enter K cap) w) (hm:Met' K cap w g k xs c a a' v) :
  Calls Tryz.prog 258 #[.pointer (some ⟨g,0,none⟩),.func (Fn.func K) #[] cap] w fun e w'=>e=.returned v∧Rdr w' g k xs c a' false∧Only g w w' none:=by
 have hmf:∀ (fn:Fn) (first cap:Array Value) (w:World),(Instr.makeFunc fn first cap).run Tryz.prog w=.ok (.func fn first cap) w:=fun _ _ _ _=>rfl
 have hb1:Below w.heap.size w (w.alloc (.cells #[.pointer (some ⟨g,0,none⟩)] 56)):=(Below.refl _ _).alloc (Nat.le_refl _) _
 have hb2:Below w.heap.size w ((w.alloc (.cells #[.pointer (some ⟨g,0,none⟩)] 56)).alloc (.cells #[.int .i64 a] 3)):=hb1.alloc hb1.size _
 have r1:=h.below hb1
 have r2:=h.below hb2
 have ht:=tells_self _ g false (r1.1.cell 0 rfl) (r1.1.cell 1 rfl)
 have c3:(w.alloc (.cells #[.pointer (some ⟨g,0,none⟩)] 56)).cell? ⟨g,3,none⟩=some (.int .i64 a):=r1.1.cell 3 rfl
 have hcl:=hm _ hb2 r2
 have HT:=Lib.hid ht
 have HC:=Lib.hid hcl
 have HB:=Lib.hid hb2
 clear ht hcl hm hb1 hb2 r1 r2 h
 go_enter_defers Tryz.func258,Tryz.ntmps258
 go_wp2_with fail
 refine HT.out.mono ?_
 rintro e w1 ⟨rfl,rfl⟩
 go_wp2_with fail
 refine HC.out.mono ?_
 rintro e w2 ⟨rfl,hr,ho⟩
 have HR:=Lib.hid (And.intro hr ((only_below HB.out).trans0 ho))
 clear hr ho
 go_wp2_with fail
 refine leaves_cons (f:=285) (args:=#[.pointer (some ⟨w.heap.size+1,0,none⟩),.pointer (some ⟨w.heap.size,0,none⟩)]) (by simp) (by simp [go_sem]) ?_
 refine (catch100_idle ⟨w.heap.size+1,0,none⟩ ⟨w.heap.size,0,none⟩ _).mono ?_
 rintro e u' w'' ⟨rfl,rfl,hw⟩
 subst hw
 simp [Leaves,settle,results,Tryz.results258,go_sem]
 exact HR.out
set_option maxRecDepth 100000 in
theorem tell73_unmet (w:World) (g k:Nat) (xs:List UInt8) (c a:Nat) (K:Nat) (cap:Array Value) (h:Rdr w g k xs c a false) (hK:∀ w:World,(callFunc K cap).run Tryz.prog w=.ok (.enter K cap) w) (hm:Thrown' K cap w g k xs c a) :
  Calls Tryz.prog 258 #[.pointer (some ⟨g,0,none⟩),.func (Fn.func K) #[] cap] w fun e w'=>e=.returned (.int .i64 0)∧Rdr w' g k xs c a true∧Only g w w' none:=by
 have hmf:∀ (fn:Fn) (first cap:Array Value) (w:World),(Instr.makeFunc fn first cap).run Tryz.prog w=.ok (.func fn first cap) w:=fun _ _ _ _=>rfl
 have hgl:=h.1.lt
 have hb1:Below w.heap.size w (w.alloc (.cells #[.pointer (some ⟨g,0,none⟩)] 56)):=(Below.refl _ _).alloc (Nat.le_refl _) _
 have hb2:Below w.heap.size w ((w.alloc (.cells #[.pointer (some ⟨g,0,none⟩)] 56)).alloc (.cells #[.int .i64 a] 3)):=hb1.alloc hb1.size _
 have r1:=h.below hb1
 have r2:=h.below hb2
 have ht:=tells_self _ g false (r1.1.cell 0 rfl) (r1.1.cell 1 rfl)
 have c3:(w.alloc (.cells #[.pointer (some ⟨g,0,none⟩)] 56)).cell? ⟨g,3,none⟩=some (.int .i64 a):=r1.1.cell 3 rfl
 have hcl:=hm _ hb2 r2
 have HT:=Lib.hid ht
 have HC:=Lib.hid hcl
 have HB:=Lib.hid hb2
 have HG:=Lib.hid hgl
 clear ht hcl hm hb1 hb2 r1 r2 h hgl
 go_enter_defers Tryz.func258,Tryz.ntmps258
 go_wp2_with fail
 refine HT.out.mono ?_
 rintro e w1 ⟨rfl,rfl⟩
 go_wp2_with fail
 refine HC.out.mono ?_
 rintro e w2 ⟨⟨pv,rfl⟩,⟨a',hr⟩,ho⟩
 have q1:w2.cell? ⟨w.heap.size+1,0,none⟩=some (.int .i64 a):=by
  rw [ho.cell (by simp) (by have:=HG.out;omega)];simp [go_sem]
 have q2:w2.cell? ⟨w.heap.size,0,none⟩=some (.pointer (some ⟨g,0,none⟩)):=by
  rw [ho.cell (by simp;omega) (by have:=HG.out;omega)];simp [go_sem]
 have hfin:Rdr ((w2.setCell ⟨g,3,none⟩ (.int .i64 a)).setCell ⟨g,1,none⟩ (.bool true)) g k xs c a true∧Only g w ((w2.setCell ⟨g,3,none⟩ (.int .i64 a)).setCell ⟨g,1,none⟩ (.bool true)) none :=
  ⟨(hr.at a).spoil,(((only_below HB.out).trans0 ho).trans0 (only_set g 3 _ _)).trans0 (only_set g 1 _ _)⟩
 have HF:=Lib.hid hfin
 have l3:=hr.1.cell 3 rfl
 have l1:=hr.1.cell 1 rfl
 have m3:=hr.1.free 3
 have m1:=hr.1.free 1
 have HL:=Lib.hid (And.intro q1 (And.intro q2 (And.intro l3 (And.intro l1 (And.intro m3 m1)))))
 clear hr ho hfin q1 q2 l3 l1 m3 m1
 go_wp2_with fail
 refine leaves_cons (f:=285) (args:=#[.pointer (some ⟨w.heap.size+1,0,none⟩),.pointer (some ⟨w.heap.size,0,none⟩)]) (by simp) (by simp [go_sem]) ?_
 refine (catch100_panicking (w.heap.size+1) w.heap.size g a _ _ 64 _ [] _ HL.out.1 HL.out.2.1 HL.out.2.2.1 HL.out.2.2.2.2.1 HL.out.2.2.2.1 HL.out.2.2.2.2.2 rfl).mono ?_
 rintro e u' w'' ⟨rfl,rfl,hw⟩
 subst hw
 simp [Leaves,settle,results,Tryz.results258,go_sem]
 exact HF.out
set_option maxRecDepth 100000 in
theorem catch102_panicking (p q g:Nat) (a:Nat) (v0 v1:Value) (u:TypeId) (pv:Value) (older:List PanicEntry) (w:World) (hp:w.cell? ⟨p,0,none⟩=some (.int .i64 a)) (hq:w.cell? ⟨q,0,none⟩=some (.pointer (some ⟨g,0,none⟩)))
  (h3:w.cell? ⟨g,3,none⟩=some v0) (f3:w.frozen? ⟨g,3,none⟩=false) (h1:w.cell? ⟨g,1,none⟩=some v1) (f1:w.frozen? ⟨g,1,none⟩=false) (ho:v1.oneCell'=true) :
  CallsD Tryz.prog 303 #[.pointer (some ⟨p,0,none⟩),.pointer (some ⟨q,0,none⟩)] (.panicking ({ v:=.iface u pv,recovered:=false } :: older)) w fun e u' w' =>
   e=.returned (.tuple #[])∧u'=.panicking ({ v:=.iface u pv,recovered:=true } :: older)∧w'=(w.setCell ⟨g,3,none⟩ (.int .i64 a)).setCell ⟨g,1,none⟩ (.bool true):=by
 have k1:(w.setCell ⟨g,3,none⟩ (.int .i64 a)).cell? ⟨g,1,none⟩=some v1:=by simp [go_sem,h1]
 have k2:(w.setCell ⟨g,3,none⟩ (.int .i64 a)).frozen? ⟨g,1,none⟩=false:=by simp [go_sem,f1]
 have k3:(w.setCell ⟨g,3,none⟩ (.int .i64 a)).cell? ⟨q,0,none⟩=some (.pointer (some ⟨g,0,none⟩)):=by simp [go_sem,hq]
 have hs:=spoil_any (w.setCell ⟨g,3,none⟩ (.int .i64 a)) g v1 k1 k2 ho
 refine callsD_of_wpS Tryz.func303 rfl fun c₀ cs hu => ?_
 apply wpS_seq
 apply wpS_region
 simp [wpOpsS,go_sem,recoverD,hu,Tryz.ntmps303,Exit.thenS]
 refine wpS_cond (t:=true) (by simp [Act.eval,Array.replicate]) ?_
 simp only [if_true]
 refine wpS_of_wp ?_
 go_wp2_with fail
 refine hs.mono ?_
 rintro e w2 ⟨rfl,rfl⟩
 go_wp2_with fail
 simp [bodyPostS,results,Tryz.results303]
theorem catch102_idle (p q:Addr) (w:World) :
  CallsD Tryz.prog 303 #[.pointer (some p),.pointer (some q)] .returning w fun e u' w'=>e=.returned (.tuple #[])∧u'=.returning∧w'=w:=by
 refine callsD_of_wpS Tryz.func303 rfl fun c₀ cs hu => ?_
 apply wpS_seq
 apply wpS_region
 simp [wpOpsS,go_sem,recoverD,hu,Tryz.ntmps303,Exit.thenS]
 refine wpS_cond (t:=false) (by simp [Act.eval,Array.replicate]) ?_
 simp only [Bool.false_eq_true,if_false]
 refine wpS_of_wp (wp_skip ?_)
 cases c₀
 simp_all [bodyPostS,results,Tryz.results303]
set_option maxRecDepth 100000 in
theorem tell83_idle (w:World) (p:Option Addr) (fv:Value) (h:Idle w p):Calls Tryz.prog 281 #[.pointer p,fv] w fun e w'=>e=.returned (.string ⟨#[]⟩)∧Below w.heap.size w w':=by
 have hb:Below w.heap.size w (w.alloc (.cells #[.pointer p] 56)):=(Below.refl _ _).alloc (Nat.le_refl _) _
 have ht:=tells_idle _ p (h.below hb)
 have HT:=Lib.hid ht
 have HB:=Lib.hid hb
 clear ht hb h
 go_enter_defers Tryz.func281,Tryz.ntmps281
 go_wp2_with fail
 refine HT.out.mono ?_
 rintro e w1 ⟨rfl,rfl⟩
 go_wp2_with fail
 simp [bodyPostD,Leaves,results,Tryz.results281,go_sem]
 exact HB.out
set_option maxRecDepth 100000 in
theorem tell83_met (w:World) (g k:Nat) (xs:List UInt8) (c a a':Nat) (v:Value) (K:Nat) (cap:Array Value) (h:Rdr w g k xs c a false) (hK:∀ w:World,(callFunc K cap).run Tryz.prog w=.ok (.enter K cap) w) (hm:Met' K cap w g k xs c a a' v) :
  Calls Tryz.prog 281 #[.pointer (some ⟨g,0,none⟩),.func (Fn.func K) #[] cap] w fun e w'=>e=.returned v∧Rdr w' g k xs c a' false∧Only g w w' none:=by
 have hmf:∀ (fn:Fn) (first cap:Array Value) (w:World),(Instr.makeFunc fn first cap).run Tryz.prog w=.ok (.func fn first cap) w:=fun _ _ _ _=>rfl
 have hb1:Below w.heap.size w (w.alloc (.cells #[.pointer (some ⟨g,0,none⟩)] 56)):=(Below.refl _ _).alloc (Nat.le_refl _) _
 have hb2:Below w.heap.size w ((w.alloc (.cells #[.pointer (some ⟨g,0,none⟩)] 56)).alloc (.cells #[.int .i64 a] 3)):=hb1.alloc hb1.size _
 have r1:=h.below hb1
 have r2:=h.below hb2
 have ht:=tells_self _ g false (r1.1.cell 0 rfl) (r1.1.cell 1 rfl)
 have c3:(w.alloc (.cells #[.pointer (some ⟨g,0,none⟩)] 56)).cell? ⟨g,3,none⟩=some (.int .i64 a):=r1.1.cell 3 rfl
 have hcl:=hm _ hb2 r2
 have HT:=Lib.hid ht
 have HC:=Lib.hid hcl
 have HB:=Lib.hid hb2
 clear ht hcl hm hb1 hb2 r1 r2 h
 go_enter_defers Tryz.func281,Tryz.ntmps281
 go_wp2_with fail
 refine HT.out.mono ?_
 rintro e w1 ⟨rfl,rfl⟩
 go_wp2_with fail
 refine HC.out.mono ?_
 rintro e w2 ⟨rfl,hr,ho⟩
 have HR:=Lib.hid (And.intro hr ((only_below HB.out).trans0 ho))
 clear hr ho
 go_wp2_with fail
 refine leaves_cons (f:=303) (args:=#[.pointer (some ⟨w.heap.size+1,0,none⟩),.pointer (some ⟨w.heap.size,0,none⟩)]) (by simp) (by simp [go_sem]) ?_
 refine (catch102_idle ⟨w.heap.size+1,0,none⟩ ⟨w.heap.size,0,none⟩ _).mono ?_
 rintro e u' w'' ⟨rfl,rfl,hw⟩
 subst hw
 simp [Leaves,settle,results,Tryz.results281,go_sem]
 exact HR.out
set_option maxRecDepth 100000 in
theorem tell83_unmet (w:World) (g k:Nat) (xs:List UInt8) (c a:Nat) (K:Nat) (cap:Array Value) (h:Rdr w g k xs c a false) (hK:∀ w:World,(callFunc K cap).run Tryz.prog w=.ok (.enter K cap) w) (hm:Thrown' K cap w g k xs c a) :
  Calls Tryz.prog 281 #[.pointer (some ⟨g,0,none⟩),.func (Fn.func K) #[] cap] w fun e w'=>e=.returned (.string ⟨#[]⟩)∧Rdr w' g k xs c a true∧Only g w w' none:=by
 have hmf:∀ (fn:Fn) (first cap:Array Value) (w:World),(Instr.makeFunc fn first cap).run Tryz.prog w=.ok (.func fn first cap) w:=fun _ _ _ _=>rfl
 have hgl:=h.1.lt
 have hb1:Below w.heap.size w (w.alloc (.cells #[.pointer (some ⟨g,0,none⟩)] 56)):=(Below.refl _ _).alloc (Nat.le_refl _) _
 have hb2:Below w.heap.size w ((w.alloc (.cells #[.pointer (some ⟨g,0,none⟩)] 56)).alloc (.cells #[.int .i64 a] 3)):=hb1.alloc hb1.size _
 have r1:=h.below hb1
 have r2:=h.below hb2
 have ht:=tells_self _ g false (r1.1.cell 0 rfl) (r1.1.cell 1 rfl)
 have c3:(w.alloc (.cells #[.pointer (some ⟨g,0,none⟩)] 56)).cell? ⟨g,3,none⟩=some (.int .i64 a):=r1.1.cell 3 rfl
 have hcl:=hm _ hb2 r2
 have HT:=Lib.hid ht
 have HC:=Lib.hid hcl
 have HB:=Lib.hid hb2
 have HG:=Lib.hid hgl
 clear ht hcl hm hb1 hb2 r1 r2 h hgl
 go_enter_defers Tryz.func281,Tryz.ntmps281
 go_wp2_with fail
 refine HT.out.mono ?_
 rintro e w1 ⟨rfl,rfl⟩
 go_wp2_with fail
 refine HC.out.mono ?_
 rintro e w2 ⟨⟨pv,rfl⟩,⟨a',hr⟩,ho⟩
 have q1:w2.cell? ⟨w.heap.size+1,0,none⟩=some (.int .i64 a):=by
  rw [ho.cell (by simp) (by have:=HG.out;omega)];simp [go_sem]
 have q2:w2.cell? ⟨w.heap.size,0,none⟩=some (.pointer (some ⟨g,0,none⟩)):=by
  rw [ho.cell (by simp;omega) (by have:=HG.out;omega)];simp [go_sem]
 have hfin:Rdr ((w2.setCell ⟨g,3,none⟩ (.int .i64 a)).setCell ⟨g,1,none⟩ (.bool true)) g k xs c a true∧Only g w ((w2.setCell ⟨g,3,none⟩ (.int .i64 a)).setCell ⟨g,1,none⟩ (.bool true)) none :=
  ⟨(hr.at a).spoil,(((only_below HB.out).trans0 ho).trans0 (only_set g 3 _ _)).trans0 (only_set g 1 _ _)⟩
 have HF:=Lib.hid hfin
 have l3:=hr.1.cell 3 rfl
 have l1:=hr.1.cell 1 rfl
 have m3:=hr.1.free 3
 have m1:=hr.1.free 1
 have HL:=Lib.hid (And.intro q1 (And.intro q2 (And.intro l3 (And.intro l1 (And.intro m3 m1)))))
 clear hr ho hfin q1 q2 l3 l1 m3 m1
 go_wp2_with fail
 refine leaves_cons (f:=303) (args:=#[.pointer (some ⟨w.heap.size+1,0,none⟩),.pointer (some ⟨w.heap.size,0,none⟩)]) (by simp) (by simp [go_sem]) ?_
 refine (catch102_panicking (w.heap.size+1) w.heap.size g a _ _ 64 _ [] _ HL.out.1 HL.out.2.1 HL.out.2.2.1 HL.out.2.2.2.2.1 HL.out.2.2.2.1 HL.out.2.2.2.2.2 rfl).mono ?_
 rintro e u' w'' ⟨rfl,rfl,hw⟩
 subst hw
 simp [Leaves,settle,results,Tryz.results281,go_sem]
 exact HF.out
set_option maxRecDepth 100000 in
theorem catch103_panicking (p q g:Nat) (a:Nat) (v0 v1:Value) (u:TypeId) (pv:Value) (older:List PanicEntry) (w:World) (hp:w.cell? ⟨p,0,none⟩=some (.int .i64 a)) (hq:w.cell? ⟨q,0,none⟩=some (.pointer (some ⟨g,0,none⟩)))
  (h3:w.cell? ⟨g,3,none⟩=some v0) (f3:w.frozen? ⟨g,3,none⟩=false) (h1:w.cell? ⟨g,1,none⟩=some v1) (f1:w.frozen? ⟨g,1,none⟩=false) (ho:v1.oneCell'=true) :
  CallsD Tryz.prog 305 #[.pointer (some ⟨p,0,none⟩),.pointer (some ⟨q,0,none⟩)] (.panicking ({ v:=.iface u pv,recovered:=false } :: older)) w fun e u' w' =>
   e=.returned (.tuple #[])∧u'=.panicking ({ v:=.iface u pv,recovered:=true } :: older)∧w'=(w.setCell ⟨g,3,none⟩ (.int .i64 a)).setCell ⟨g,1,none⟩ (.bool true):=by
 have k1:(w.setCell ⟨g,3,none⟩ (.int .i64 a)).cell? ⟨g,1,none⟩=some v1:=by simp [go_sem,h1]
 have k2:(w.setCell ⟨g,3,none⟩ (.int .i64 a)).frozen? ⟨g,1,none⟩=false:=by simp [go_sem,f1]
 have k3:(w.setCell ⟨g,3,none⟩ (.int .i64 a)).cell? ⟨q,0,none⟩=some (.pointer (some ⟨g,0,none⟩)):=by simp [go_sem,hq]
 have hs:=spoil_any (w.setCell ⟨g,3,none⟩ (.int .i64 a)) g v1 k1 k2 ho
 refine callsD_of_wpS Tryz.func305 rfl fun c₀ cs hu => ?_
 apply wpS_seq
 apply wpS_region
 simp [wpOpsS,go_sem,recoverD,hu,Tryz.ntmps305,Exit.thenS]
 refine wpS_cond (t:=true) (by simp [Act.eval,Array.replicate]) ?_
 simp only [if_true]
 refine wpS_of_wp ?_
 go_wp2_with fail
 refine hs.mono ?_
 rintro e w2 ⟨rfl,rfl⟩
 go_wp2_with fail
 simp [bodyPostS,results,Tryz.results305]
theorem catch103_idle (p q:Addr) (w:World) :
  CallsD Tryz.prog 305 #[.pointer (some p),.pointer (some q)] .returning w fun e u' w'=>e=.returned (.tuple #[])∧u'=.returning∧w'=w:=by
 refine callsD_of_wpS Tryz.func305 rfl fun c₀ cs hu => ?_
 apply wpS_seq
 apply wpS_region
 simp [wpOpsS,go_sem,recoverD,hu,Tryz.ntmps305,Exit.thenS]
 refine wpS_cond (t:=false) (by simp [Act.eval,Array.replicate]) ?_
 simp only [Bool.false_eq_true,if_false]
 refine wpS_of_wp (wp_skip ?_)
 cases c₀
 simp_all [bodyPostS,results,Tryz.results305]
set_option maxRecDepth 100000 in
theorem tell85_idle (w:World) (p:Option Addr) (fv:Value) (h:Idle w p):Calls Tryz.prog 291 #[.pointer p,fv] w fun e w'=>e=.returned (.bool false)∧Below w.heap.size w w':=by
 have hb:Below w.heap.size w (w.alloc (.cells #[.pointer p] 56)):=(Below.refl _ _).alloc (Nat.le_refl _) _
 have ht:=tells_idle _ p (h.below hb)
 have HT:=Lib.hid ht
 have HB:=Lib.hid hb
 clear ht hb h
 go_enter_defers Tryz.func291,Tryz.ntmps291
 go_wp2_with fail
 refine HT.out.mono ?_
 rintro e w1 ⟨rfl,rfl⟩
 go_wp2_with fail
 simp [bodyPostD,Leaves,results,Tryz.results291,go_sem]
 exact HB.out
set_option maxRecDepth 100000 in
theorem tell85_met (w:World) (g k:Nat) (xs:List UInt8) (c a a':Nat) (v:Value) (K:Nat) (cap:Array Value) (h:Rdr w g k xs c a false) (hK:∀ w:World,(callFunc K cap).run Tryz.prog w=.ok (.enter K cap) w) (hm:Met' K cap w g k xs c a a' v) :
  Calls Tryz.prog 291 #[.pointer (some ⟨g,0,none⟩),.func (Fn.func K) #[] cap] w fun e w'=>e=.returned v∧Rdr w' g k xs c a' false∧Only g w w' none:=by
 have hmf:∀ (fn:Fn) (first cap:Array Value) (w:World),(Instr.makeFunc fn first cap).run Tryz.prog w=.ok (.func fn first cap) w:=fun _ _ _ _=>rfl
 have hb1:Below w.heap.size w (w.alloc (.cells #[.pointer (some ⟨g,0,none⟩)] 56)):=(Below.refl _ _).alloc (Nat.le_refl _) _
 have hb2:Below w.heap.size w ((w.alloc (.cells #[.pointer (some ⟨g,0,none⟩)] 56)).alloc (.cells #[.int .i64 a] 3)):=hb1.alloc hb1.size _
 have r1:=h.below hb1
 have r2:=h.below hb2
 have ht:=tells_self _ g false (r1.1.cell 0 rfl) (r1.1.cell 1 rfl)
 have c3:(w.alloc (.cells #[.pointer (some ⟨g,0,none⟩)] 56)).cell? ⟨g,3,none⟩=some (.int .i64 a):=r1.1.cell 3 rfl
 have hcl:=hm _ hb2 r2
 have HT:=Lib.hid ht
 have HC:=Lib.hid hcl
 have HB:=Lib.hid hb2
 clear ht hcl hm hb1 hb2 r1 r2 h
 go_enter_defers Tryz.func291,Tryz.ntmps291
 go_wp2_with fail
 refine HT.out.mono ?_
 rintro e w1 ⟨rfl,rfl⟩
 go_wp2_with fail
 refine HC.out.mono ?_
 rintro e w2 ⟨rfl,hr,ho⟩
 have HR:=Lib.hid (And.intro hr ((only_below HB.out).trans0 ho))
 clear hr ho
 go_wp2_with fail
 refine leaves_cons (f:=305) (args:=#[.pointer (some ⟨w.heap.size+1,0,none⟩),.pointer (some ⟨w.heap.size,0,none⟩)]) (by simp) (by simp [go_sem]) ?_
 refine (catch103_idle ⟨w.heap.size+1,0,none⟩ ⟨w.heap.size,0,none⟩ _).mono ?_
 rintro e u' w'' ⟨rfl,rfl,hw⟩
 subst hw
 simp [Leaves,settle,results,Tryz.results291,go_sem]
 exact HR.out
set_option maxRecDepth 100000 in
theorem tell85_unmet (w:World) (g k:Nat) (xs:List UInt8) (c a:Nat) (K:Nat) (cap:Array Value) (h:Rdr w g k xs c a false) (hK:∀ w:World,(callFunc K cap).run Tryz.prog w=.ok (.enter K cap) w) (hm:Thrown' K cap w g k xs c a) :
  Calls Tryz.prog 291 #[.pointer (some ⟨g,0,none⟩),.func (Fn.func K) #[] cap] w fun e w'=>e=.returned (.bool false)∧Rdr w' g k xs c a true∧Only g w w' none:=by
 have hmf:∀ (fn:Fn) (first cap:Array Value) (w:World),(Instr.makeFunc fn first cap).run Tryz.prog w=.ok (.func fn first cap) w:=fun _ _ _ _=>rfl
 have hgl:=h.1.lt
 have hb1:Below w.heap.size w (w.alloc (.cells #[.pointer (some ⟨g,0,none⟩)] 56)):=(Below.refl _ _).alloc (Nat.le_refl _) _
 have hb2:Below w.heap.size w ((w.alloc (.cells #[.pointer (some ⟨g,0,none⟩)] 56)).alloc (.cells #[.int .i64 a] 3)):=hb1.alloc hb1.size _
 have r1:=h.below hb1
 have r2:=h.below hb2
 have ht:=tells_self _ g false (r1.1.cell 0 rfl) (r1.1.cell 1 rfl)
 have c3:(w.alloc (.cells #[.pointer (some ⟨g,0,none⟩)] 56)).cell? ⟨g,3,none⟩=some (.int .i64 a):=r1.1.cell 3 rfl
 have hcl:=hm _ hb2 r2
 have HT:=Lib.hid ht
 have HC:=Lib.hid hcl
 have HB:=Lib.hid hb2
 have HG:=Lib.hid hgl
 clear ht hcl hm hb1 hb2 r1 r2 h hgl
 go_enter_defers Tryz.func291,Tryz.ntmps291
 go_wp2_with fail
 refine HT.out.mono ?_
 rintro e w1 ⟨rfl,rfl⟩
 go_wp2_with fail
 refine HC.out.mono ?_
 rintro e w2 ⟨⟨pv,rfl⟩,⟨a',hr⟩,ho⟩
 have q1:w2.cell? ⟨w.heap.size+1,0,none⟩=some (.int .i64 a):=by
  rw [ho.cell (by simp) (by have:=HG.out;omega)];simp [go_sem]
 have q2:w2.cell? ⟨w.heap.size,0,none⟩=some (.pointer (some ⟨g,0,none⟩)):=by
  rw [ho.cell (by simp;omega) (by have:=HG.out;omega)];simp [go_sem]
 have hfin:Rdr ((w2.setCell ⟨g,3,none⟩ (.int .i64 a)).setCell ⟨g,1,none⟩ (.bool true)) g k xs c a true∧Only g w ((w2.setCell ⟨g,3,none⟩ (.int .i64 a)).setCell ⟨g,1,none⟩ (.bool true)) none :=
  ⟨(hr.at a).spoil,(((only_below HB.out).trans0 ho).trans0 (only_set g 3 _ _)).trans0 (only_set g 1 _ _)⟩
 have HF:=Lib.hid hfin
 have l3:=hr.1.cell 3 rfl
 have l1:=hr.1.cell 1 rfl
 have m3:=hr.1.free 3
 have m1:=hr.1.free 1
 have HL:=Lib.hid (And.intro q1 (And.intro q2 (And.intro l3 (And.intro l1 (And.intro m3 m1)))))
 clear hr ho hfin q1 q2 l3 l1 m3 m1
 go_wp2_with fail
 refine leaves_cons (f:=305) (args:=#[.pointer (some ⟨w.heap.size+1,0,none⟩),.pointer (some ⟨w.heap.size,0,none⟩)]) (by simp) (by simp [go_sem]) ?_
 refine (catch103_panicking (w.heap.size+1) w.heap.size g a _ _ 64 _ [] _ HL.out.1 HL.out.2.1 HL.out.2.2.1 HL.out.2.2.2.2.1 HL.out.2.2.2.1 HL.out.2.2.2.2.2 rfl).mono ?_
 rintro e u' w'' ⟨rfl,rfl,hw⟩
 subst hw
 simp [Leaves,settle,results,Tryz.results291,go_sem]
 exact HF.out
set_option maxRecDepth 100000 in
theorem catch104_panicking (p q g:Nat) (a:Nat) (v0 v1:Value) (u:TypeId) (pv:Value) (older:List PanicEntry) (w:World) (hp:w.cell? ⟨p,0,none⟩=some (.int .i64 a)) (hq:w.cell? ⟨q,0,none⟩=some (.pointer (some ⟨g,0,none⟩)))
  (h3:w.cell? ⟨g,3,none⟩=some v0) (f3:w.frozen? ⟨g,3,none⟩=false) (h1:w.cell? ⟨g,1,none⟩=some v1) (f1:w.frozen? ⟨g,1,none⟩=false) (ho:v1.oneCell'=true) :
  CallsD Tryz.prog 304 #[.pointer (some ⟨p,0,none⟩),.pointer (some ⟨q,0,none⟩)] (.panicking ({ v:=.iface u pv,recovered:=false } :: older)) w fun e u' w' =>
   e=.returned (.tuple #[])∧u'=.panicking ({ v:=.iface u pv,recovered:=true } :: older)∧w'=(w.setCell ⟨g,3,none⟩ (.int .i64 a)).setCell ⟨g,1,none⟩ (.bool true):=by
 have k1:(w.setCell ⟨g,3,none⟩ (.int .i64 a)).cell? ⟨g,1,none⟩=some v1:=by simp [go_sem,h1]
 have k2:(w.setCell ⟨g,3,none⟩ (.int .i64 a)).frozen? ⟨g,1,none⟩=false:=by simp [go_sem,f1]
 have k3:(w.setCell ⟨g,3,none⟩ (.int .i64 a)).cell? ⟨q,0,none⟩=some (.pointer (some ⟨g,0,none⟩)):=by simp [go_sem,hq]
 have hs:=spoil_any (w.setCell ⟨g,3,none⟩ (.int .i64 a)) g v1 k1 k2 ho
 refine callsD_of_wpS Tryz.func304 rfl fun c₀ cs hu => ?_
 apply wpS_seq
 apply wpS_region
 simp [wpOpsS,go_sem,recoverD,hu,Tryz.ntmps304,Exit.thenS]
 refine wpS_cond (t:=true) (by simp [Act.eval,Array.replicate]) ?_
 simp only [if_true]
 refine wpS_of_wp ?_
 go_wp2_with fail
 refine hs.mono ?_
 rintro e w2 ⟨rfl,rfl⟩
 go_wp2_with fail
 simp [bodyPostS,results,Tryz.results304]
theorem catch104_idle (p q:Addr) (w:World) :
  CallsD Tryz.prog 304 #[.pointer (some p),.pointer (some q)] .returning w fun e u' w'=>e=.returned (.tuple #[])∧u'=.returning∧w'=w:=by
 refine callsD_of_wpS Tryz.func304 rfl fun c₀ cs hu => ?_
 apply wpS_seq
 apply wpS_region
 simp [wpOpsS,go_sem,recoverD,hu,Tryz.ntmps304,Exit.thenS]
 refine wpS_cond (t:=false) (by simp [Act.eval,Array.replicate]) ?_
 simp only [Bool.false_eq_true,if_false]
 refine wpS_of_wp (wp_skip ?_)
 cases c₀
 simp_all [bodyPostS,results,Tryz.results304]
set_option maxRecDepth 100000 in
theorem tell91_idle (w:World) (p:Option Addr) (fv:Value) (h:Idle w p):Calls Tryz.prog 283 #[.pointer p,fv] w fun e w'=>e=.returned (.int .u64 0)∧Below w.heap.size w w':=by
 have hb:Below w.heap.size w (w.alloc (.cells #[.pointer p] 56)):=(Below.refl _ _).alloc (Nat.le_refl _) _
 have ht:=tells_idle _ p (h.below hb)
 have HT:=Lib.hid ht
 have HB:=Lib.hid hb
 clear ht hb h
 go_enter_defers Tryz.func283,Tryz.ntmps283
 go_wp2_with fail
 refine HT.out.mono ?_
 rintro e w1 ⟨rfl,rfl⟩
 go_wp2_with fail
 simp [bodyPostD,Leaves,results,Tryz.results283,go_sem]
 exact HB.out
set_option maxRecDepth 100000 in
theorem tell91_met (w:World) (g k:Nat) (xs:List UInt8) (c a a':Nat) (v:Value) (K:Nat) (cap:Array Value) (h:Rdr w g k xs c a false) (hK:∀ w:World,(callFunc K cap).run Tryz.prog w=.ok (.enter K cap) w) (hm:Met' K cap w g k xs c a a' v) :
  Calls Tryz.prog 283 #[.pointer (some ⟨g,0,none⟩),.func (Fn.func K) #[] cap] w fun e w'=>e=.returned v∧Rdr w' g k xs c a' false∧Only g w w' none:=by
 have hmf:∀ (fn:Fn) (first cap:Array Value) (w:World),(Instr.makeFunc fn first cap).run Tryz.prog w=.ok (.func fn first cap) w:=fun _ _ _ _=>rfl
 have hb1:Below w.heap.size w (w.alloc (.cells #[.pointer (some ⟨g,0,none⟩)] 56)):=(Below.refl _ _).alloc (Nat.le_refl _) _
 have hb2:Below w.heap.size w ((w.alloc (.cells #[.pointer (some ⟨g,0,none⟩)] 56)).alloc (.cells #[.int .i64 a] 3)):=hb1.alloc hb1.size _
 have r1:=h.below hb1
 have r2:=h.below hb2
 have ht:=tells_self _ g false (r1.1.cell 0 rfl) (r1.1.cell 1 rfl)
 have c3:(w.alloc (.cells #[.pointer (some ⟨g,0,none⟩)] 56)).cell? ⟨g,3,none⟩=some (.int .i64 a):=r1.1.cell 3 rfl
 have hcl:=hm _ hb2 r2
 have HT:=Lib.hid ht
 have HC:=Lib.hid hcl
 have HB:=Lib.hid hb2
 clear ht hcl hm hb1 hb2 r1 r2 h
 go_enter_defers Tryz.func283,Tryz.ntmps283
 go_wp2_with fail
 refine HT.out.mono ?_
 rintro e w1 ⟨rfl,rfl⟩
 go_wp2_with fail
 refine HC.out.mono ?_
 rintro e w2 ⟨rfl,hr,ho⟩
 have HR:=Lib.hid (And.intro hr ((only_below HB.out).trans0 ho))
 clear hr ho
 go_wp2_with fail
 refine leaves_cons (f:=304) (args:=#[.pointer (some ⟨w.heap.size+1,0,none⟩),.pointer (some ⟨w.heap.size,0,none⟩)]) (by simp) (by simp [go_sem]) ?_
 refine (catch104_idle ⟨w.heap.size+1,0,none⟩ ⟨w.heap.size,0,none⟩ _).mono ?_
 rintro e u' w'' ⟨rfl,rfl,hw⟩
 subst hw
 simp [Leaves,settle,results,Tryz.results283,go_sem]
 exact HR.out
set_option maxRecDepth 100000 in
theorem tell91_unmet (w:World) (g k:Nat) (xs:List UInt8) (c a:Nat) (K:Nat) (cap:Array Value) (h:Rdr w g k xs c a false) (hK:∀ w:World,(callFunc K cap).run Tryz.prog w=.ok (.enter K cap) w) (hm:Thrown' K cap w g k xs c a) :
  Calls Tryz.prog 283 #[.pointer (some ⟨g,0,none⟩),.func (Fn.func K) #[] cap] w fun e w'=>e=.returned (.int .u64 0)∧Rdr w' g k xs c a true∧Only g w w' none:=by
 have hmf:∀ (fn:Fn) (first cap:Array Value) (w:World),(Instr.makeFunc fn first cap).run Tryz.prog w=.ok (.func fn first cap) w:=fun _ _ _ _=>rfl
 have hgl:=h.1.lt
 have hb1:Below w.heap.size w (w.alloc (.cells #[.pointer (some ⟨g,0,none⟩)] 56)):=(Below.refl _ _).alloc (Nat.le_refl _) _
 have hb2:Below w.heap.size w ((w.alloc (.cells #[.pointer (some ⟨g,0,none⟩)] 56)).alloc (.cells #[.int .i64 a] 3)):=hb1.alloc hb1.size _
 have r1:=h.below hb1
 have r2:=h.below hb2
 have ht:=tells_self _ g false (r1.1.cell 0 rfl) (r1.1.cell 1 rfl)
 have c3:(w.alloc (.cells #[.pointer (some ⟨g,0,none⟩)] 56)).cell? ⟨g,3,none⟩=some (.int .i64 a):=r1.1.cell 3 rfl
 have hcl:=hm _ hb2 r2
 have HT:=Lib.hid ht
 have HC:=Lib.hid hcl
 have HB:=Lib.hid hb2
 have HG:=Lib.hid hgl
 clear ht hcl hm hb1 hb2 r1 r2 h hgl
 go_enter_defers Tryz.func283,Tryz.ntmps283
 go_wp2_with fail
 refine HT.out.mono ?_
 rintro e w1 ⟨rfl,rfl⟩
 go_wp2_with fail
 refine HC.out.mono ?_
 rintro e w2 ⟨⟨pv,rfl⟩,⟨a',hr⟩,ho⟩
 have q1:w2.cell? ⟨w.heap.size+1,0,none⟩=some (.int .i64 a):=by
  rw [ho.cell (by simp) (by have:=HG.out;omega)];simp [go_sem]
 have q2:w2.cell? ⟨w.heap.size,0,none⟩=some (.pointer (some ⟨g,0,none⟩)):=by
  rw [ho.cell (by simp;omega) (by have:=HG.out;omega)];simp [go_sem]
 have hfin:Rdr ((w2.setCell ⟨g,3,none⟩ (.int .i64 a)).setCell ⟨g,1,none⟩ (.bool true)) g k xs c a true∧Only g w ((w2.setCell ⟨g,3,none⟩ (.int .i64 a)).setCell ⟨g,1,none⟩ (.bool true)) none :=
  ⟨(hr.at a).spoil,(((only_below HB.out).trans0 ho).trans0 (only_set g 3 _ _)).trans0 (only_set g 1 _ _)⟩
 have HF:=Lib.hid hfin
 have l3:=hr.1.cell 3 rfl
 have l1:=hr.1.cell 1 rfl
 have m3:=hr.1.free 3
 have m1:=hr.1.free 1
 have HL:=Lib.hid (And.intro q1 (And.intro q2 (And.intro l3 (And.intro l1 (And.intro m3 m1)))))
 clear hr ho hfin q1 q2 l3 l1 m3 m1
 go_wp2_with fail
 refine leaves_cons (f:=304) (args:=#[.pointer (some ⟨w.heap.size+1,0,none⟩),.pointer (some ⟨w.heap.size,0,none⟩)]) (by simp) (by simp [go_sem]) ?_
 refine (catch104_panicking (w.heap.size+1) w.heap.size g a _ _ 64 _ [] _ HL.out.1 HL.out.2.1 HL.out.2.2.1 HL.out.2.2.2.2.1 HL.out.2.2.2.1 HL.out.2.2.2.2.2 rfl).mono ?_
 rintro e u' w'' ⟨rfl,rfl,hw⟩
 subst hw
 simp [Leaves,settle,results,Tryz.results283,go_sem]
 exact HF.out
set_option maxRecDepth 100000 in
theorem catch105_panicking (p q g:Nat) (a:Nat) (v0 v1:Value) (u:TypeId) (pv:Value) (older:List PanicEntry) (w:World) (hp:w.cell? ⟨p,0,none⟩=some (.int .i64 a)) (hq:w.cell? ⟨q,0,none⟩=some (.pointer (some ⟨g,0,none⟩)))
  (h3:w.cell? ⟨g,3,none⟩=some v0) (f3:w.frozen? ⟨g,3,none⟩=false) (h1:w.cell? ⟨g,1,none⟩=some v1) (f1:w.frozen? ⟨g,1,none⟩=false) (ho:v1.oneCell'=true) :
  CallsD Tryz.prog 290 #[.pointer (some ⟨p,0,none⟩),.pointer (some ⟨q,0,none⟩)] (.panicking ({ v:=.iface u pv,recovered:=false } :: older)) w fun e u' w' =>
   e=.returned (.tuple #[])∧u'=.panicking ({ v:=.iface u pv,recovered:=true } :: older)∧w'=(w.setCell ⟨g,3,none⟩ (.int .i64 a)).setCell ⟨g,1,none⟩ (.bool true):=by
 have k1:(w.setCell ⟨g,3,none⟩ (.int .i64 a)).cell? ⟨g,1,none⟩=some v1:=by simp [go_sem,h1]
 have k2:(w.setCell ⟨g,3,none⟩ (.int .i64 a)).frozen? ⟨g,1,none⟩=false:=by simp [go_sem,f1]
 have k3:(w.setCell ⟨g,3,none⟩ (.int .i64 a)).cell? ⟨q,0,none⟩=some (.pointer (some ⟨g,0,none⟩)):=by simp [go_sem,hq]
 have hs:=spoil_any (w.setCell ⟨g,3,none⟩ (.int .i64 a)) g v1 k1 k2 ho
 refine callsD_of_wpS Tryz.func290 rfl fun c₀ cs hu => ?_
 apply wpS_seq
 apply wpS_region
 simp [wpOpsS,go_sem,recoverD,hu,Tryz.ntmps290,Exit.thenS]
 refine wpS_cond (t:=true) (by simp [Act.eval,Array.replicate]) ?_
 simp only [if_true]
 refine wpS_of_wp ?_
 go_wp2_with fail
 refine hs.mono ?_
 rintro e w2 ⟨rfl,rfl⟩
 go_wp2_with fail
 simp [bodyPostS,results,Tryz.results290]
theorem catch105_idle (p q:Addr) (w:World) :
  CallsD Tryz.prog 290 #[.pointer (some p),.pointer (some q)] .returning w fun e u' w'=>e=.returned (.tuple #[])∧u'=.returning∧w'=w:=by
 refine callsD_of_wpS Tryz.func290 rfl fun c₀ cs hu => ?_
 apply wpS_seq
 apply wpS_region
 simp [wpOpsS,go_sem,recoverD,hu,Tryz.ntmps290,Exit.thenS]
 refine wpS_cond (t:=false) (by simp [Act.eval,Array.replicate]) ?_
 simp only [Bool.false_eq_true,if_false]
 refine wpS_of_wp (wp_skip ?_)
 cases c₀
 simp_all [bodyPostS,results,Tryz.results290]
set_option maxRecDepth 100000 in
theorem tell93_idle (w:World) (p:Option Addr) (fv:Value) (h:Idle w p):Calls Tryz.prog 270 #[.pointer p,fv] w fun e w'=>e=.returned (.int .i64 0)∧Below w.heap.size w w':=by
 have hb:Below w.heap.size w (w.alloc (.cells #[.pointer p] 56)):=(Below.refl _ _).alloc (Nat.le_refl _) _
 have ht:=tells_idle _ p (h.below hb)
 have HT:=Lib.hid ht
 have HB:=Lib.hid hb
 clear ht hb h
 go_enter_defers Tryz.func270,Tryz.ntmps270
 go_wp2_with fail
 refine HT.out.mono ?_
 rintro e w1 ⟨rfl,rfl⟩
 go_wp2_with fail
 simp [bodyPostD,Leaves,results,Tryz.results270,go_sem]
 exact HB.out
set_option maxRecDepth 100000 in
theorem tell93_met (w:World) (g k:Nat) (xs:List UInt8) (c a a':Nat) (v:Value) (K:Nat) (cap:Array Value) (h:Rdr w g k xs c a false) (hK:∀ w:World,(callFunc K cap).run Tryz.prog w=.ok (.enter K cap) w) (hm:Met' K cap w g k xs c a a' v) :
  Calls Tryz.prog 270 #[.pointer (some ⟨g,0,none⟩),.func (Fn.func K) #[] cap] w fun e w'=>e=.returned v∧Rdr w' g k xs c a' false∧Only g w w' none:=by
 have hmf:∀ (fn:Fn) (first cap:Array Value) (w:World),(Instr.makeFunc fn first cap).run Tryz.prog w=.ok (.func fn first cap) w:=fun _ _ _ _=>rfl
 have hb1:Below w.heap.size w (w.alloc (.cells #[.pointer (some ⟨g,0,none⟩)] 56)):=(Below.refl _ _).alloc (Nat.le_refl _) _
 have hb2:Below w.heap.size w ((w.alloc (.cells #[.pointer (some ⟨g,0,none⟩)] 56)).alloc (.cells #[.int .i64 a] 3)):=hb1.alloc hb1.size _
 have r1:=h.below hb1
 have r2:=h.below hb2
 have ht:=tells_self _ g false (r1.1.cell 0 rfl) (r1.1.cell 1 rfl)
 have c3:(w.alloc (.cells #[.pointer (some ⟨g,0,none⟩)] 56)).cell? ⟨g,3,none⟩=some (.int .i64 a):=r1.1.cell 3 rfl
 have hcl:=hm _ hb2 r2
 have HT:=Lib.hid ht
 have HC:=Lib.hid hcl
 have HB:=Lib.hid hb2
 clear ht hcl hm hb1 hb2 r1 r2 h
 go_enter_defers Tryz.func270,Tryz.ntmps270
 go_wp2_with fail
 refine HT.out.mono ?_
 rintro e w1 ⟨rfl,rfl⟩
 go_wp2_with fail
 refine HC.out.mono ?_
 rintro e w2 ⟨rfl,hr,ho⟩
 have HR:=Lib.hid (And.intro hr ((only_below HB.out).trans0 ho))
 clear hr ho
 go_wp2_with fail
 refine leaves_cons (f:=290) (args:=#[.pointer (some ⟨w.heap.size+1,0,none⟩),.pointer (some ⟨w.heap.size,0,none⟩)]) (by simp) (by simp [go_sem]) ?_
 refine (catch105_idle ⟨w.heap.size+1,0,none⟩ ⟨w.heap.size,0,none⟩ _).mono ?_
 rintro e u' w'' ⟨rfl,rfl,hw⟩
 subst hw
 simp [Leaves,settle,results,Tryz.results270,go_sem]
 exact HR.out
set_option maxRecDepth 100000 in
theorem tell93_unmet (w:World) (g k:Nat) (xs:List UInt8) (c a:Nat) (K:Nat) (cap:Array Value) (h:Rdr w g k xs c a false) (hK:∀ w:World,(callFunc K cap).run Tryz.prog w=.ok (.enter K cap) w) (hm:Thrown' K cap w g k xs c a) :
  Calls Tryz.prog 270 #[.pointer (some ⟨g,0,none⟩),.func (Fn.func K) #[] cap] w fun e w'=>e=.returned (.int .i64 0)∧Rdr w' g k xs c a true∧Only g w w' none:=by
 have hmf:∀ (fn:Fn) (first cap:Array Value) (w:World),(Instr.makeFunc fn first cap).run Tryz.prog w=.ok (.func fn first cap) w:=fun _ _ _ _=>rfl
 have hgl:=h.1.lt
 have hb1:Below w.heap.size w (w.alloc (.cells #[.pointer (some ⟨g,0,none⟩)] 56)):=(Below.refl _ _).alloc (Nat.le_refl _) _
 have hb2:Below w.heap.size w ((w.alloc (.cells #[.pointer (some ⟨g,0,none⟩)] 56)).alloc (.cells #[.int .i64 a] 3)):=hb1.alloc hb1.size _
 have r1:=h.below hb1
 have r2:=h.below hb2
 have ht:=tells_self _ g false (r1.1.cell 0 rfl) (r1.1.cell 1 rfl)
 have c3:(w.alloc (.cells #[.pointer (some ⟨g,0,none⟩)] 56)).cell? ⟨g,3,none⟩=some (.int .i64 a):=r1.1.cell 3 rfl
 have hcl:=hm _ hb2 r2
 have HT:=Lib.hid ht
 have HC:=Lib.hid hcl
 have HB:=Lib.hid hb2
 have HG:=Lib.hid hgl
 clear ht hcl hm hb1 hb2 r1 r2 h hgl
 go_enter_defers Tryz.func270,Tryz.ntmps270
 go_wp2_with fail
 refine HT.out.mono ?_
 rintro e w1 ⟨rfl,rfl⟩
 go_wp2_with fail
 refine HC.out.mono ?_
 rintro e w2 ⟨⟨pv,rfl⟩,⟨a',hr⟩,ho⟩
 have q1:w2.cell? ⟨w.heap.size+1,0,none⟩=some (.int .i64 a):=by
  rw [ho.cell (by simp) (by have:=HG.out;omega)];simp [go_sem]
 have q2:w2.cell? ⟨w.heap.size,0,none⟩=some (.pointer (some ⟨g,0,none⟩)):=by
  rw [ho.cell (by simp;omega) (by have:=HG.out;omega)];simp [go_sem]
 have hfin:Rdr ((w2.setCell ⟨g,3,none⟩ (.int .i64 a)).setCell ⟨g,1,none⟩ (.bool true)) g k xs c a true∧Only g w ((w2.setCell ⟨g,3,none⟩ (.int .i64 a)).setCell ⟨g,1,none⟩ (.bool true)) none :=
  ⟨(hr.at a).spoil,(((only_below HB.out).trans0 ho).trans0 (only_set g 3 _ _)).trans0 (only_set g 1 _ _)⟩
 have HF:=Lib.hid hfin
 have l3:=hr.1.cell 3 rfl
 have l1:=hr.1.cell 1 rfl
 have m3:=hr.1.free 3
 have m1:=hr.1.free 1
 have HL:=Lib.hid (And.intro q1 (And.intro q2 (And.intro l3 (And.intro l1 (And.intro m3 m1)))))
 clear hr ho hfin q1 q2 l3 l1 m3 m1
 go_wp2_with fail
 refine leaves_cons (f:=290) (args:=#[.pointer (some ⟨w.heap.size+1,0,none⟩),.pointer (some ⟨w.heap.size,0,none⟩)]) (by simp) (by simp [go_sem]) ?_
 refine (catch105_panicking (w.heap.size+1) w.heap.size g a _ _ 64 _ [] _ HL.out.1 HL.out.2.1 HL.out.2.2.1 HL.out.2.2.2.2.1 HL.out.2.2.2.1 HL.out.2.2.2.2.2 rfl).mono ?_
 rintro e u' w'' ⟨rfl,rfl,hw⟩
 subst hw
 simp [Leaves,settle,results,Tryz.results270,go_sem]
 exact HF.out
end Go.Proofs.YtilbbemdinpjcaaGreat.W
