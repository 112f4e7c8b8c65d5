/-
  The document's own reader: what it holds; take.
-/
import Derived.Test.YtilbbemdinpjcaaGreatJWRTbad2
import Derived.Test.YtilbbemdinpjcaaGreatJWTwo
import Derived.Laws.CopyOwn
import Derived.Test.YtilbbemdinpjcaaGreatJWRnum
import Derived.Deep.Slices
namespace Go.Proofs.YtilbbemdinpjcaaGreat.W
open Go.RowKit
set_option maxRecDepth 100000 in
theorem catch106_panicking (p q g:Nat) (a:Nat) (v0 v1:Value) (u:TypeId) (pv:Value) (older:List PanicEntry) (w:World) (hp:w.cell? ⟨p,0,none⟩=some (.int .i64 a)) (hq:w.cell? ⟨q,0,none⟩=some (.pointer (some ⟨g,0,none⟩)))
  (h3:w.cell? ⟨g,3,none⟩=some v0) (f3:w.frozen? ⟨g,3,none⟩=false) (h1:w.cell? ⟨g,1,none⟩=some v1) (f1:w.frozen? ⟨g,1,none⟩=false) (ho:v1.oneCell'=true) :
  CallsD Tryz.prog 293 #[.pointer (some ⟨p,0,none⟩),.pointer (some ⟨q,0,none⟩)] (.panicking ({ v:=.iface u pv,recovered:=false } :: older)) w fun e u' w' =>
   e=.returned (.tuple #[])∧u'=.panicking ({ v:=.iface u pv,recovered:=true } :: older)∧w'=(w.setCell ⟨g,3,none⟩ (.int .i64 a)).setCell ⟨g,1,none⟩ (.bool true):=by
 have k1:(w.setCell ⟨g,3,none⟩ (.int .i64 a)).cell? ⟨g,1,none⟩=some v1:=by simp [go_sem,h1]
 have k2:(w.setCell ⟨g,3,none⟩ (.int .i64 a)).frozen? ⟨g,1,none⟩=false:=by simp [go_sem,f1]
 have k3:(w.setCell ⟨g,3,none⟩ (.int .i64 a)).cell? ⟨q,0,none⟩=some (.pointer (some ⟨g,0,none⟩)):=by simp [go_sem,hq]
 have hs:=spoil_any (w.setCell ⟨g,3,none⟩ (.int .i64 a)) g v1 k1 k2 ho
 refine callsD_of_wpS Tryz.func293 rfl fun c₀ cs hu => ?_
 apply wpS_seq
 apply wpS_region
 simp [wpOpsS,go_sem,recoverD,hu,Tryz.ntmps293,Exit.thenS]
 refine wpS_cond (t:=true) (by simp [Act.eval,Array.replicate]) ?_
 simp only [if_true]
 refine wpS_of_wp ?_
 go_wp2_with fail
 refine hs.mono ?_
 rintro e w2 ⟨rfl,rfl⟩
 go_wp2_with fail
 simp [bodyPostS,results,Tryz.results293]
theorem catch106_idle (p q:Addr) (w:World) :
  CallsD Tryz.prog 293 #[.pointer (some p),.pointer (some q)] .returning w fun e u' w'=>e=.returned (.tuple #[])∧u'=.returning∧w'=w:=by
 refine callsD_of_wpS Tryz.func293 rfl fun c₀ cs hu => ?_
 apply wpS_seq
 apply wpS_region
 simp [wpOpsS,go_sem,recoverD,hu,Tryz.ntmps293,Exit.thenS]
 refine wpS_cond (t:=false) (by simp [Act.eval,Array.replicate]) ?_
 simp only [Bool.false_eq_true,if_false]
 refine wpS_of_wp (wp_skip ?_)
 cases c₀
 simp_all [bodyPostS,results,Tryz.results293]
theorem Only.lies {g:Nat} {w w':World} {k:Nat} {cs:Array Value} {t:TypeId} (h:Only g w w' none) (hl:Lies w k cs t) (hg:k≠g):Lies w' k cs t:=(h.block k hl.lt hg (by simp)).trans hl
theorem only_row {g k:Nat} {w0 w:World} (h:Only g w0 w none) (hk:w0.heap.size≤k) (cs:Array Value):Only g w0 (w.setRow k cs) none :=
 ⟨h.os,h.tape,h.output,by simpa using h.size,fun i hi h1 h2=>(setRow_other w k i cs (by omega)).trans (h.block i hi h1 h2)⟩
theorem Rdr.row {w:World} {g k:Nat} {xs:List UInt8} {c a:Nat} {sp:Bool} (h:Rdr w g k xs c a sp) (b:Nat) (cs:Array Value) (h1:b≠g) (h2:b≠k):Rdr (w.setRow b cs) g k xs c a sp:=by
 refine ⟨h.1.setRowOther b cs (Ne.symm h1),fun j hj => ?_,h.2.2.1,by simpa using h.2.2.2.1,h.2.2.2.2⟩
 have:=h.2.1 j hj
 unfold World.cell? at this ⊢
 rw [setRow_other w b k cs (Ne.symm h2)]
 exact this
theorem b8_info (ys:List UInt8) (h:ys.length=32):(Tryz.prog.info? 30).map (·.size)=some (B8 ys).size:=by rw [B8_size,h];exact info33
set_option maxRecDepth 100000 in
theorem tell95_met (w:World) (g k:Nat) (xs:List UInt8) (c a a':Nat) (ys:List UInt8) (hy:ys.length=32) (K:Nat) (cap:Array Value) (h:Rdr w g k xs c a false) (hK:∀ w:World,(callFunc K cap).run Tryz.prog w=.ok (.enter K cap) w) (hm:Met' K cap w g k xs c a a' (.agg (B8 ys))) :
  Calls Tryz.prog 274 #[.pointer (some ⟨g,0,none⟩),.func (Fn.func K) #[] cap] w fun e w'=>e=.returned (.agg (B8 ys))∧Rdr w' g k xs c a' false∧Only g w w' none:=by
 have hmf:∀ (fn:Fn) (first cap:Array Value) (w:World),(Instr.makeFunc fn first cap).run Tryz.prog w=.ok (.func fn first cap) w:=fun _ _ _ _=>rfl
 have hgl:=h.1.lt
 have hkl:=h.2.2.2.1
 have hb1:Below w.heap.size w (w.alloc (.cells #[.pointer (some ⟨g,0,none⟩)] 56)):=(Below.refl _ _).alloc (Nat.le_refl _) _
 have hb2:Below w.heap.size w ((w.alloc (.cells #[.pointer (some ⟨g,0,none⟩)] 56)).alloc (.cells z32 30)):=hb1.alloc hb1.size _
 have hb3:Below w.heap.size w (((w.alloc (.cells #[.pointer (some ⟨g,0,none⟩)] 56)).alloc (.cells z32 30)).alloc (.cells #[.int .i64 a] 3)):=hb2.alloc hb2.size _
 have r2:=h.below hb2
 have r3:=h.below hb3
 have hz:Lies (((w.alloc (.cells #[.pointer (some ⟨g,0,none⟩)] 56)).alloc (.cells z32 30)).alloc (.cells #[.int .i64 a] 3)) (w.heap.size+1) z32 30:=by
  have:=(Lies.new (w.alloc (.cells #[.pointer (some ⟨g,0,none⟩)] 56)) z32 30).alloc (.cells #[.int .i64 a] 3)
  simpa using this
 have ht:=tells_self _ g false (r2.1.cell 0 rfl) (r2.1.cell 1 rfl)
 have c3:((w.alloc (.cells #[.pointer (some ⟨g,0,none⟩)] 56)).alloc (.cells z32 30)).cell? ⟨g,3,none⟩=some (.int .i64 a):=r2.1.cell 3 rfl
 have hcl:=hm _ hb3 r3
 have HT:=Lib.hid ht
 have HC:=Lib.hid hcl
 have HB:=Lib.hid hb3
 have HZ:=Lib.hid hz
 have HG:=Lib.hid (And.intro hgl hkl)
 clear ht hcl hm hb1 hb2 hb3 r2 r3 h hz hgl hkl
 go_enter_defers Tryz.func274,Tryz.ntmps274
 go_wp2_with fail
 refine HT.out.mono ?_
 rintro e w1 ⟨rfl,rfl⟩
 go_wp2_with fail
 refine HC.out.mono ?_
 rintro e w2 ⟨rfl,hr,ho⟩
 have hz2:=ho.lies HZ.out (by have:=HG.out.1;omega)
 have HZ2:=Lib.hid hz2
 have HR:=Lib.hid (And.intro (hr.row (w.heap.size+1) (B8 ys) (by have:=HG.out.1;omega) (by have:=HG.out.2;omega)) (only_row (k:=w.heap.size+1) ((only_below HB.out).trans0 ho) (by omega) (B8 ys)))
 clear hr ho hz2
 go_wp2_with (refine wpList_store_row rfl 30 _ _ rfl (w.heap.size+1) (B8 ys) rfl rfl 30 z32 HZ2.out (b8_info ys hy) (by rw [B8_size,hy];rfl) (B8_one _) ?_)
 refine leaves_cons (f:=293) (args:=#[.pointer (some ⟨w.heap.size+2,0,none⟩),.pointer (some ⟨w.heap.size,0,none⟩)]) (by simp) (by simp [go_sem]) ?_
 refine (catch106_idle ⟨w.heap.size+2,0,none⟩ ⟨w.heap.size,0,none⟩ _).mono ?_
 rintro e u' w'' ⟨rfl,rfl,hw⟩
 subst hw
 simp [Leaves,settle]
 exact ⟨_,results_cell_row (p:=4) (ty:=30) (by kernel_rfl) _ _ (w.heap.size+1) 30 (B8 ys) (0,0) _ rfl (HZ2.out.setRow _) Tryz.underlying30 rfl (b8_info ys hy),rfl,HR.out⟩
set_option maxRecDepth 100000 in
theorem tell95_unmet (w:World) (g k:Nat) (xs:List UInt8) (c a:Nat) (K:Nat) (cap:Array Value) (h:Rdr w g k xs c a false) (hK:∀ w:World,(callFunc K cap).run Tryz.prog w=.ok (.enter K cap) w) (hm:Thrown' K cap w g k xs c a) :
  Calls Tryz.prog 274 #[.pointer (some ⟨g,0,none⟩),.func (Fn.func K) #[] cap] w fun e w'=>e=.returned (.agg z32)∧Rdr w' g k xs c a true∧Only g w w' none:=by
 have hmf:∀ (fn:Fn) (first cap:Array Value) (w:World),(Instr.makeFunc fn first cap).run Tryz.prog w=.ok (.func fn first cap) w:=fun _ _ _ _=>rfl
 have hgl:=h.1.lt
 have hb1:Below w.heap.size w (w.alloc (.cells #[.pointer (some ⟨g,0,none⟩)] 56)):=(Below.refl _ _).alloc (Nat.le_refl _) _
 have hb2:Below w.heap.size w ((w.alloc (.cells #[.pointer (some ⟨g,0,none⟩)] 56)).alloc (.cells z32 30)):=hb1.alloc hb1.size _
 have hb3:Below w.heap.size w (((w.alloc (.cells #[.pointer (some ⟨g,0,none⟩)] 56)).alloc (.cells z32 30)).alloc (.cells #[.int .i64 a] 3)):=hb2.alloc hb2.size _
 have r2:=h.below hb2
 have r3:=h.below hb3
 have hz:Lies (((w.alloc (.cells #[.pointer (some ⟨g,0,none⟩)] 56)).alloc (.cells z32 30)).alloc (.cells #[.int .i64 a] 3)) (w.heap.size+1) z32 30:=by
  have:=(Lies.new (w.alloc (.cells #[.pointer (some ⟨g,0,none⟩)] 56)) z32 30).alloc (.cells #[.int .i64 a] 3)
  simpa using this
 have ht:=tells_self _ g false (r2.1.cell 0 rfl) (r2.1.cell 1 rfl)
 have c3:((w.alloc (.cells #[.pointer (some ⟨g,0,none⟩)] 56)).alloc (.cells z32 30)).cell? ⟨g,3,none⟩=some (.int .i64 a):=r2.1.cell 3 rfl
 have hcl:=hm _ hb3 r3
 have HT:=Lib.hid ht
 have HC:=Lib.hid hcl
 have HB:=Lib.hid hb3
 have HZ:=Lib.hid hz
 have HG:=Lib.hid hgl
 clear ht hcl hm hb1 hb2 hb3 r2 r3 h hz hgl
 go_enter_defers Tryz.func274,Tryz.ntmps274
 go_wp2_with fail
 refine HT.out.mono ?_
 rintro e w1 ⟨rfl,rfl⟩
 go_wp2_with fail
 refine HC.out.mono ?_
 rintro e w2 ⟨⟨pv,rfl⟩,⟨a',hr⟩,ho⟩
 have q1:w2.cell? ⟨w.heap.size+2,0,none⟩=some (.int .i64 a):=by
  rw [ho.cell (by simp) (by have:=HG.out;omega)];simp [go_sem]
 have q2:w2.cell? ⟨w.heap.size,0,none⟩=some (.pointer (some ⟨g,0,none⟩)):=by
  rw [ho.cell (by simp;omega) (by have:=HG.out;omega)];simp [go_sem]
 have hz2:=(((ho.trans0 (only_set g 3 w2 (.int .i64 a))).trans0 (only_set g 1 _ (.bool true))).lies HZ.out (by have:=HG.out;omega))
 have hfin:Rdr ((w2.setCell ⟨g,3,none⟩ (.int .i64 a)).setCell ⟨g,1,none⟩ (.bool true)) g k xs c a true∧Only g w ((w2.setCell ⟨g,3,none⟩ (.int .i64 a)).setCell ⟨g,1,none⟩ (.bool true)) none :=
  ⟨(hr.at a).spoil,(((only_below HB.out).trans0 ho).trans0 (only_set g 3 _ _)).trans0 (only_set g 1 _ _)⟩
 have HF:=Lib.hid (And.intro hz2 hfin)
 have l3:=hr.1.cell 3 rfl
 have l1:=hr.1.cell 1 rfl
 have m3:=hr.1.free 3
 have m1:=hr.1.free 1
 have HL:=Lib.hid (And.intro q1 (And.intro q2 (And.intro l3 (And.intro l1 (And.intro m3 m1)))))
 clear hr ho hfin q1 q2 l3 l1 m3 m1 hz2
 go_wp2_with fail
 refine leaves_cons (f:=293) (args:=#[.pointer (some ⟨w.heap.size+2,0,none⟩),.pointer (some ⟨w.heap.size,0,none⟩)]) (by simp) (by simp [go_sem]) ?_
 refine (catch106_panicking (w.heap.size+2) w.heap.size g a _ _ 64 _ [] _ HL.out.1 HL.out.2.1 HL.out.2.2.1 HL.out.2.2.2.2.1 HL.out.2.2.2.1 HL.out.2.2.2.2.2 rfl).mono ?_
 rintro e u' w'' ⟨rfl,rfl,hw⟩
 subst hw
 simp [Leaves,settle]
 exact ⟨_,results_cell_row (p:=4) (ty:=30) (by kernel_rfl) _ _ (w.heap.size+1) 30 z32 (0,0) _ rfl HF.out.1 Tryz.underlying30 rfl info33,rfl,HF.out.2⟩
def Four (b0 b1 b2 b3:Bool):Array Bool:=#[b0,b1,b2,b3]
def fourRow (r:List Nat) (b0 b1 b2 b3:Bool):Bool:=(b2 && !b1) || (b3 && !(b0 && b2)) || (r.all (fun i=>(i == 0 && !b0) || (i == 1 && !b1) || (i == 2 && b1 && !b2) || (i == 3 && b0 && b2 && !b3)) && (!r.isEmpty || b3))
def fourB (ops:Array Oper):Bool:=[false,true].all fun b0=>[false,true].all fun b1=>[false,true].all fun b2=>[false,true].all fun b3=>fourRow (Region.ready .any ops (Four b0 b1 b2 b3)) b0 b1 b2 b3
theorem four_of {ops:Array Oper} (h:fourB ops=true) (b0 b1 b2 b3:Bool):fourRow (Region.ready .any ops (Four b0 b1 b2 b3)) b0 b1 b2 b3=true:=all_two (all_two (all_two (all_two h b0) b1) b2) b3
theorem four_nil {ops:Array Oper} {b0 b1 b2 b3:Bool} (hnil:Region.ready .any ops (Four b0 b1 b2 b3)=[]) (hb:(b2=true→b1=true)∧(b3=true→b0=true∧b2=true)) (h:fourB ops=true):b3=true:=by
 have ht:=four_of h b0 b1 b2 b3
 rw [hnil] at ht
 obtain ⟨h1,h2⟩:=hb
 cases b0 <;> cases b1 <;> cases b2 <;> cases b3 <;> simp_all [fourRow]
theorem four_mem {ops:Array Oper} {b0 b1 b2 b3:Bool} {i:Nat} (hi:i ∈ Region.ready .any ops (Four b0 b1 b2 b3)) (hb:(b2=true→b1=true)∧(b3=true→b0=true∧b2=true)) (h:fourB ops=true) :
  i=0∧b0=false ∨ i=1∧b1=false ∨ i=2∧b1=true∧b2=false ∨ i=3∧b0=true∧b2=true∧b3=false:=by
 have ht:=four_of h b0 b1 b2 b3
 unfold fourRow at ht
 have hz:((b2 && !b1) || (b3 && !(b0 && b2)))=false:=by
  obtain ⟨h1,h2⟩:=hb
  cases b0 <;> cases b1 <;> cases b2 <;> cases b3 <;> simp_all
 rw [hz,Bool.false_or,Bool.and_eq_true] at ht
 have hi2:=List.all_eq_true.1 ht.1 i hi
 simp only [Bool.or_eq_true,Bool.and_eq_true,beq_iff_eq,Bool.not_eq_true'] at hi2
 rcases hi2 with ((h | h) | ⟨⟨h1,h2⟩,h3⟩) | ⟨⟨⟨h1,h2⟩,h3⟩,h4⟩
 ·
  exact .inl h
 ·
  exact .inr (.inl h)
 ·
  exact .inr (.inr (.inl ⟨h1,h2,h3⟩))
 ·
  exact .inr (.inr (.inr ⟨h1,h2,h3,h4⟩))
def HAct (p g1 g2:Nat) (v3 v4 v5 v6:Value):Act:=⟨#[.pointer (some ⟨p,0,none⟩),.pointer (some ⟨g1,0,none⟩),.pointer (some ⟨g2,0,none⟩),v3,v4,v5,v6,undef],[]⟩
def HW (W W0:World) (g k:Nat) (xs:List UInt8) (c a g1 g2:Nat) (ys:List UInt8) (b2 b3:Bool) (w:World):Prop :=
 (b2=false∧w=W0) ∨ (b2=true∧Rdr w g k xs c (a+32) false∧Only g W w none∧Lies w g1 z32 30∧Lies w g2 (if b3 then B8 ys else z32) 30)
def FourI (W W0:World) (p g k:Nat) (xs:List UInt8) (c a g1 g2:Nat) (ys:List UInt8) (l:Array Bool) (x:Act) (w:World):Prop :=
 ∃ b0 b1 b2 b3,l=Four b0 b1 b2 b3∧HW W W0 g k xs c a g1 g2 ys b2 b3 w∧((b2=true→b1=true)∧(b3=true→b0=true∧b2=true))∧∃ v3 v4 v5 v6,x=HAct p g1 g2 v3 v4 v5 v6 ∧
   (b0=true→v3=.slice (some ⟨g2,0,none⟩) 32 32)∧(b1=true→v4=.pointer (some ⟨g,0,none⟩))∧(b2=true→v5=.slice (some ⟨k,a,none⟩) 32 (c - a))
theorem hash_below (W:World):Below W.heap.size W (((W.alloc (.cells z32 30)).alloc (.cells z32 30)).drew):=by
 have h:Below W.heap.size W ((W.alloc (.cells z32 30)).alloc (.cells z32 30)):=((Below.refl _ _).alloc (Nat.le_refl _) _).alloc (by simp) _
 exact ⟨h.os,h.tape,h.output,h.size,h.block⟩
def FourB (W0:World) (p g g1 g2:Nat) (l:Array Bool) (x:Act) (w:World):Prop :=
 w=W0∧∃ b0 b1,l=Four b0 b1 false false∧∃ v3 v4,x=HAct p g1 g2 v3 v4 undef undef∧(b1=true→v4=.pointer (some ⟨g,0,none⟩))
set_option maxRecDepth 100000 in
theorem hash1_bad (W:World) (p g k:Nat) (xs:List UInt8) (c a:Nat) (hp:W.cell? ⟨p,0,none⟩=some (.pointer (some ⟨g,0,none⟩))) (hpl:p < W.heap.size) (h:Rdr W g k xs c a false) (ha:a≤xs.length) (hn:xs.length < a+32) :
  Calls Tryz.prog 275 #[.pointer (some ⟨p,0,none⟩)] W fun e W'=>Unmet e∧(∃ a',Rdr W' g k xs c a' false)∧Only g W W' none:=by
 have hb2:Below W.heap.size W (((W.alloc (.cells z32 30)).alloc (.cells z32 30)).drew):=hash_below W
 have hu:=next_bad _ g k xs c a (h.below hb2) ha 32 (.inr (by omega))
 have hp':(((W.alloc (.cells z32 30)).alloc (.cells z32 30)).drew).cell? ⟨p,0,none⟩=some (.pointer (some ⟨g,0,none⟩)):=(hb2.cell (p:=⟨p,0,none⟩) hpl).trans hp
 have HU:=Lib.hid (And.intro hu (And.intro hb2 (h.below hb2)))
 clear hu hb2 h
 go_enter Tryz.func275,Tryz.ntmps275
 go_upto_region 2 with fail
 refine wp_region_any (by kernel_rfl) ?_
 change wpAny _ _ _ _ _ _ _ (World.drew ((W.alloc (.cells z32 30)).alloc (.cells z32 30)))
 generalize ((W.alloc (.cells z32 30)).alloc (.cells z32 30)).drew=W0 at hp' HU ⊢
 refine wpAny_inv (FourB W0 p g W.heap.size (W.heap.size+1)) ?_ ?_ _ _ _ _ (by decide) ⟨rfl,false,false,rfl,undef,undef,rfl,(fun h=>by cases h)⟩
 ·
  rintro l x w ⟨rfl,b0,b1,rfl,_⟩ hnil
  have h3:=four_nil hnil ⟨(fun h=>by cases h),(fun h=>by cases h)⟩ (by kernel_rfl)
  cases h3
 ·
  rintro l x w i ⟨rfl,b0,b1,rfl,v3,v4,rfl,h1⟩ hi
  rcases four_mem hi ⟨(fun h=>by cases h),(fun h=>by cases h)⟩ (by kernel_rfl) with ⟨rfl,rfl⟩ | ⟨rfl,rfl⟩ | ⟨rfl,rfl,_⟩ | ⟨_,_,h,_⟩
  ·
   refine wpOp_wp rfl rfl ?_
   unfold HAct
   simp [Oper.wp,execOp,go_sem,Tryz.underlying30]
   exact ⟨rfl,true,b1,rfl,_,v4,rfl,h1⟩
  ·
   refine wpOp_wp rfl rfl ?_
   unfold HAct
   simp [Oper.wp,execOp,go_sem,hp']
   exact ⟨rfl,b0,true,rfl,v3,_,rfl,fun _=>rfl⟩
  ·
   obtain rfl:=h1 rfl
   refine wpOp_thrown rfl rfl 276 #[.pointer (some ⟨g,0,none⟩),.int .i64 32] (by simp [execOp,go_sem,HAct,Act.eval]) (fun ch W'=>(∃ v,ch=[{ v:=.iface 64 v,recovered:=false }])∧(∃ a',Rdr W' g k xs c a' false)∧Only g W W' none) ?_ ?_
   ·
    exact HU.out.1.mono fun e W' ⟨⟨v,he⟩,hb⟩=>⟨_,he,⟨v,rfl⟩,⟨_,HU.out.2.2.below hb⟩,(only_below HU.out.2.1).trans0 (only_below hb)⟩
   ·
    rintro ch W' ⟨⟨v,rfl⟩,h3',h4'⟩
    exact ⟨rfl,⟨_,rfl⟩,h3',h4'⟩
  ·
   cases h
theorem hash_rows (W:World):Lies (((W.alloc (.cells z32 30)).alloc (.cells z32 30)).drew) W.heap.size z32 30∧Lies (((W.alloc (.cells z32 30)).alloc (.cells z32 30)).drew) (W.heap.size+1) z32 30:=by
 refine ⟨((Lies.new W z32 30).alloc _).drew,?_⟩
 have:=Lies.new (W.alloc (.cells z32 30)) z32 30
 have h2:Lies ((W.alloc (.cells z32 30)).alloc (.cells z32 30)) (W.heap.size+1) z32 30:=by simpa using this
 exact h2.drew
theorem copy_cells (ys:List UInt8) (hy:ys.length=32):(z32.toList.take 0 ++ (B8 ys).toList ++ z32.toList.drop (0+(B8 ys).toList.length)).toArray=B8 ys:=by
 have h2:z32.toList.drop (0+(B8 ys).toList.length)=[]:=by
  rw [Array.length_toList,B8_size,hy]
  rfl
 rw [h2]
 simp
set_option maxRecDepth 100000 in
theorem hash1_good (W:World) (p g k:Nat) (xs:List UInt8) (c a:Nat) (ys:List UInt8) (hp:W.cell? ⟨p,0,none⟩=some (.pointer (some ⟨g,0,none⟩))) (hpl:p < W.heap.size) (hpg:p≠g) (h:Rdr W g k xs c a false) (hn:a+32≤xs.length) (hys:(xs.drop a).take 32=ys) :
  Calls Tryz.prog 275 #[.pointer (some ⟨p,0,none⟩)] W fun e W'=>e=.returned (.agg (B8 ys))∧Rdr W' g k xs c (a+32) false∧Only g W W' none:=by
 have hb2:=hash_below W
 have hrw:=hash_rows W
 have hu:=next_at _ g k xs c a (h.below hb2) 32 hn (by omega)
 have hp':(((W.alloc (.cells z32 30)).alloc (.cells z32 30)).drew).cell? ⟨p,0,none⟩=some (.pointer (some ⟨g,0,none⟩)):=(hb2.cell (p:=⟨p,0,none⟩) hpl).trans hp
 have hy:ys.length=32:=by rw [← hys,List.length_take,List.length_drop];omega
 have hpl2:=Nat.lt_of_lt_of_le hpl hb2.size
 have hgl:=h.1.lt
 have hkl:=h.2.2.2.1
 have HU:=Lib.hid (And.intro hu (And.intro hb2 hrw))
 have HYS:=Lib.hid (And.intro hys hy)
 clear hu hb2 h hrw hys hy
 go_enter Tryz.func275,Tryz.ntmps275
 go_upto_region 2 with fail
 refine wp_region_any (by kernel_rfl) ?_
 change wpAny _ _ _ _ _ _ _ (World.drew ((W.alloc (.cells z32 30)).alloc (.cells z32 30)))
 generalize ((W.alloc (.cells z32 30)).alloc (.cells z32 30)).drew=W0 at hp' HU hpl2 ⊢
 refine wpAny_inv (FourI W W0 p g k xs c a W.heap.size (W.heap.size+1) ys) ?_ ?_ _ _ _ _ (by decide) ⟨false,false,false,false,rfl,.inl ⟨rfl,rfl⟩,⟨(fun h=>by cases h),(fun h=>by cases h)⟩,undef,undef,undef,undef,rfl,(fun h=>by cases h),(fun h=>by cases h),(fun h=>by cases h)⟩
 ·
  rintro l x w ⟨b0,b1,b2,b3,rfl,hw,hb,v3,v4,v5,v6,rfl,_⟩ hnil
  have h3:=four_nil hnil hb (by kernel_rfl)
  subst h3
  rcases hw with ⟨h2,_⟩ | ⟨_,hr,ho,hz1,hz2⟩
  ·
   rw [(hb.2 rfl).2] at h2;cases h2
  ·
   rw [if_pos rfl] at hz2
   have HR:=Lib.hid (And.intro hr ho)
   have HZ:=Lib.hid (And.intro hz1 hz2)
   clear hr ho hz1 hz2 hb hnil
   unfold HAct
   go_wp2_with (first
    | (refine wpList_load_row rfl 30 _ rfl (W.heap.size+1) rfl 30 (B8 ys) (0,0) _ HZ.out.2 Tryz.underlying30 rfl (b8_info ys HYS.out.2) ?_)
    | (refine wpList_store_row rfl 30 _ _ rfl W.heap.size (B8 ys) rfl rfl 30 z32 HZ.out.1 (b8_info ys HYS.out.2) (by rw [B8_size,HYS.out.2];rfl) (B8_one _) ?_))
   exact bodyPost_ret (v:=.agg (B8 ys)) (results_cell_row (p:=1) (ty:=30) (by kernel_rfl) _ _ W.heap.size 30 (B8 ys) (0,0) _ rfl (HZ.out.1.setRow _) Tryz.underlying30 rfl (b8_info ys HYS.out.2)) rfl ⟨rfl,HR.out.1.row _ _ (by omega) (by omega),only_row HR.out.2 (Nat.le_refl _) _⟩
 ·
  rintro l x w i ⟨b0,b1,b2,b3,rfl,hw,hb,v3,v4,v5,v6,rfl,h0,h1,h2⟩ hi
  have cp:w.cell? ⟨p,0,none⟩=some (.pointer (some ⟨g,0,none⟩)):=by
   rcases hw with ⟨_,rfl⟩ | ⟨_,_,ho,_⟩
   ·
    exact hp'
   ·
    exact (ho.cell hpl hpg).trans hp
  rcases four_mem hi hb (by kernel_rfl) with ⟨rfl,rfl⟩ | ⟨rfl,rfl⟩ | ⟨rfl,rfl,rfl⟩ | ⟨rfl,rfl,rfl,rfl⟩
  ·
   refine wpOp_wp rfl rfl ?_
   unfold HAct
   simp [Oper.wp,execOp,go_sem,Tryz.underlying30]
   exact ⟨true,b1,b2,b3,rfl,hw,⟨hb.1,fun h=>⟨rfl,(hb.2 h).2⟩⟩,_,v4,v5,v6,rfl,fun _=>rfl,h1,h2⟩
  ·
   refine wpOp_wp rfl rfl ?_
   unfold HAct
   simp [Oper.wp,execOp,go_sem,cp]
   exact ⟨b0,true,b2,b3,rfl,hw,⟨fun _=>rfl,hb.2⟩,v3,_,v5,v6,rfl,h0,fun _=>rfl,h2⟩
  ·
   obtain rfl:=h1 rfl
   obtain rfl:w=W0:=by
    rcases hw with ⟨_,h⟩ | ⟨h,_⟩
    ·
     exact h
    ·
     cases h
   have hb3:b3=false:=by
    cases b3
    ·
     rfl
    ·
     have:=(hb.2 rfl).2;cases this
   subst hb3
   refine wpOp_call rfl rfl 276 #[.pointer (some ⟨g,0,none⟩),.int .i64 32] (by simp [execOp,go_sem,HAct,Act.eval]) (fun v W'=>v=.slice (some ⟨k,a,none⟩) 32 (c - a)∧Rdr W' g k xs c (a+32) false∧Only g w W' none) ?_ ?_
   ·
    exact HU.out.1.mono fun e W' ⟨he,h3,h4⟩=>⟨_,he,rfl,h3,h4⟩
   ·
    rintro v W' ⟨rfl,h3',h4'⟩
    exact ⟨b0,true,true,false,rfl,.inr ⟨rfl,h3',(only_below HU.out.2.1).trans0 h4',h4'.lies HU.out.2.2.1 (by omega),h4'.lies HU.out.2.2.2 (by omega)⟩,⟨fun _=>rfl,(fun h=>by cases h)⟩,v3,_,_,v6,rfl,h0,fun _=>rfl,fun _=>rfl⟩
  ·
   obtain rfl:=h0 rfl
   obtain rfl:=h2 rfl
   obtain ⟨hr,ho,hz1,hz2⟩:Rdr w g k xs c (a+32) false∧Only g W w none∧Lies w W.heap.size z32 30∧Lies w (W.heap.size+1) z32 30:=by
    rcases hw with ⟨h,_⟩ | ⟨_,h1,h2,h3,h4⟩
    ·
     cases h
    ·
     exact ⟨h1,h2,h3,h4⟩
   have hsrc:∀ j v,(B8 ys).toList[j]? = some v→w.cell? ((⟨k,a,none⟩:Addr).add j)=some v:=by
    rw [← HYS.out.1]
    exact src_news (part_src hr.2.1 a 32)
   have hrun:=run_copy_row (P:=Tryz.prog) w 54 54 3 5 (W.heap.size+1) 0 32 32 ⟨k,a,none⟩ 32 (c - a) z32 30 (B8 ys).toList Tryz.underlying54 (by kernel_rfl) hz2 (by rw [Array.length_toList,B8_size,HYS.out.2];rfl) hsrc (by rw [Array.length_toList,B8_size,HYS.out.2];exact Nat.le_refl 32) (fun v hv=>(Array.all_eq_true_iff_forall_mem.1 (B8_one ys)) v (by simpa using hv))
   rw [copy_cells ys HYS.out.2] at hrun
   refine wpOp_wp rfl rfl ?_
   unfold HAct
   simp [Oper.wp,execOp,resolve,invoke,builtin,go_sem,hrun]
   exact ⟨true,b1,true,true,rfl,.inr ⟨rfl,hr.row _ _ (by omega) (by omega),only_row ho (by omega) _,hz1.setRowOther _ _ (by omega),by rw [if_pos rfl];exact hz2.setRow _⟩,⟨hb.1,fun _=>⟨rfl,rfl⟩⟩,_,v4,_,_,rfl,fun _=>rfl,h1,fun _=>rfl⟩
set_option maxRecDepth 100000 in
theorem ask57_good (w:World) (g k:Nat) (xs:List UInt8) (c a:Nat) (h:Rdr w g k xs c a false) (ys:List UInt8) (hn:a+32≤xs.length) (hys:(xs.drop a).take 32=ys) (hy:ys.length=32) :
  Calls Tryz.prog 228 #[.pointer (some ⟨g,0,none⟩)] w fun e w'=>e=.returned (.agg (B8 ys))∧Rdr w' g k xs c (a+32) false∧Only g w w' none:=by
 have hmf:∀ (fn:Fn) (first cap:Array Value) (w:World),(Instr.makeFunc fn first cap).run Tryz.prog w=.ok (.func fn first cap) w:=fun _ _ _ _=>rfl
 have hgl:=h.1.lt
 have hkl:=h.2.2.2.1
 have hb1:Below w.heap.size w (w.alloc (.cells #[.pointer (some ⟨g,0,none⟩)] 56)):=(Below.refl _ _).alloc (Nat.le_refl _) _
 have hb2:Below w.heap.size w ((w.alloc (.cells #[.pointer (some ⟨g,0,none⟩)] 56)).alloc (.cells z32 30)):=hb1.alloc hb1.size _
 have hz:Lies ((w.alloc (.cells #[.pointer (some ⟨g,0,none⟩)] 56)).alloc (.cells z32 30)) (w.heap.size+1) z32 30:=by
  have:=Lies.new (w.alloc (.cells #[.pointer (some ⟨g,0,none⟩)] 56)) z32 30
  simpa using this
 have cp:((w.alloc (.cells #[.pointer (some ⟨g,0,none⟩)] 56)).alloc (.cells z32 30)).cell? ⟨w.heap.size,0,none⟩=some (.pointer (some ⟨g,0,none⟩)):=by simp [go_sem]
 have hsz:((w.alloc (.cells #[.pointer (some ⟨g,0,none⟩)] 56)).alloc (.cells z32 30)).heap.size=w.heap.size+2:=by simp
 have ht:=tell95_met _ g k xs c a (a+32) ys hy 275 #[.pointer (some ⟨w.heap.size,0,none⟩)] (h.below hb2) (callK 275 Tryz.f275 Tryz.func275 (by kernel_rfl) (by kernel_rfl) _)
  (fun W hW hR=>hash1_good W w.heap.size g k xs c a ys (by rw [hW.cell (p:=⟨w.heap.size,0,none⟩) (by rw [hsz];show w.heap.size < _;omega)];exact cp) (by have:=hW.size;omega) (by omega) hR hn hys)
 have HT:=Lib.hid ht
 have HB:=Lib.hid hb2
 have HZ:=Lib.hid hz
 have HG:=Lib.hid (And.intro hgl hkl)
 clear ht hb1 hb2 h hz hgl hkl cp hsz
 go_enter Tryz.func228,Tryz.ntmps228
 go_wp2_with fail
 refine HT.out.mono ?_
 rintro e w1 ⟨rfl,hr,ho⟩
 have HZ1:=Lib.hid (ho.lies HZ.out (by have:=HG.out.1;omega))
 have HR:=Lib.hid (And.intro (hr.row (w.heap.size+1) (B8 ys) (by have:=HG.out.1;omega) (by have:=HG.out.2;omega)) (only_row (k:=w.heap.size+1) ((only_below HB.out).trans0 ho) (by omega) (B8 ys)))
 clear hr ho
 go_wp2_with (refine wpList_store_row rfl 30 _ _ rfl (w.heap.size+1) (B8 ys) rfl rfl 30 z32 HZ1.out (b8_info ys hy) (by rw [B8_size,hy];rfl) (B8_one _) ?_)
 exact bodyPost_ret (v:=.agg (B8 ys)) (results_cell_row (p:=2) (ty:=30) (by kernel_rfl) _ _ (w.heap.size+1) 30 (B8 ys) (0,0) _ rfl (HZ1.out.setRow _) Tryz.underlying30 rfl (b8_info ys hy)) rfl ⟨rfl,HR.out⟩
set_option maxRecDepth 100000 in
theorem ask57_bad (w:World) (g k:Nat) (xs:List UInt8) (c a:Nat) (h:Rdr w g k xs c a false) (ha:a≤xs.length) (hn:xs.length < a+32) :
  Calls Tryz.prog 228 #[.pointer (some ⟨g,0,none⟩)] w fun e w'=>e=.returned (.agg (z32))∧Rdr w' g k xs c a true∧Only g w w' none:=by
 have hmf:∀ (fn:Fn) (first cap:Array Value) (w:World),(Instr.makeFunc fn first cap).run Tryz.prog w=.ok (.func fn first cap) w:=fun _ _ _ _=>rfl
 have hgl:=h.1.lt
 have hkl:=h.2.2.2.1
 have hb1:Below w.heap.size w (w.alloc (.cells #[.pointer (some ⟨g,0,none⟩)] 56)):=(Below.refl _ _).alloc (Nat.le_refl _) _
 have hb2:Below w.heap.size w ((w.alloc (.cells #[.pointer (some ⟨g,0,none⟩)] 56)).alloc (.cells z32 30)):=hb1.alloc hb1.size _
 have hz:Lies ((w.alloc (.cells #[.pointer (some ⟨g,0,none⟩)] 56)).alloc (.cells z32 30)) (w.heap.size+1) z32 30:=by
  have:=Lies.new (w.alloc (.cells #[.pointer (some ⟨g,0,none⟩)] 56)) z32 30
  simpa using this
 have cp:((w.alloc (.cells #[.pointer (some ⟨g,0,none⟩)] 56)).alloc (.cells z32 30)).cell? ⟨w.heap.size,0,none⟩=some (.pointer (some ⟨g,0,none⟩)):=by simp [go_sem]
 have hsz:((w.alloc (.cells #[.pointer (some ⟨g,0,none⟩)] 56)).alloc (.cells z32 30)).heap.size=w.heap.size+2:=by simp
 have ht:=tell95_unmet _ g k xs c a 275 #[.pointer (some ⟨w.heap.size,0,none⟩)] (h.below hb2) (callK 275 Tryz.f275 Tryz.func275 (by kernel_rfl) (by kernel_rfl) _)
  (fun W hW hR=>hash1_bad W w.heap.size g k xs c a (by rw [hW.cell (p:=⟨w.heap.size,0,none⟩) (by rw [hsz];show w.heap.size < _;omega)];exact cp) (by have:=hW.size;omega) hR ha hn)
 have HT:=Lib.hid ht
 have HB:=Lib.hid hb2
 have HZ:=Lib.hid hz
 have HG:=Lib.hid (And.intro hgl hkl)
 clear ht hb1 hb2 h hz hgl hkl cp hsz
 go_enter Tryz.func228,Tryz.ntmps228
 go_wp2_with fail
 refine HT.out.mono ?_
 rintro e w1 ⟨rfl,hr,ho⟩
 have HZ1:=Lib.hid (ho.lies HZ.out (by have:=HG.out.1;omega))
 have HR:=Lib.hid (And.intro (hr.row (w.heap.size+1) (z32) (by have:=HG.out.1;omega) (by have:=HG.out.2;omega)) (only_row (k:=w.heap.size+1) ((only_below HB.out).trans0 ho) (by omega) (z32)))
 clear hr ho
 go_wp2_with (refine wpList_store_row rfl 30 _ _ rfl (w.heap.size+1) (z32) rfl rfl 30 z32 HZ1.out info33 rfl (B8_one _) ?_)
 exact bodyPost_ret (v:=.agg (z32)) (results_cell_row (p:=2) (ty:=30) (by kernel_rfl) _ _ (w.heap.size+1) 30 (z32) (0,0) _ rfl (HZ1.out.setRow _) Tryz.underlying30 rfl (info33)) rfl ⟨rfl,HR.out⟩
end Go.Proofs.YtilbbemdinpjcaaGreat.W
namespace Go.Proofs.YtilbbemdinpjcaaGreat.W
open Go.RowKit
def Bs (w:World) (v:Value) (ys:List UInt8):Prop :=
 (v=.slice none 0 0∧ys=[]) ∨ ∃ ad c,v=.slice (some ad) ys.length c∧ys.length≤c∧c≤maxLen∧(ys≠[]→ad.spot=none)∧SrcA w ad ys
theorem Bs.below {w w':World} {v:Value} {ys:List UInt8} (h:Bs w v ys) (hb:Below w.heap.size w w'):Bs w' v ys:=by
 rcases h with h | ⟨ad,c,h1,h2,h3,h4,h5⟩
 ·
  exact .inl h
 ·
  exact .inr ⟨ad,c,h1,h2,h3,h4,h5.below hb h5.lt⟩
theorem Bs.raw {w:World} {v:Value} {ys:List UInt8} (h:Bs w v ys):RawIn w v ys:=by
 rcases h with h | ⟨ad,c,h1,_,_,_,h5⟩
 ·
  exact .inl h
 ·
  exact .inr ⟨ad,c,h1,h5⟩
theorem Bs.form {w:World} {v:Value} {ys:List UInt8} (h:Bs w v ys):∃ A c,v=.slice A ys.length c:=by
 rcases h with ⟨h,rfl⟩ | ⟨ad,c,h1,_⟩
 ·
  exact ⟨none,0,h⟩
 ·
  exact ⟨_,_,h1⟩
theorem Bs.one {w:World} {v:Value} {ys:List UInt8} (h:Bs w v ys):v.oneCell'=true:=by
 obtain ⟨A,c,rfl⟩:=h.form
 rfl
theorem SrcA.only {g:Nat} {w w':World} {ad:Addr} {ys:List UInt8} (h:SrcA w ad ys) (ho:Only g w w' none) (hne:ys≠[]→ad.block≠g):SrcA w' ad ys:=by
 intro j u hu
 have hj:=(List.getElem?_eq_some_iff.1 hu).1
 rw [Array.length_toList,B8_size] at hj
 have hn:ys≠[]:=fun e=>by rw [e] at hj;exact absurd hj (by simp)
 have h0:=h j u hu
 have hb:=block_lt h0
 rw [adds_block] at hb
 refine Eq.trans ?_ h0
 have:=ho.block ad.block hb (hne hn) (by simp)
 have e:(ad.add j).block=ad.block:=adds_block _ _
 unfold World.cell?
 rw [e,this]
def Off (g B:Nat) (v:Value) (ys:List UInt8):Prop:=∀ ad n c,v=.slice (some ad) n c→ys≠[]→ad.block < B∧B≤g
theorem Off.ne {g B:Nat} {v:Value} {ys:List UInt8} (h:Off g B v ys) {ad:Addr} {n c:Nat} (e:v=.slice (some ad) n c) (hy:ys≠[]):ad.block≠g:=by
 have:=h ad n c e hy
 omega
theorem Bs.only {g B:Nat} {w w':World} {v:Value} {ys:List UInt8} (h:Bs w v ys) (ho:Only g w w' none) (hne:Off g B v ys):Bs w' v ys:=by
 rcases h with h | ⟨ad,c,h1,h2,h3,h4,h5⟩
 ·
  exact .inl h
 ·
  exact .inr ⟨ad,c,h1,h2,h3,h4,h5.only ho (fun h=>hne.ne h1 h)⟩
theorem Bs.grown {w w':World} {o:Option Nat} {v:Value} {ys:List UInt8} (h:Bs w v ys) (hg:w.grownBy w' o) (hne:∀ ad n c,v=.slice (some ad) n c→ys≠[]→o≠some ad.block):Bs w' v ys:=by
 rcases h with h | ⟨ad,c,h1,h2,h3,h4,h5⟩
 ·
  exact .inl h
 ·
  refine .inr ⟨ad,c,h1,h2,h3,h4,fun j u hu => ?_⟩
  have hj:=(List.getElem?_eq_some_iff.1 hu).1
  rw [Array.length_toList,B8_size] at hj
  have h0:=h5 j u hu
  have hb:=block_lt h0
  rw [adds_block] at hb
  refine Eq.trans (World.cell?_of_block ?_) h0
  rw [adds_block]
  exact hg.block _ hb (fun e=>hne ad _ c h1 (fun e2=>by rw [e2] at hj;exact absurd hj (by simp)) e.symm)
def RfR (w:World) (g B:Nat) (xs:List UInt8):Option Nat→Prop
 | some a=>a≤xs.length∧∃ v,Lies w g #[v,.bool false] 60∧Bs w v (xs.drop a)∧Off g B v (xs.drop a)
 | none=>∃ A n c,Lies w g #[.slice A n c,.bool true] 60
theorem RfR.below {w w':World} {g B:Nat} {xs:List UInt8} {st:Option Nat} (h:RfR w g B xs st) (hb:Below w.heap.size w w'):RfR w' g B xs st:=by
 cases st with
 | none=>obtain ⟨A,n,c,h1⟩:=h;exact ⟨A,n,c,h1.below hb h1.lt⟩
 | some a=>obtain ⟨ha,v,h1,h2,h3⟩:=h;exact ⟨ha,v,h1.below hb h1.lt,h2.below hb,h3⟩
theorem RfR.lt {w:World} {g B:Nat} {xs:List UInt8} {st:Option Nat} (h:RfR w g B xs st):g < w.heap.size:=by
 cases st with
 | none=>obtain ⟨A,n,c,h1⟩:=h;exact h1.lt
 | some a=>obtain ⟨ha,v,h1,h2,h3⟩:=h;exact h1.lt
theorem RfR.bad {w:World} {g B:Nat} {xs:List UInt8} {st:Option Nat} (h:RfR w g B xs st):RfR (w.setCell ⟨g,1,none⟩ (.bool true)) g B xs none:=by
 cases st with
 | none=>obtain ⟨A,n,c,h1⟩:=h;exact ⟨A,n,c,h1.set 1 _⟩
 | some a =>
   obtain ⟨ha,v,h1,h2,h3⟩:=h
   obtain ⟨A,c,rfl⟩:=h2.form
   exact ⟨A,_,c,h1.set 1 _⟩
theorem RfR.cell1 {w:World} {g B:Nat} {xs:List UInt8} {st:Option Nat} (h:RfR w g B xs st):w.cell? ⟨g,1,none⟩=some (.bool st.isNone):=by
 cases st with
 | none=>obtain ⟨A,n,c,h1⟩:=h;exact h1.cell 1 rfl
 | some a=>obtain ⟨ha,v,h1,h2,h3⟩:=h;exact h1.cell 1 rfl
theorem RfR.free {w:World} {g B:Nat} {xs:List UInt8} {st:Option Nat} (h:RfR w g B xs st) (j:Nat):w.frozen? ⟨g,j,none⟩=false:=by
 cases st with
 | none=>obtain ⟨A,n,c,h1⟩:=h;exact h1.free j
 | some a=>obtain ⟨ha,v,h1,h2,h3⟩:=h;exact h1.free j
theorem SrcA.drop {w:World} {ad:Addr} {ys:List UInt8} (h:SrcA w ad ys) (n:Nat):SrcA w (ad.add n) (ys.drop n):=by
 intro j u hu
 have hj:=(List.getElem?_eq_some_iff.1 hu).1
 rw [Array.length_toList,B8_size,List.length_drop] at hj
 rw [Go.Deep.add_add]
 refine h (n+j) u ?_
 rw [Array.getElem?_toList,B8_get _ _ (by rw [List.length_drop];omega)] at hu
 rw [Array.getElem?_toList,B8_get _ _ (by omega),← hu]
 simp [List.getD_eq_getElem?_getD]
theorem SrcA.take {w:World} {ad:Addr} {ys:List UInt8} (h:SrcA w ad ys) (n:Nat):SrcA w ad (ys.take n):=by
 intro j u hu
 have hj:=(List.getElem?_eq_some_iff.1 hu).1
 rw [Array.length_toList,B8_size,List.length_take] at hj
 refine h j u ?_
 rw [Array.getElem?_toList,B8_get _ _ (by rw [List.length_take];omega)] at hu
 rw [Array.getElem?_toList,B8_get _ _ (by omega),← hu]
 simp only [List.getD_eq_getElem?_getD]
 rw [List.getElem?_take_of_lt (by omega)]
end Go.Proofs.YtilbbemdinpjcaaGreat.W
