/-
  A map of sums by name: what it holds, what a store leaves.
-/
import Derived.Test.YtilbbemdinpjcaaGreatJVl
import Derived.Laws.Externs
import Derived.DeepKeys4
import Derived.Maps.OwnSet
import Derived.Maps.Views
set_option maxHeartbeats 16000000
namespace Go.Proofs.YtilbbemdinpjcaaGreat
set_option maxRecDepth 100000
open Go.RowKit Go.Sort
theorem enter_of {P:Program} {f:FuncId} {fn:Func} {c:Code} (hf:P.funcs[f]? = some fn) (hname:(fn.name == "runtime.NumGoroutine")=false) (hb:fn.body=some c) (args:Array Value) (w:World) :
  (callFunc f args).run P w=.ok (.enter f args) w:=by
 have h1:fn.name≠"runtime.NumGoroutine" := by simpa using hname
 simp [callFunc,hf,h1,hb]
theorem enterPos (args:Array Value) (w:World):(callFunc 129 args).run Tryz.prog w=.ok (.enter 129 args) w :=
 enter_of Tryz.func129 (by kernel_rfl) rfl args w
def isPos (a:As):Bool:=decide (1≤a.amt)
def Row (w:World) (pa:Option Addr) (l:List As):Prop:=l.length≤maxLen∧(∀ a,a ∈ l→AsOk a)∧(0 < l.length→∃ g off,pa=some ⟨g,off,none⟩∧g < w.heap.size∧HasA w g off l)
theorem Row.below {B:Nat} {w w':World} {pa:Option Addr} {l:List As} (h:Row w pa l) (hb:Below B w w') (hB:w.heap.size≤B):Row w' pa l :=
 ⟨h.1,h.2.1,fun hl=>by
  obtain ⟨g,off,e,hg,hh⟩:=h.2.2 hl
  exact ⟨g,off,e,Nat.lt_of_lt_of_le hg hb.size,hh.below hb (Nat.lt_of_lt_of_le hg hB)⟩⟩
def vC (coin:Int) (pa:Option Addr) (n c:Nat):Array Value:=#[.int .i64 coin,.slice pa n c]
def rightB (coin:Int) (l:List As):Bool:=decide (0≤coin) && decide (l.length≤30) && wellB isPos l
theorem wellPos (w:World) (pa:Option Addr) (l:List As) (c:Nat) (h:Row w pa l) :
  Calls Tryz.prog 130 #[.slice pa l.length c,.func (.func 131) #[] #[],.func (.func 129) #[] #[]] w fun e w'=>e=.returned (.bool (wellB isPos l))∧Below w.heap.size w w' :=
 well_any 129 isPos enterPos (fun w a ha=>isPos_any w a ha) w pa l c h.1 (fun a ha=>⟨(h.2.1 a ha).1,(h.2.1 a ha).2.1⟩) h.2.2
theorem right_any (w:World) (coin:Int) (pa:Option Addr) (l:List As) (c:Nat) (h:Row w pa l) :
  Calls Tryz.prog 63 #[.agg (vC coin pa l.length c)] w fun e w'=>e=.returned (.bool (rightB coin l))∧Below w.heap.size w w':=by
 have hn:(l.length:Int)≤9223372036854775807:=by have:=h.1;unfold maxLen at this;omega
 have hb1:Below w.heap.size w (w.alloc (.cells (vC coin pa l.length c) 27)):=(Below.refl _ _).alloc (Nat.le_refl _) _
 have hL:Lies (w.alloc (.cells (vC coin pa l.length c) 27)) w.heap.size (vC coin pa l.length c) 27:=Lies.new _ _ _
 have hC:=wellPos _ pa l c (h.below hb1 (Nat.le_refl _))
 have H:=Lib.hid (And.intro hC hb1)
 have c0:=hL.cell 0 (v:=.int .i64 coin) rfl
 have c1:=hL.cell 1 (v:=.slice pa l.length c) rfl
 clear h hC hb1 hL
 unfold vC
 unfold vC at H c0 c1
 go_enter Tryz.func63,Tryz.ntmps63
 by_cases hc:0≤coin
 ·
  by_cases h30:l.length≤30
  ·
   have m30:(l.length:Int)≤30:=by omega
   have HV:=Lib.hid (show rightB coin l=wellB isPos l by unfold rightB;simp [hc,h30])
   go_wp2_with fail
   refine H.out.1.mono ?_
   rintro e w2 ⟨rfl,hb2⟩
   go_wp2_with fail
   go_ret
   refine ⟨?_,H.out.2.trans (hb2.mono H.out.2.size)⟩
   rw [HV.out]
   rfl
  ·
   have m30:¬ (l.length:Int)≤30:=by omega
   have HV:=Lib.hid (show rightB coin l=false by unfold rightB;simp [h30])
   go_wp2_with fail
   go_ret
   refine ⟨?_,H.out.2⟩
   rw [HV.out]
   rfl
 ·
  have HV:=Lib.hid (show rightB coin l=false by unfold rightB;simp [hc])
  go_wp2_with fail
  go_ret
  refine ⟨?_,H.out.2⟩
  rw [HV.out]
  rfl
end Go.Proofs.YtilbbemdinpjcaaGreat
namespace Go.Proofs.YtilbbemdinpjcaaGreat
set_option maxRecDepth 100000
open Go.RowKit Go.Sort
theorem Row.at {w:World} {g off:Nat} {l:List As} {i:Nat} {a:As} (h:HasA w g off l) (ha:l[i]? = some a):w.rangeAt g (off+i * 34) (asC a).toList:=h i a ha
theorem same_any (w:World) (pa pb:Option Addr) (l m:List As) (c e:Nat) (hl:Row w pa l) (hm:Row w pb m) :
  Calls Tryz.prog 79 #[.slice pa l.length c,.slice pb m.length e] w fun e w'=>e=.returned (.bool (decide (l=m)))∧Below w.heap.size w w':=by
 have hli:(l.length:Int)≤9223372036854775807:=by have:=hl.1;unfold maxLen at this;omega
 have hmi:(m.length:Int)≤9223372036854775807:=by have:=hm.1;unfold maxLen at this;omega
 have HS:=Lib.hid (And.intro hl hm)
 clear hl hm
 by_cases hlen:l.length=m.length
 ·
  rw [hlen]
  have HL:=Lib.hid hlen
  clear hlen
  go_enter Tryz.func79,Tryz.ntmps79
  go_wp2_with fail
  go_loopw [5] (fun i W=>∃ k:Nat,k≤m.length∧i=.int .i64 k∧Below w.heap.size w W∧∀ i,i < k→l[i]? = m[i]?) (fun i _=>m.length - (intOf i).toNat)
  case atStart=>exact ⟨0,Nat.zero_le _,rfl,Below.refl _ _,fun i hi=>absurd hi (by omega)⟩
  case round =>
   obtain ⟨k,hk,rfl,hb,hall⟩:=hrel
   have hlen:=HL.out
   by_cases hlt:k < m.length
   ·
    have m1:(k:Int) < (m.length:Int):=by omega
    have m0:(0:Int)≤(k:Int):=by omega
    obtain ⟨g,off,rfl,hg,hh⟩:=HS.out.1.2.2 (by omega)
    obtain ⟨g',off',rfl,hg',hh'⟩:=HS.out.2.2.2 (by omega)
    obtain ⟨a,ha⟩:∃ a,a=l[k]:=⟨_,rfl⟩
    obtain ⟨b,hb'⟩:∃ b,b=m[k]:=⟨_,rfl⟩
    have hka:l[k]? = some a:=by rw [ha,List.getElem?_eq_getElem (by omega)]
    have hkb:m[k]? = some b:=by rw [hb',List.getElem?_eq_getElem hlt]
    have oka:=HS.out.1.2.1 a (List.mem_of_getElem? hka)
    have okb:=HS.out.2.2.1 b (List.mem_of_getElem? hkb)
    obtain ⟨va,hva⟩:∃ v,v=asC a:=⟨_,rfl⟩
    obtain ⟨vb,hvb⟩:∃ v,v=asC b:=⟨_,rfl⟩
    have hvs:va.size=34:=by rw [hva];exact asC_size a oka.1
    have hvt:vb.size=34:=by rw [hvb];exact asC_size b okb.1
    have heq:∀ W,(Op.equalIn 10000 146 (.agg va) (.agg vb)).run Tryz.prog W=.ok (decide (a=b)) W:=fun W=>by rw [hva,hvb];exact eq_as W a b oka okb
    have HR1:Hid (∀ W,Below w.heap.size w W→W.rangeAt g (off+k * 34) va.toList∧W.rangeAt g' (off'+k * 34) vb.toList):=Lib.hid fun W hW=>by
     rw [hva,hvb]
     exact ⟨(hh.below hW hg) k a hka,(hh'.below hW hg') k b hkb⟩
    have HR:=Lib.hid (And.intro hb (And.intro hall (And.intro hlt (And.intro hka (And.intro hkb (And.intro hvs hvt))))))
    have HI:=Lib.hid (And.intro (show (Tryz.prog.info? 146).map (·.size)=some va.size by rw [hvs];exact info_asset) (show (Tryz.prog.info? 146).map (·.size)=some vb.size by rw [hvt];exact info_asset))
    clear hlen hb hall hlt hk ha hb' hka hkb oka okb hva hvb hvs hvt hh hh' hg hg'
    go_upto_region 6 with fail
    refine wp_region_noPanic (wp_region_held (S:=fun V=>V.rangeAt g (off+k * 34) va.toList∧V.rangeAt g' (off'+k * 34) vb.toList) (by kernel_rfl) ?_)
    change wpAnyH _ _ _ _ _ 9 _ _ (World.drew wr)
    have hcur:=HR1.out _ HR.out.1.drew
    have hbd:Below w.heap.size w wr.drew:=HR.out.1.drew
    have HBD:=Lib.hid hbd
    clear hbd
    by_cases hab:a=b
    ·
     have hd:decide (a=b)=true:=by simp [hab]
     have HAB:=Lib.hid hab
     clear hab
     refine tk 0 (.slice (some ⟨g,off,none⟩) m.length c) 17 rfl rfl hcur ?_
     refine tk 1 (.int .i64 k) 18 rfl rfl hcur ?_
     refine tk 2 (.pointer (some ⟨g,off+k * 34,none⟩)) 19 rfl rfl hcur ?_ (by intro w' hS';unfold execOp;simp [go_sem,m0,m1])
     refine tk 3 (.agg va) 20 rfl rfl hcur ?_ (by intro w' hS';exact exec_loadM 146 _ rfl _ _ rfl va hS'.1 Tryz.underlying146 rfl HI.out.1)
     refine tk 4 (.slice (some ⟨g',off',none⟩) m.length e) 21 rfl rfl hcur ?_
     refine tk 5 (.int .i64 k) 22 rfl rfl hcur ?_
     refine tk 6 (.pointer (some ⟨g',off'+k * 34,none⟩)) 23 rfl rfl hcur ?_ (by intro w' hS';unfold execOp;simp [go_sem,m0,m1])
     refine tk 7 (.agg vb) 24 rfl rfl hcur ?_ (by intro w' hS';exact exec_loadM 146 _ rfl _ _ rfl vb hS'.2 Tryz.underlying146 rfl HI.out.2)
     refine tk 8 (.bool false) 25 rfl rfl hcur ?_ (by intro w' hS';unfold execOp;simp [go_sem,heq,hd])
     refine wpAnyH_done (by kernel_rfl) ?_ _
     unfold NoPanic
     dsimp only
     clear hcur heq hd
     go_wp2_with fail
     have e1:(k:Int)+1=((k+1:Nat):Int):=by omega
     rw [e1]
     refine ⟨⟨k+1,HR.out.2.2.1,rfl,HBD.out,fun i hi => ?_⟩,?_⟩
     ·
      by_cases e:i=k
      ·
       rw [e,HR.out.2.2.2.1,HR.out.2.2.2.2.1,HAB.out]
      ·
       exact HR.out.2.1 i (by omega)
     ·
      have h:=HR.out.2.2.1
      show m.length - (k+1) < m.length - k
      omega
    ·
     have hd:decide (a=b)=false:=by simp [hab]
     have HAB:=Lib.hid (show l≠m from fun e=>hab (by
      have h1:=HR.out.2.2.2.1
      rw [e,HR.out.2.2.2.2.1] at h1
      exact (Option.some.inj h1).symm))
     clear hab
     refine tk 0 (.slice (some ⟨g,off,none⟩) m.length c) 17 rfl rfl hcur ?_
     refine tk 1 (.int .i64 k) 18 rfl rfl hcur ?_
     refine tk 2 (.pointer (some ⟨g,off+k * 34,none⟩)) 19 rfl rfl hcur ?_ (by intro w' hS';unfold execOp;simp [go_sem,m0,m1])
     refine tk 3 (.agg va) 20 rfl rfl hcur ?_ (by intro w' hS';exact exec_loadM 146 _ rfl _ _ rfl va hS'.1 Tryz.underlying146 rfl HI.out.1)
     refine tk 4 (.slice (some ⟨g',off',none⟩) m.length e) 21 rfl rfl hcur ?_
     refine tk 5 (.int .i64 k) 22 rfl rfl hcur ?_
     refine tk 6 (.pointer (some ⟨g',off'+k * 34,none⟩)) 23 rfl rfl hcur ?_ (by intro w' hS';unfold execOp;simp [go_sem,m0,m1])
     refine tk 7 (.agg vb) 24 rfl rfl hcur ?_ (by intro w' hS';exact exec_loadM 146 _ rfl _ _ rfl vb hS'.2 Tryz.underlying146 rfl HI.out.2)
     refine tk 8 (.bool true) 25 rfl rfl hcur ?_ (by intro w' hS';unfold execOp;simp [go_sem,heq,hd])
     refine wpAnyH_done (by kernel_rfl) ?_ _
     unfold NoPanic
     dsimp only
     clear hcur heq hd
     go_wp2_with fail
     go_ret
     refine ⟨?_,HBD.out⟩
     rw [decide_eq_false HAB.out]
     rfl
   ·
    have e1:k=m.length:=by omega
    have HF:=Lib.hid (And.intro hb (show l=m from List.ext_getElem? fun i=>by
     by_cases hi:i < k
     ·
      exact hall i hi
     ·
      rw [List.getElem?_eq_none (by omega),List.getElem?_eq_none (by omega)]))
    have m1:¬ (k:Int) < (m.length:Int):=by omega
    clear hb hall e1 hk hlt hlen
    go_wp2_with fail
    go_ret
    refine ⟨?_,HF.out.1⟩
    rw [decide_eq_true HF.out.2]
    rfl
 ·
  have hne:¬ (l.length:Int)=(m.length:Int):=by omega
  have HN:=Lib.hid (show l≠m from fun e=>hlen (by rw [e]))
  clear hlen
  go_enter Tryz.func79,Tryz.ntmps79
  go_wp2_with fail
  go_ret
  refine ⟨?_,Below.refl _ _⟩
  rw [decide_eq_false HN.out]
  rfl
def sameB (x y:Int) (l m:List As):Bool:=decide (x=y) && decide (l=m)
theorem sameV_any (w:World) (x y:Int) (pa pb:Option Addr) (l m:List As) (c e:Nat) (hl:Row w pa l) (hm:Row w pb m) :
  Calls Tryz.prog 80 #[.agg (vC x pa l.length c),.agg (vC y pb m.length e)] w fun e w'=>e=.returned (.bool (sameB x y l m))∧Below w.heap.size w w':=by
 have hli:(l.length:Int)≤9223372036854775807:=by have:=hl.1;unfold maxLen at this;omega
 have hmi:(m.length:Int)≤9223372036854775807:=by have:=hm.1;unfold maxLen at this;omega
 have hb1:Below w.heap.size w ((w.alloc (.cells (vC x pa l.length c) 27)).alloc (.cells (vC y pb m.length e) 27)):=((Below.refl _ _).alloc (Nat.le_refl _) _).alloc (by simp) _
 have hL1:Lies ((w.alloc (.cells (vC x pa l.length c) 27)).alloc (.cells (vC y pb m.length e) 27)) w.heap.size (vC x pa l.length c) 27:=(Lies.new _ _ _).alloc _
 have hL2:Lies ((w.alloc (.cells (vC x pa l.length c) 27)).alloc (.cells (vC y pb m.length e) 27)) (w.heap.size+1) (vC y pb m.length e) 27:=by
  have:=Lies.new (w.alloc (.cells (vC x pa l.length c) 27)) (vC y pb m.length e) 27
  simpa using this
 have hC:=same_any _ pa pb l m c e (hl.below hb1 (Nat.le_refl _)) (hm.below hb1 (Nat.le_refl _))
 have H:=Lib.hid (And.intro hC hb1)
 have c0:=hL1.cell 0 (v:=.int .i64 x) rfl
 have c1:=hL1.cell 1 (v:=.slice pa l.length c) rfl
 have d0:=hL2.cell 0 (v:=.int .i64 y) rfl
 have d1:=hL2.cell 1 (v:=.slice pb m.length e) rfl
 clear hl hm hC hb1 hL1 hL2
 unfold vC
 unfold vC at H c0 c1 d0 d1
 go_enter Tryz.func80,Tryz.ntmps80
 by_cases hxy:x=y
 ·
  have HV:=Lib.hid (show sameB x y l m=decide (l=m) by unfold sameB;simp [hxy])
  subst hxy
  go_wp2_with fail
  refine H.out.1.mono ?_
  rintro e w2 ⟨rfl,hb2⟩
  go_wp2_with fail
  go_ret
  refine ⟨?_,H.out.2.trans (hb2.mono H.out.2.size)⟩
  rw [HV.out]
  rfl
 ·
  have HV:=Lib.hid (show sameB x y l m=false by unfold sameB;simp [hxy])
  go_wp2_with fail
  go_ret
  refine ⟨?_,H.out.2⟩
  rw [HV.out]
  rfl
end Go.Proofs.YtilbbemdinpjcaaGreat
namespace Go.Proofs.YtilbbemdinpjcaaGreat
set_option maxRecDepth 100000
open Go.RowKit Go.Sort
structure Va where
 coin:Int
 pa:Option Addr
 l:List As
 c:Nat
def vaC (v:Va):Array Value:=vC v.coin v.pa v.l.length v.c
theorem vaC_size (v:Va):(vaC v).size=2:=rfl
theorem info_value:(Tryz.prog.info? 27).map (·.size)=some 2:=by kernel_rfl
def VaOk (w:World) (v:Va):Prop:=-9223372036854775808≤v.coin∧v.coin < 9223372036854775808∧Row w v.pa v.l
def HasV (w:World) (g off:Nat) (vs:List Va):Prop:=∀ (i:Nat) (v:Va),vs[i]? = some v→w.rangeAt g (off+i * 2) (vaC v).toList∧VaOk w v
theorem HasV.below {B:Nat} {w w':World} {g off:Nat} {vs:List Va} (h:HasV w g off vs) (hb:Below B w w') (hg:g < B) (hB:w.heap.size≤B):HasV w' g off vs :=
 fun i v hi=>⟨fun j x hj=>(hb.cell (p:=⟨g,off+i * 2+j,none⟩) hg).trans ((h i v hi).1 j x hj),(h i v hi).2.1,(h i v hi).2.2.1,(h i v hi).2.2.2.below hb hB⟩
def RowV (w:World) (pa:Option Addr) (vs:List Va):Prop:=vs.length≤maxLen∧(0 < vs.length→∃ g off,pa=some ⟨g,off,none⟩∧g < w.heap.size∧HasV w g off vs)
theorem RowV.below {B:Nat} {w w':World} {pa:Option Addr} {vs:List Va} (h:RowV w pa vs) (hb:Below B w w') (hB:w.heap.size≤B):RowV w' pa vs :=
 ⟨h.1,fun hl=>by
  obtain ⟨g,off,e,hg,hh⟩:=h.2 hl
  exact ⟨g,off,e,Nat.lt_of_lt_of_le hg hb.size,hh.below hb (Nat.lt_of_lt_of_le hg hB) hB⟩⟩
structure Vr where
 pa:Option Addr
 vs:List Va
 c:Nat
end Go.Proofs.YtilbbemdinpjcaaGreat
namespace Go.Proofs.YtilbbemdinpjcaaGreat
set_option maxRecDepth 100000
open Go.RowKit Go.Sort
end Go.Proofs.YtilbbemdinpjcaaGreat
namespace Go.Proofs.YtilbbemdinpjcaaGreat
set_option maxRecDepth 100000
open Go.RowKit Go.Sort
def Fault (e:Ending):Prop:=∃ n,e=.panicked [{ v:=.iface 64 (.int .i64 n),recovered:=false }]
def rightV (v:Va):Bool:=rightB v.coin v.l
end Go.Proofs.YtilbbemdinpjcaaGreat
namespace Go.Proofs.YtilbbemdinpjcaaGreat
set_option maxRecDepth 100000
section
variable {P:Program} {md:Region.Mode} {ops:Array Oper} {Q:Exit→Act→World→Prop} {late:Nat→Bool} {S:World→Prop}
def wpLate (P:Program) (md:Region.Mode) (ops:Array Oper) (Q:Exit→Act→World→Prop) (late:Nat→Bool) (S:World→Prop):Nat→Array Bool→Act→World→Prop
 | 0,listed,a,w=>Region.ready md ops listed=[]∧Q .normal a w
 | n+1,listed,a,w =>
   (Region.ready md ops listed=[]→Q .normal a w) ∧
   ∀ j ∈ Region.ready md ops listed,wpOp P ops Q j (fun a' w'=>(late j=false→S w')∧wpLate P md ops Q late S n (listed.setIfInBounds j true) a' w') a w
theorem wpLate.any:∀ (n:Nat) (listed:Array Bool) (a:Act) (w:World),wpLate P md ops Q late S n listed a w→wpAny P md ops Q n listed a w
 | 0,_,_,_,h=>h
 | n+1,_,_,_,h=>⟨h.1,fun j hj=>wpOp_mono (fun a' w' h'=>wpLate.any n _ a' w' h'.2) (h.2 j hj)⟩
theorem wpOp_callP {i:Nat} {o:Oper} {a:Act} {w:World} {K:Act→World→Prop} (hi:ops[i]? = some o) (hw:Region.wanted o (yielded ops a.tmps)=true) (d:Tmp) (hd:o.dst=some d) (f:FuncId) (args:Array Value)
  (hr:(execOp a.eval o).run P w=.ok (.enter f args) w) (R:Value→World→Prop) (T:List PanicEntry→World→Prop) (hc:Calls P f args w fun e w'=>(∃ v,e=.returned v∧R v w') ∨ (∃ c,e=.panicked c∧T c w')) (h:∀ v w',R v w'→K (a.put (some d) v) w') (hp:∀ c w',T c w'→Q (.panic c) a w'):wpOp P ops Q i K a w:=by
 unfold wpOp
 rw [hi]
 show if Region.wanted o (yielded ops a.tmps)=true then _ else _
 rw [if_pos hw]
 refine .inl ?_
 unfold Oper.wp
 rw [hr,Oper.upon_enter]
 refine hc.mono fun e w' hh => ?_
 rcases hh with ⟨v,rfl,hR⟩ | ⟨c,rfl,hR⟩
 ·
  rw [hd]
  exact h v w' hR
 ·
  exact hp c w' hR
end
end Go.Proofs.YtilbbemdinpjcaaGreat
namespace Go.Proofs.YtilbbemdinpjcaaGreat
set_option maxRecDepth 100000
open Go.RowKit Go.Sort
def wC (x:BitVec 128):Array Value:=#[.int .i64 (hiS x),.int .u64 (loN x)]
def HasW (w:World) (g off:Nat) (l:List (BitVec 128)):Prop:=∀ (i:Nat) (x:BitVec 128),l[i]? = some x→w.rangeAt g (off+i * 2) (wC x).toList
theorem HasW.below {B:Nat} {w w':World} {g off:Nat} {l:List (BitVec 128)} (h:HasW w g off l) (hb:Below B w w') (hg:g < B):HasW w' g off l :=
 fun i a hi j v hv=>(hb.cell (p:=⟨g,off+i * 2+j,none⟩) hg).trans (h i a hi j v hv)
end Go.Proofs.YtilbbemdinpjcaaGreat
namespace Go.Proofs.YtilbbemdinpjcaaGreat
set_option maxRecDepth 100000
open Go.RowKit Go.Sort
structure To where
 nm:Nm
 w:BitVec 128
def toC (a:To):Array Value:=B8 a.nm.1 ++ #[.string (txt a.nm.2),.int .i64 (hiS a.w),.int .u64 (loN a.w)]
def ToOk (a:To):Prop:=a.nm.1.length=32∧a.nm.2.length≤maxLen
theorem toC_size (a:To) (h:a.nm.1.length=32):(toC a).size=35:=by simp [toC,B8_size,h]
theorem toC_one (a:To):(toC a).all (·.oneCell')=true:=by
 unfold toC
 rw [Array.all_append,B8_one]
 simp [Value.oneCell']
theorem toC_get (a:To) (h:a.nm.1.length=32) (j:Nat) (hj:j < 32):(toC a)[j]? = some (.int .u8 (a.nm.1.getD j 0).toNat):=by
 unfold toC
 rw [Array.getElem?_append_left (by rw [B8_size];omega)]
 exact B8_get _ _ (by omega)
theorem toC_txt (a:To) (h:a.nm.1.length=32):(toC a)[32]? = some (.string (txt a.nm.2)):=by
 unfold toC
 rw [Array.getElem?_append_right (by rw [B8_size];omega),B8_size,h]
 rfl
theorem toC_hi (a:To) (h:a.nm.1.length=32):(toC a)[33]? = some (.int .i64 (hiS a.w)):=by
 unfold toC
 rw [Array.getElem?_append_right (by rw [B8_size];omega),B8_size,h]
 rfl
theorem toC_lo (a:To) (h:a.nm.1.length=32):(toC a)[34]? = some (.int .u64 (loN a.w)):=by
 unfold toC
 rw [Array.getElem?_append_right (by rw [B8_size];omega),B8_size,h]
 rfl
theorem info_total:(Tryz.prog.info? 150).map (·.size)=some 35:=by kernel_rfl
attribute [-go_sem] Instr.build
theorem callTotal_gro (w:World) (a:To) (ha:a.nm.1.length=32) :
  Calls Tryz.prog 136 #[.agg (toC a)] w fun e w'=>e=.returned (.agg (nmC a.nm))∧Below w.heap.size w w'∧w.drawn≤w'.drawn:=by
 obtain ⟨va,hva⟩:∃ v,v=toC a:=⟨_,rfl⟩
 obtain ⟨z,hz⟩:∃ z,z=z33:=⟨_,rfl⟩
 rw [← hva]
 have HA:=Lib.hid (And.intro hva (And.intro ha hz))
 clear hva ha
 go_enter Tryz.func136,Tryz.ntmps136
 go_upto_region 1 with fail
 rw [show (#[Value.int .u8 0,.int .u8 0,.int .u8 0,.int .u8 0,.int .u8 0,.int .u8 0,.int .u8 0,.int .u8 0,.int .u8 0,.int .u8 0,.int .u8 0,.int .u8 0,.int .u8 0,.int .u8 0,.int .u8 0,.int .u8 0,.int .u8 0,.int .u8 0,.int .u8 0,.int .u8 0,.int .u8 0,.int .u8 0,.int .u8 0,.int .u8 0,.int .u8 0,.int .u8 0,.int .u8 0,.int .u8 0,.int .u8 0,.int .u8 0,.int .u8 0,.int .u8 0,.string ⟨#[]⟩]:Array Value)=z from by rw [hz];kernel_rfl]
 have hl1:Lies ((w.alloc (.cells va 150)).alloc (.cells z 255)) w.heap.size va 150:=(Lies.new _ _ _).alloc _
 have hl2:Lies ((w.alloc (.cells va 150)).alloc (.cells z 255)) (w.heap.size+1) z 255:=by
  have:=Lies.new (w.alloc (.cells va 150)) z 255
  simpa using this
 have hb0:Below w.heap.size w ((w.alloc (.cells va 150)).alloc (.cells z 255)):=((Below.refl _ _).alloc (Nat.le_refl _) _).alloc (by simp) _
 have HD0:Hid (w.drawn≤((w.alloc (.cells va 150)).alloc (.cells z 255)).drawn):=Lib.hid (Nat.le_refl _)
 generalize (w.alloc (.cells va 150)).alloc (.cells z 255)=W0 at hl1 hl2 hb0 HD0 ⊢
 rw [HA.out.1] at hl1
 have hp:Src W0 w.heap.size 0 a.nm.1:=fun j hj=>by
  rw [Nat.zero_add]
  exact hl1.cell j (toC_get a HA.out.2.1 j (by rw [← HA.out.2.1];exact hj))
 have c32:=hl1.cell 32 (toC_txt a HA.out.2.1)
 have HP:=Lib.hid (And.intro (pol_range hp) (And.intro hl2 hb0))
 have hnm:nmC a.nm=B8 a.nm.1 ++ #[.string (txt a.nm.2)]:=rfl
 have hsz:(B8 a.nm.1).size=32:=by rw [B8_size];exact HA.out.2.1
 have HN:=Lib.hid (And.intro hnm (And.intro hsz (nmC_size a.nm HA.out.2.1)))
 obtain ⟨pv,hpv⟩:∃ v,v=B8 a.nm.1:=⟨_,rfl⟩
 obtain ⟨tv,htv⟩:∃ v,v=txt a.nm.2:=⟨_,rfl⟩
 obtain ⟨nv,hnv⟩:∃ v,v=nmC a.nm:=⟨_,rfl⟩
 have hbl:∀ W,(Instr.build 255 #[(0,.agg pv),(1,.string tv)]).run Tryz.prog W=.ok (.agg nv) W:=fun W=>by
  rw [hpv,htv,hnv]
  exact run_build W 255 _ _ (built_called a.nm.1 HA.out.2.1 (txt a.nm.2))
 rw [← hpv] at HP HN
 rw [← htv] at c32
 rw [← hnv] at HN
 have HV:=Lib.hid (And.intro hpv hnv)
 clear hl1 hl2 hb0 hp hz hnm hsz hpv htv hnv
 go_wp2_with (first
  | (refine wpList_load_mid rfl 30 _ rfl w.heap.size 0 rfl pv.toList _ HP.out.1 Tryz.underlying30 rfl (by rw [Array.length_toList,HN.out.2.1];exact info_hash) ?_)
  | (refine wpList_store_row rfl 255 _ _ rfl (w.heap.size+1) nv rfl rfl 255 z HP.out.2.1 (by rw [HN.out.2.2];exact info_called) (by rw [HN.out.2.2,HA.out.2.2];rfl) (by rw [HV.out.2];exact nmC_one _) ?_))
 refine bodyPost_ret (v:=.agg nv) (results_cell_row (p:=2) (ty:=255) (by kernel_rfl) _ _ (w.heap.size+1) 255 nv (0,0) _ rfl (HP.out.2.1.setRow _) Tryz.underlying255 rfl (by rw [HN.out.2.2];exact info_called)) rfl ⟨by rw [HV.out.2],below_setRow HP.out.2.2 _ _ (by omega),HD0.out⟩
theorem callTotal_any (w:World) (a:To) (ha:a.nm.1.length=32) :
  Calls Tryz.prog 136 #[.agg (toC a)] w fun e w'=>e=.returned (.agg (nmC a.nm))∧Below w.heap.size w w' :=
 (callTotal_gro w a ha).mono fun _ _ h=>⟨h.1,h.2.1⟩
theorem ret_gro {P:Program} {f:FuncId} {args:Array Value} {w:World} {v:Value} {R:World→Prop} (h:Calls P f args w fun e w'=>e=.returned v∧R w'):Calls P f args w fun e w'=>∃ u,e=.returned u∧(u=v∧R w') :=
 h.mono fun _ _ h=>⟨v,h.1,rfl,h.2⟩
theorem cells48:Tryz.prog.cellsOf 150=35:=by kernel_rfl
theorem cells39:Tryz.prog.cellsOf 148=2:=by kernel_rfl
theorem cells37:Tryz.prog.cellsOf 69=1:=by kernel_rfl
theorem keyed_total:Tryz.prog.keyTypeAt 5 150=true:=by kernel_rfl
theorem keyed_wide:Tryz.prog.keyTypeAt 5 148=true:=by kernel_rfl
def litW (x:BitVec 128):List Lit:=[.int .i64 (hiS x),.int .u64 (loN x)]
theorem litW_inj {x y:BitVec 128} (h:litW x=litW y):x=y:=by
 unfold litW at h
 simp only [List.cons.injEq,Lit.int.injEq,true_and,and_true] at h
 exact w_inj h.1 (by omega)
theorem lits_w (d:Nat) (x:BitVec 128):Tryz.prog.keyLits (d+2) 148 (wC x).toList=some (litW x):=by
 have h1:(Lit.int .i64 (hiS x)).wf=true:=by
  have:=hiS_lo x
  show (decide ((-9223372036854775808:Int)≤hiS x) && decide (hiS x≤9223372036854775807))=true
  rw [Bool.and_eq_true_iff,decide_eq_true_iff,decide_eq_true_iff]
  omega
 have h2:(Lit.int .u64 (loN x:Int)).wf=true:=by
  have:=loN_lt x
  show (decide ((0:Int)≤(loN x:Int)) && decide ((loN x:Int)≤18446744073709551615))=true
  rw [Bool.and_eq_true_iff,decide_eq_true_iff,decide_eq_true_iff]
  omega
 unfold Program.keyLits
 simp only [Tryz.underlying148,cells39,wC,List.length_cons,List.length_nil]
 rw [if_pos ⟨trivial,by kernel_rfl⟩]
 simp [Program.keyLits,Tryz.underlying2,Tryz.underlying69,cells2,cells37,h1,h2,litW]
end Go.Proofs.YtilbbemdinpjcaaGreat
namespace Go.Proofs.YtilbbemdinpjcaaGreat
set_option maxRecDepth 100000
open Go.RowKit Go.Sort
theorem To.ext_iff' (a b:To):a=b ↔ a.nm=b.nm∧a.w=b.w:=by
 constructor
 ·
  rintro rfl;exact ⟨rfl,rfl⟩
 ·
  rintro ⟨h,k⟩;cases a;cases b;simp only at h k;rw [h,k]
instance:DecidableEq To:=fun a b=>decidable_of_iff _ (To.ext_iff' a b).symm
def litT' (a:To):List Lit:=litN a.nm ++ litW a.w
theorem litT_inj {a b:To} (ha:a.nm.1.length=32) (hb:b.nm.1.length=32) (h:litT' a=litT' b):a=b:=by
 unfold litT' at h
 have:=List.append_inj h (by simp [litN,ha,hb])
 exact (To.ext_iff' a b).2 ⟨litN_inj ha hb this.1,litW_inj this.2⟩
theorem lits_to (d:Nat) (a:To) (h:ToOk a):Tryz.prog.keyLits (d+3) 150 (toC a).toList=some (litT' a):=by
 have hl:(B8 a.nm.1).toList.length=32:=by rw [Array.length_toList,B8_size,h.1]
 have e:(toC a).toList=(B8 a.nm.1).toList ++ [.string (txt a.nm.2),.int .i64 (hiS a.w),.int .u64 (loN a.w)]:=by simp [toC]
 rw [e]
 unfold Program.keyLits
 simp only [Tryz.underlying150,cells48,List.length_append,hl,List.length_cons,List.length_nil]
 rw [if_pos ⟨trivial,by kernel_rfl⟩]
 have e33:((B8 a.nm.1).toList ++ [Value.string (txt a.nm.2),Value.int .i64 (hiS a.w),Value.int .u64 (loN a.w)]).drop 33=(wC a.w).toList:=by
  rw [show (33:Nat)=32+1 from rfl,← List.drop_drop,List.drop_left' hl]
  rfl
 have e2:(wC a.w).toList.take 2=(wC a.w).toList:=rfl
 simp only [List.mapM_cons,List.mapM_nil,cells26,cells9,cells39,List.drop_zero,List.take_left' hl,List.drop_left' hl,e33,e2]
 rw [litsH d a.nm.1 h.1,lits_w d a.w]
 simp [litT,h.2,litT',litN,litW]
theorem formed_to (a:To) (h:a.nm.1.length=32):(Value.agg (toC a)).formed Tryz.prog 150=true:=by
 obtain ⟨⟨p,t⟩,x⟩:=a
 obtain ⟨a0,a1,a2,a3,a4,a5,a6,a7,a8,a9,a10,a11,a12,a13,a14,a15,a16,a17,a18,a19,a20,a21,a22,a23,a24,a25,a26,a27,a28,a29,a30,a31,rfl⟩:=list32 p h
 kernel_rfl
theorem eq_to (w:World) (a b:To) (ha:ToOk a) (hb:ToOk b):(Op.equalIn 10000 150 (.agg (toC a)) (.agg (toC b))).run Tryz.prog w=.ok (decide (a=b)) w:=by
 obtain ⟨r,hr,hi⟩:=run_equalIn_deep 9995 5 150 keyed_total w 5 5 (.agg (toC a)) (.agg (toC b)) _ _ (formed_to a ha.1) (formed_to b hb.1) (lits_to 2 a ha) (lits_to 2 b hb)
 have e:r=decide (a=b):=by
  rw [Bool.eq_iff_iff,decide_eq_true_iff,hi]
  exact ⟨litT_inj ha.1 hb.1,fun e=>by rw [e]⟩
 rw [← e]
 exact hr
theorem eq_w (w:World) (a b:BitVec 128):(Op.equalIn 10000 148 (.agg (wC a)) (.agg (wC b))).run Tryz.prog w=.ok (decide (a=b)) w:=by
 have hf:∀ x,(Value.agg (wC x)).formed Tryz.prog 148=true:=fun x=>by kernel_rfl
 obtain ⟨r,hr,hi⟩:=run_equalIn_deep 9995 5 148 keyed_wide w 5 5 (.agg (wC a)) (.agg (wC b)) _ _ (hf a) (hf b) (lits_w 3 a) (lits_w 3 b)
 have e:r=decide (a=b):=by
  rw [Bool.eq_iff_iff,decide_eq_true_iff,hi]
  exact ⟨litW_inj,fun e=>by rw [e]⟩
 rw [← e]
 exact hr
def HasT (w:World) (g off:Nat) (l:List To):Prop:=∀ (i:Nat) (a:To),l[i]? = some a→w.rangeAt g (off+i * 35) (toC a).toList
theorem HasT.below {B:Nat} {w w':World} {g off:Nat} {l:List To} (h:HasT w g off l) (hb:Below B w w') (hg:g < B):HasT w' g off l :=
 fun i a hi j v hv=>(hb.cell (p:=⟨g,off+i * 35+j,none⟩) hg).trans (h i a hi j v hv)
def RowT (w:World) (pa:Option Addr) (l:List To):Prop:=l.length≤maxLen∧(∀ a,a ∈ l→ToOk a)∧(0 < l.length→∃ g off,pa=some ⟨g,off,none⟩∧g < w.heap.size∧HasT w g off l)
theorem RowT.below {B:Nat} {w w':World} {pa:Option Addr} {l:List To} (h:RowT w pa l) (hb:Below B w w') (hB:w.heap.size≤B):RowT w' pa l :=
 ⟨h.1,h.2.1,fun hl=>by
  obtain ⟨g,off,e,hg,hh⟩:=h.2.2 hl
  exact ⟨g,off,e,Nat.lt_of_lt_of_le hg hb.size,hh.below hb (Nat.lt_of_lt_of_le hg hB)⟩⟩
theorem sameT_any (w:World) (pa pb:Option Addr) (l m:List To) (c e:Nat) (hl:RowT w pa l) (hm:RowT w pb m) :
  Calls Tryz.prog 81 #[.slice pa l.length c,.slice pb m.length e] w fun e w'=>e=.returned (.bool (decide (l=m)))∧Below w.heap.size w w':=by
 have hli:(l.length:Int)≤9223372036854775807:=by have:=hl.1;unfold maxLen at this;omega
 have hmi:(m.length:Int)≤9223372036854775807:=by have:=hm.1;unfold maxLen at this;omega
 have HS:=Lib.hid (And.intro hl hm)
 clear hl hm
 by_cases hlen:l.length=m.length
 ·
  rw [hlen]
  have HL:=Lib.hid hlen
  clear hlen
  go_enter Tryz.func81,Tryz.ntmps81
  go_wp2_with fail
  go_loopw [5] (fun i W=>∃ k:Nat,k≤m.length∧i=.int .i64 k∧Below w.heap.size w W∧∀ i,i < k→l[i]? = m[i]?) (fun i _=>m.length - (intOf i).toNat)
  case atStart=>exact ⟨0,Nat.zero_le _,rfl,Below.refl _ _,fun i hi=>absurd hi (by omega)⟩
  case round =>
   obtain ⟨k,hk,rfl,hb,hall⟩:=hrel
   have hlen:=HL.out
   by_cases hlt:k < m.length
   ·
    have m1:(k:Int) < (m.length:Int):=by omega
    have m0:(0:Int)≤(k:Int):=by omega
    obtain ⟨g,off,rfl,hg,hh⟩:=HS.out.1.2.2 (by omega)
    obtain ⟨g',off',rfl,hg',hh'⟩:=HS.out.2.2.2 (by omega)
    obtain ⟨a,ha⟩:∃ a,a=l[k]:=⟨_,rfl⟩
    obtain ⟨b,hb'⟩:∃ b,b=m[k]:=⟨_,rfl⟩
    have hka:l[k]? = some a:=by rw [ha,List.getElem?_eq_getElem (by omega)]
    have hkb:m[k]? = some b:=by rw [hb',List.getElem?_eq_getElem hlt]
    have oka:=HS.out.1.2.1 a (List.mem_of_getElem? hka)
    have okb:=HS.out.2.2.1 b (List.mem_of_getElem? hkb)
    obtain ⟨va,hva⟩:∃ v,v=toC a:=⟨_,rfl⟩
    obtain ⟨vb,hvb⟩:∃ v,v=toC b:=⟨_,rfl⟩
    have hvs:va.size=35:=by rw [hva];exact toC_size a oka.1
    have hvt:vb.size=35:=by rw [hvb];exact toC_size b okb.1
    have heq:∀ W,(Op.equalIn 10000 150 (.agg va) (.agg vb)).run Tryz.prog W=.ok (decide (a=b)) W:=fun W=>by rw [hva,hvb];exact eq_to W a b oka okb
    have HR1:Hid (∀ W,Below w.heap.size w W→W.rangeAt g (off+k * 35) va.toList∧W.rangeAt g' (off'+k * 35) vb.toList):=Lib.hid fun W hW=>by
     rw [hva,hvb]
     exact ⟨(hh.below hW hg) k a hka,(hh'.below hW hg') k b hkb⟩
    have HR:=Lib.hid (And.intro hb (And.intro hall (And.intro hlt (And.intro hka (And.intro hkb (And.intro hvs hvt))))))
    have HI:=Lib.hid (And.intro (show (Tryz.prog.info? 150).map (·.size)=some va.size by rw [hvs];exact info_total) (show (Tryz.prog.info? 150).map (·.size)=some vb.size by rw [hvt];exact info_total))
    clear hlen hb hall hlt hk ha hb' hka hkb oka okb hva hvb hvs hvt hh hh' hg hg'
    go_upto_region 6 with fail
    refine wp_region_noPanic (wp_region_held (S:=fun V=>V.rangeAt g (off+k * 35) va.toList∧V.rangeAt g' (off'+k * 35) vb.toList) (by kernel_rfl) ?_)
    change wpAnyH _ _ _ _ _ 9 _ _ (World.drew wr)
    have hcur:=HR1.out _ HR.out.1.drew
    have hbd:Below w.heap.size w wr.drew:=HR.out.1.drew
    have HBD:=Lib.hid hbd
    clear hbd
    by_cases hab:a=b
    ·
     have hd:decide (a=b)=true:=by simp [hab]
     have HAB:=Lib.hid hab
     clear hab
     refine tk 0 (.slice (some ⟨g,off,none⟩) m.length c) 17 rfl rfl hcur ?_
     refine tk 1 (.int .i64 k) 18 rfl rfl hcur ?_
     refine tk 2 (.pointer (some ⟨g,off+k * 35,none⟩)) 19 rfl rfl hcur ?_ (by intro w' hS';unfold execOp;simp [go_sem,m0,m1])
     refine tk 3 (.agg va) 20 rfl rfl hcur ?_ (by intro w' hS';exact exec_loadM 150 _ rfl _ _ rfl va hS'.1 Tryz.underlying150 rfl HI.out.1)
     refine tk 4 (.slice (some ⟨g',off',none⟩) m.length e) 21 rfl rfl hcur ?_
     refine tk 5 (.int .i64 k) 22 rfl rfl hcur ?_
     refine tk 6 (.pointer (some ⟨g',off'+k * 35,none⟩)) 23 rfl rfl hcur ?_ (by intro w' hS';unfold execOp;simp [go_sem,m0,m1])
     refine tk 7 (.agg vb) 24 rfl rfl hcur ?_ (by intro w' hS';exact exec_loadM 150 _ rfl _ _ rfl vb hS'.2 Tryz.underlying150 rfl HI.out.2)
     refine tk 8 (.bool false) 25 rfl rfl hcur ?_ (by intro w' hS';unfold execOp;simp [go_sem,heq,hd])
     refine wpAnyH_done (by kernel_rfl) ?_ _
     unfold NoPanic
     dsimp only
     clear hcur heq hd
     go_wp2_with fail
     have e1:(k:Int)+1=((k+1:Nat):Int):=by omega
     rw [e1]
     refine ⟨⟨k+1,HR.out.2.2.1,rfl,HBD.out,fun i hi => ?_⟩,?_⟩
     ·
      by_cases e:i=k
      ·
       rw [e,HR.out.2.2.2.1,HR.out.2.2.2.2.1,HAB.out]
      ·
       exact HR.out.2.1 i (by omega)
     ·
      have h:=HR.out.2.2.1
      show m.length - (k+1) < m.length - k
      omega
    ·
     have hd:decide (a=b)=false:=by simp [hab]
     have HAB:=Lib.hid (show l≠m from fun e=>hab (by
      have h1:=HR.out.2.2.2.1
      rw [e,HR.out.2.2.2.2.1] at h1
      exact (Option.some.inj h1).symm))
     clear hab
     refine tk 0 (.slice (some ⟨g,off,none⟩) m.length c) 17 rfl rfl hcur ?_
     refine tk 1 (.int .i64 k) 18 rfl rfl hcur ?_
     refine tk 2 (.pointer (some ⟨g,off+k * 35,none⟩)) 19 rfl rfl hcur ?_ (by intro w' hS';unfold execOp;simp [go_sem,m0,m1])
     refine tk 3 (.agg va) 20 rfl rfl hcur ?_ (by intro w' hS';exact exec_loadM 150 _ rfl _ _ rfl va hS'.1 Tryz.underlying150 rfl HI.out.1)
     refine tk 4 (.slice (some ⟨g',off',none⟩) m.length e) 21 rfl rfl hcur ?_
     refine tk 5 (.int .i64 k) 22 rfl rfl hcur ?_
     refine tk 6 (.pointer (some ⟨g',off'+k * 35,none⟩)) 23 rfl rfl hcur ?_ (by intro w' hS';unfold execOp;simp [go_sem,m0,m1])
     refine tk 7 (.agg vb) 24 rfl rfl hcur ?_ (by intro w' hS';exact exec_loadM 150 _ rfl _ _ rfl vb hS'.2 Tryz.underlying150 rfl HI.out.2)
     refine tk 8 (.bool true) 25 rfl rfl hcur ?_ (by intro w' hS';unfold execOp;simp [go_sem,heq,hd])
     refine wpAnyH_done (by kernel_rfl) ?_ _
     unfold NoPanic
     dsimp only
     clear hcur heq hd
     go_wp2_with fail
     go_ret
     refine ⟨?_,HBD.out⟩
     rw [decide_eq_false HAB.out]
     rfl
   ·
    have e1:k=m.length:=by omega
    have HF:=Lib.hid (And.intro hb (show l=m from List.ext_getElem? fun i=>by
     by_cases hi:i < k
     ·
      exact hall i hi
     ·
      rw [List.getElem?_eq_none (by omega),List.getElem?_eq_none (by omega)]))
    have m1:¬ (k:Int) < (m.length:Int):=by omega
    clear hb hall e1 hk hlt hlen
    go_wp2_with fail
    go_ret
    refine ⟨?_,HF.out.1⟩
    rw [decide_eq_true HF.out.2]
    rfl
 ·
  have hne:¬ (l.length:Int)=(m.length:Int):=by omega
  have HN:=Lib.hid (show l≠m from fun e=>hlen (by rw [e]))
  clear hlen
  go_enter Tryz.func81,Tryz.ntmps81
  go_wp2_with fail
  go_ret
  refine ⟨?_,Below.refl _ _⟩
  rw [decide_eq_false HN.out]
  rfl
end Go.Proofs.YtilbbemdinpjcaaGreat
namespace Go.Proofs.YtilbbemdinpjcaaGreat
set_option maxRecDepth 100000
open Go.RowKit Go.Sort Go.Maps
def kN (n:Nm):Lit:=.string (keyBytes (litN n))
theorem kN_inj {a b:Nm} (ha:a.1.length=32) (hb:b.1.length=32) (ta:a.2.length≤maxLen) (tb:b.2.length≤maxLen) (h:kN a=kN b):a=b:=by
 unfold kN at h
 have h1:=keyLits_inj (lits_nm 0 a ha ta) (lits_nm 0 b hb tb) (by simpa using h)
 exact litN_inj ha hb h1
noncomputable def rdW (v:Value):Option (DataW Unit × List MemPlace):=open Classical in if h:∃ x,v=wv x then some (.lit (.int .u64 (Classical.choose h).toNat),[]) else none
def dW (x:BitVec 128):DataW Unit:=.lit (.int .u64 x.toNat)
def HoldsF (D:DataW Unit) (f:Nm→BitVec 128):Prop:=∀ n:Nm,n.1.length=32→n.2.length≤maxLen→D.atKey (kN n) (dW 0)=dW (f n)
def addAt (f:Nm→BitVec 128) (n:Nm) (x:BitVec 128):Nm→BitVec 128:=fun m=>if m=n then f n+x else f m
theorem HoldsF.put {D:DataW Unit} {f:Nm→BitVec 128} (h:HoldsF D f) (hD:IsMap D) (n:Nm) (x:BitVec 128) (hn:n.1.length=32) (ht:n.2.length≤maxLen):HoldsF (D.put (kN n) (dW (f n+x))) (addAt f n x):=fun m hm hmt=>by
 unfold addAt
 by_cases e:m=n
 ·
  subst e
  have hkk:WideAt.IsKeyLit (kN m):=trivial
  rw [atKey_put_same hD hkk]
  simp
 ·
  rw [atKey_put_other (fun k=>e (kN_inj hm hn hmt ht k)),h m hm hmt]
  simp [e]
end Go.Proofs.YtilbbemdinpjcaaGreat
