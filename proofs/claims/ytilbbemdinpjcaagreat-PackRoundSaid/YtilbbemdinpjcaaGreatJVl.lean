/-
  Rows of assets in memory; whether they are well called: their names rise, none is too long, each is as asked; a right bundle.
-/
import Derived.Test.YtilbbemdinpjcaaGreatJVk
import Derived.RegionTactic
import Derived.Deep.RegionHeld3
import Derived.Deep.MidRow
import Derived.DeepKeys
import Derived.Laws.StructEq
import Derived.Deep.Cut
import Derived.Deep.DeepMust
import Derived.IntWalk
import Derived.Deep.WholeRow
set_option maxHeartbeats 16000000
namespace Go.Proofs.YtilbbemdinpjcaaGreat
set_option maxRecDepth 100000
open Go.RowKit
section
variable {P:Program} {ops:Array Oper} {Q:Exit→Act→World→Prop}
theorem wanted_bare {o:Oper} {a:Act} (hg:o.guard=none):Region.wanted o (yielded ops a.tmps)=true:=by simp [Region.wanted,hg]
theorem wpOp_call {i:Nat} {o:Oper} {a:Act} {w:World} {K:Act→World→Prop} (hi:ops[i]? = some o) (hg:o.guard=none) (f:FuncId) (args:Array Value)
  (hr:(execOp a.eval o).run P w=.ok (.enter f args) w) (R:Value→World→Prop) (hc:Calls P f args w fun e w'=>∃ v,e=.returned v∧R v w') (h:∀ v w',R v w'→K (a.put o.dst v) w'):wpOp P ops Q i K a w:=by
 unfold wpOp
 rw [hi]
 show if Region.wanted o (yielded ops a.tmps)=true then _ else _
 rw [if_pos (wanted_bare hg)]
 refine .inl ?_
 unfold Oper.wp
 rw [hr,Oper.upon_enter]
 refine hc.mono fun e w' hh => ?_
 obtain ⟨v,rfl,hR⟩:=hh
 exact h v w' hR
theorem wpOp_wp {i:Nat} {o:Oper} {a:Act} {w:World} {K:Act→World→Prop} (hi:ops[i]? = some o) (hg:o.guard=none) (h:o.wp P a w K Q):wpOp P ops Q i K a w:=by
 unfold wpOp
 rw [hi]
 show if Region.wanted o (yielded ops a.tmps)=true then _ else _
 rw [if_pos (wanted_bare hg)]
 exact .inl h
theorem wpOp_callTo {i:Nat} {o:Oper} {a:Act} {w:World} {K:Act→World→Prop} (hi:ops[i]? = some o) (hg:o.guard=none) (d:Tmp) (hd:o.dst=some d) (f:FuncId) (args:Array Value)
  (hr:(execOp a.eval o).run P w=.ok (.enter f args) w) (R:Value→World→Prop) (hc:Calls P f args w fun e w'=>∃ v,e=.returned v∧R v w') (h:∀ v w',R v w'→K (a.put (some d) v) w'):wpOp P ops Q i K a w :=
 wpOp_call hi hg f args hr R hc (by rw [hd];exact h)
theorem wpOp_valueTo {i:Nat} {o:Oper} {a:Act} {w w':World} {K:Act→World→Prop} {v:Value} (hi:ops[i]? = some o) (hg:o.guard=none) (d:Tmp) (hd:o.dst=some d)
  (hr:(execOp a.eval o).run P w=.ok (.value v) w') (h:K (a.put (some d) v) w'):wpOp P ops Q i K a w:=by
 refine wpOp_wp hi hg ?_
 unfold Oper.wp
 rw [hr,Oper.upon_value,hd]
 exact h
end
section
variable {P:Program} {ops:Array Oper} {Q:Exit→Act→World→Prop} {md:Region.Mode} {S:World→Prop}
theorem held_take {i:Nat} {oi:Oper} {v:Value} {fuel:Nat} {listed:Array Bool} {a:Act} {w:World} (hi:ops[i]? = some oi) (d:Tmp) (hd:oi.dst=some d)
  (hs:Region.noSelect ops=true) (hf:Region.free md ops listed i=true) (hr:(Region.ready md ops listed).contains i=true) (hQ:∀ c a w,Q (.panic c) (a.put (some d) v) w→Q (.panic c) a w)
  (hw:Region.wanted oi (yielded ops a.tmps)=true) (hy:∀ w,S w→(execOp a.eval oi).run P w=.ok (.value v) w) (hS:S w) (l2:Array Bool) (hl:listed.setIfInBounds i true=l2)
  (h:wpAnyH P md ops Q S fuel l2 (a.put (some d) v) w):wpAnyH P md ops Q S (fuel+1) listed a w:=by
 subst hl
 rw [← hd] at h hQ
 exact wpAnyH_take hi hs hf hr hQ (.inl ⟨hw,hy⟩) hS h
theorem tk {oi:Oper} {a':Act} {fuel:Nat} {listed:Array Bool} {a:Act} {w:World} (i:Nat) (v:Value) (d:Tmp) (hi:ops[i]? = some oi) (hd:oi.dst=some d) (hS:S w)
  (h:wpAnyH P md ops Q S fuel (listed.setIfInBounds i true) a' w) (hy:∀ w,S w→(execOp a.eval oi).run P w=.ok (.value v) w:=by intro w' hS';unfold execOp;simp [go_sem])
  (hs:Region.noSelect ops=true:=by kernel_rfl) (hf:Region.free md ops listed i=true:=by kernel_rfl) (hr:(Region.ready md ops listed).contains i=true:=by kernel_rfl)
  (hQ:∀ c a w,Q (.panic c) (a.put (some d) v) w→Q (.panic c) a w:=by exact fun _ _ _ h=>h) (hw:Region.wanted oi (yielded ops a.tmps)=true:=by rfl)
  (ha:a.put (some d) v=a':=by simp only [Act.put,List.setIfInBounds_toArray,List.set_cons_zero,List.set_cons_succ];rfl):wpAnyH P md ops Q S (fuel+1) listed a w:=by
 subst ha
 exact held_take hi d hd hs hf hr hQ hw hy hS _ rfl h
theorem held_skip {i:Nat} {oi:Oper} {fuel:Nat} {listed:Array Bool} {a:Act} {w:World} (hi:ops[i]? = some oi) (d:Tmp) (hd:oi.dst=some d)
  (hs:Region.noSelect ops=true) (hf:Region.free md ops listed i=true) (hr:(Region.ready md ops listed).contains i=true) (hQ:∀ c a w,Q (.panic c) (a.put (some d) undef) w→Q (.panic c) a w)
  (hw:Region.wanted oi (yielded ops a.tmps)=false) (hS:S w) (l2:Array Bool) (hl:listed.setIfInBounds i true=l2)
  (h:wpAnyH P md ops Q S fuel l2 (a.put (some d) undef) w):wpAnyH P md ops Q S (fuel+1) listed a w:=by
 subst hl
 rw [← hd] at h hQ
 exact wpAnyH_take hi hs hf hr hQ (.inr ⟨hw,rfl⟩) hS h
theorem held_one {i:Nat} {fuel:Nat} {listed:Array Bool} {a:Act} {w:World} (hr:Region.ready md ops listed=[i]) (l2:Array Bool) (hl:listed.setIfInBounds i true=l2)
  (h:wpOp P ops Q i (fun a' w'=>S w'∧wpAnyH P md ops Q S fuel l2 a' w') a w):wpAnyH P md ops Q S (fuel+1) listed a w:=by
 subst hl
 refine wpAnyH_all hr (by simp) ?_
 intro j hj
 obtain rfl:j=i:=by simpa using hj
 exact h
theorem wpOp_valG {i:Nat} {o:Oper} {a:Act} {w w':World} {K:Act→World→Prop} {v:Value} (hi:ops[i]? = some o) (hw:Region.wanted o (yielded ops a.tmps)=true) (d:Tmp) (hd:o.dst=some d)
  (hr:(execOp a.eval o).run P w=.ok (.value v) w') (h:K (a.put (some d) v) w'):wpOp P ops Q i K a w:=by
 unfold wpOp
 rw [hi]
 show if Region.wanted o (yielded ops a.tmps)=true then _ else _
 rw [if_pos hw]
 refine .inl ?_
 unfold Oper.wp
 rw [hr,Oper.upon_value,hd]
 exact h
theorem wpOp_callG {i:Nat} {o:Oper} {a:Act} {w:World} {K:Act→World→Prop} (hi:ops[i]? = some o) (hw:Region.wanted o (yielded ops a.tmps)=true) (d:Tmp) (hd:o.dst=some d) (f:FuncId) (args:Array Value)
  (hr:(execOp a.eval o).run P w=.ok (.enter f args) w) (R:Value→World→Prop) (hc:Calls P f args w fun e w'=>∃ v,e=.returned v∧R v w') (h:∀ v w',R v w'→K (a.put (some d) v) w'):wpOp P ops Q i K a w:=by
 unfold wpOp
 rw [hi]
 show if Region.wanted o (yielded ops a.tmps)=true then _ else _
 rw [if_pos hw]
 refine .inl ?_
 unfold Oper.wp
 rw [hr,Oper.upon_enter]
 refine hc.mono fun e w' hh => ?_
 obtain ⟨v,rfl,hR⟩:=hh
 rw [hd]
 exact h v w' hR
end
theorem exec_loadM {P:Program} {o:Oper} {a:Act} {w:World} (ty:TypeId) (x:Operand) (ho:o.op=.load ty x) (b p:Nat) (hx:a.eval x=.pointer (some ⟨b,p,none⟩)) (cs:Array Value) {d:TypeDesc} (hc:w.rangeAt b p cs.toList) (hu:P.underlying ty=some d) (hd:d.isRow=true) (hi:(P.info? ty).map (·.size)=some cs.size) :
  (execOp a.eval o).run P w=.ok (.value (.agg cs)) w:=by
 have h:=run_loadAt_mid (P:=P) w b p ty cs.toList _ hc hu hd (by rw [Array.length_toList];exact hi)
 unfold execOp
 rw [Array.toArray_toList] at h
 simp only [ho,hx,Sem.run_bind,h,Result.andThen_ok]
 rfl
theorem range_lies {w:World} {b:Nat} {cs:Array Value} {t:TypeId} (h:Lies w b cs t):w.rangeAt b 0 cs.toList:=fun j v hv=>by
 rw [Nat.zero_add]
 exact h.cell j (by rw [← Array.getElem?_toList];exact hv)
end Go.Proofs.YtilbbemdinpjcaaGreat
namespace Go.Proofs.YtilbbemdinpjcaaGreat
set_option maxRecDepth 100000
open Go.RowKit Go.Sort
theorem keyed_asset:Tryz.prog.keyTypeAt 5 146=true:=by kernel_rfl
def litN (n:Nm):List Lit:=n.1.map (fun b=>Lit.int .u8 b.toNat) ++ [.string n.2]
def litA (a:As):List Lit:=litN a.nm ++ [.int .i64 a.amt]
theorem map_u8_inj:∀ {l m:List UInt8},l.map (fun b=>Lit.int .u8 b.toNat)=m.map (fun b=>Lit.int .u8 b.toNat)→l=m
 | [],[],_=>rfl
 | [],_ :: _,h=>by simp at h
 | _ :: _,[],h=>by simp at h
 | a :: l,b :: m,h=>by
   simp only [List.map_cons,List.cons.injEq,Lit.int.injEq,true_and] at h
   have e:a=b:=UInt8.toNat_inj.1 (by omega)
   rw [e,map_u8_inj h.2]
theorem litN_inj {a b:Nm} (ha:a.1.length=32) (hb:b.1.length=32) (h:litN a=litN b):a=b:=by
 unfold litN at h
 have:=List.append_inj h (by simp [ha,hb])
 simp only [List.cons.injEq,Lit.string.injEq,and_true] at this
 exact Prod.ext (map_u8_inj this.1) this.2
theorem litA_inj {a b:As} (ha:a.nm.1.length=32) (hb:b.nm.1.length=32) (h:litA a=litA b):a=b:=by
 unfold litA at h
 have:=List.append_inj h (by simp [litN,ha,hb])
 simp only [List.cons.injEq,Lit.int.injEq,true_and,and_true] at this
 obtain ⟨n,x⟩:=a
 obtain ⟨m,y⟩:=b
 simp only at this
 rw [litN_inj (a:=n) (b:=m) ha hb this.1,this.2]
theorem u8wf (b:UInt8):(Lit.int .u8 (b.toNat:Int)).wf=true:=by
 have h:=b.toNat_lt
 show (decide ((0:Int)≤(b.toNat:Int)) && decide ((b.toNat:Int)≤255))=true
 rw [Bool.and_eq_true_iff,decide_eq_true_iff,decide_eq_true_iff]
 omega
theorem lit8 (d:Nat) (b:UInt8):Tryz.prog.keyLits (d+1) 5 [.int .u8 b.toNat]=some [.int .u8 b.toNat]:=by
 simp [Program.keyLits,Tryz.underlying5,u8wf]
theorem litT (d:Nat) (t:List UInt8) (h:t.length≤maxLen):Tryz.prog.keyLits (d+1) 9 [.string (txt t)]=some [.string t]:=by
 have hs:(txt t).size=t.length:=by show t.toArray.size=_;simp
 simp [Program.keyLits,Tryz.underlying9,hs,h]
 rfl
theorem litI (d:Nat) (x:Int) (h0:-9223372036854775808≤x) (h1:x < 9223372036854775808):Tryz.prog.keyLits (d+1) 2 [.int .i64 x]=some [.int .i64 x]:=by
 have:(Lit.int .i64 x).wf=true:=by
  show (decide ((-9223372036854775808:Int)≤x) && decide (x≤9223372036854775807))=true
  rw [Bool.and_eq_true_iff,decide_eq_true_iff,decide_eq_true_iff]
  omega
 simp [Program.keyLits,Tryz.underlying2,this]
theorem cells26:Tryz.prog.cellsOf 30=32:=by kernel_rfl
theorem cells5:Tryz.prog.cellsOf 5=1:=by kernel_rfl
theorem cells9:Tryz.prog.cellsOf 9=1:=by kernel_rfl
theorem cells2:Tryz.prog.cellsOf 2=1:=by kernel_rfl
theorem cells68:Tryz.prog.cellsOf 255=33:=by kernel_rfl
theorem cells54:Tryz.prog.cellsOf 146=34:=by kernel_rfl
theorem mapM_items {α β:Type} (f:Nat→Option β) (g:Nat→β):∀ is:List Nat,(∀ i,i ∈ is→f i=some (g i))→is.mapM f=some (is.map g)
 | [],_=>rfl
 | i :: is,h=>by
   rw [List.mapM_cons,h i (by simp),mapM_items (α:=α) f g is (fun j hj=>h j (by simp [hj]))]
   rfl
theorem litsH (d:Nat) (p:List UInt8) (h:p.length=32):Tryz.prog.keyLits (d+2) 30 (B8 p).toList=some (p.map fun b=>Lit.int .u8 b.toNat):=by
 have hl:(B8 p).toList.length=32:=by rw [Array.length_toList,B8_size,h]
 have hm:=mapM_items (α:=Nat) (fun i=>Tryz.prog.keyLits (d+1) 5 (((B8 p).toList.drop (i * 1)).take 1)) (fun i=>[Lit.int .u8 (p.getD i 0).toNat]) (List.range 32) (fun i hi=>by
  have hi:i < p.length:=by rw [h];exact List.mem_range.1 hi
  have e:((B8 p).toList.drop (i * 1)).take 1=[.int .u8 (p.getD i 0).toNat]:=by
   rw [Nat.mul_one,List.drop_eq_getElem_cons (by rw [hl];omega),List.take_succ_cons,List.take_zero]
   have:=B8_get p i hi
   rw [← Array.getElem?_toList,List.getElem?_eq_getElem (by rw [hl];omega)] at this
   rw [Option.some.inj this]
  show Tryz.prog.keyLits (d+1) 5 (((B8 p).toList.drop (i * 1)).take 1)=_
  rw [e]
  exact lit8 d _)
 have e2:((List.range 32).map fun i=>[Lit.int .u8 (p.getD i 0).toNat]).flatten=p.map fun b=>Lit.int .u8 b.toNat:=by
  obtain ⟨a0,a1,a2,a3,a4,a5,a6,a7,a8,a9,a10,a11,a12,a13,a14,a15,a16,a17,a18,a19,a20,a21,a22,a23,a24,a25,a26,a27,a28,a29,a30,a31,rfl⟩:=list32 p h
  rfl
 unfold Program.keyLits
 simp only [Tryz.underlying30,cells26,cells5,hl,if_true]
 rw [hm,Option.map_some,e2]
theorem lits_nm (d:Nat) (n:Nm) (h:n.1.length=32) (ht:n.2.length≤maxLen):Tryz.prog.keyLits (d+3) 255 (nmC n).toList=some (litN n):=by
 have hl:(B8 n.1).toList.length=32:=by rw [Array.length_toList,B8_size,h]
 have e:(nmC n).toList=(B8 n.1).toList ++ [.string (txt n.2)]:=by simp [nmC]
 rw [e]
 unfold Program.keyLits
 simp only [Tryz.underlying255,cells68,List.length_append,hl,List.length_cons,List.length_nil]
 rw [if_pos ⟨trivial,by kernel_rfl⟩]
 simp only [List.mapM_cons,List.mapM_nil,cells26,cells9,List.drop_zero,List.take_left' hl,List.drop_left' hl]
 rw [litsH d n.1 h]
 simp [litT,ht,litN]
theorem lits_as (d:Nat) (a:As) (h:AsOk a):Tryz.prog.keyLits (d+3) 146 (asC a).toList=some (litA a):=by
 have hl:(B8 a.nm.1).toList.length=32:=by rw [Array.length_toList,B8_size,h.1]
 have e:(asC a).toList=(B8 a.nm.1).toList ++ [.string (txt a.nm.2),.int .i64 a.amt]:=by simp [asC]
 rw [e]
 unfold Program.keyLits
 simp only [Tryz.underlying146,cells54,List.length_append,hl,List.length_cons,List.length_nil]
 rw [if_pos ⟨trivial,by kernel_rfl⟩]
 have e33:((B8 a.nm.1).toList ++ [Value.string (txt a.nm.2),Value.int .i64 a.amt]).drop 33=[Value.int .i64 a.amt]:=by
  rw [show (33:Nat)=32+1 from rfl,← List.drop_drop,List.drop_left' hl]
  rfl
 simp only [List.mapM_cons,List.mapM_nil,cells26,cells9,cells2,List.drop_zero,List.take_left' hl,List.drop_left' hl,e33]
 rw [litsH d a.nm.1 h.1]
 simp [litT,h.2.1,litI (d+1) a.amt h.2.2.1 h.2.2.2,litA,litN]
theorem formed_as (a:As) (h:a.nm.1.length=32):(Value.agg (asC a)).formed Tryz.prog 146=true:=by
 obtain ⟨⟨p,t⟩,x⟩:=a
 obtain ⟨a0,a1,a2,a3,a4,a5,a6,a7,a8,a9,a10,a11,a12,a13,a14,a15,a16,a17,a18,a19,a20,a21,a22,a23,a24,a25,a26,a27,a28,a29,a30,a31,rfl⟩:=list32 p h
 kernel_rfl
theorem As.ext_iff' (a b:As):a=b ↔ a.nm=b.nm∧a.amt=b.amt:=by
 constructor
 ·
  rintro rfl;exact ⟨rfl,rfl⟩
 ·
  rintro ⟨h,k⟩;cases a;cases b;simp only at h k;rw [h,k]
instance:DecidableEq As:=fun a b=>decidable_of_iff _ (As.ext_iff' a b).symm
theorem eq_as (w:World) (a b:As) (ha:AsOk a) (hb:AsOk b):(Op.equalIn 10000 146 (.agg (asC a)) (.agg (asC b))).run Tryz.prog w=.ok (decide (a=b)) w:=by
 obtain ⟨r,hr,hi⟩:=run_equalIn_deep 9995 5 146 keyed_asset w 5 5 (.agg (asC a)) (.agg (asC b)) _ _ (formed_as a ha.1) (formed_as b hb.1) (lits_as 2 a ha) (lits_as 2 b hb)
 have e:r=decide (a=b):=by
  rw [Bool.eq_iff_iff,decide_eq_true_iff,hi]
  exact ⟨litA_inj ha.1 hb.1,fun e=>by rw [e]⟩
 rw [← e]
 exact hr
end Go.Proofs.YtilbbemdinpjcaaGreat
namespace Go.Proofs.YtilbbemdinpjcaaGreat
set_option maxRecDepth 100000
open Go.RowKit Go.Sort
instance:Inhabited As:=⟨⟨([],[]),0⟩⟩
def HasA (w:World) (g off:Nat) (l:List As):Prop:=∀ i a,l[i]? = some a→w.rangeAt g (off+i * 34) (asC a).toList
theorem HasA.below {B:Nat} {w w':World} {g off:Nat} {l:List As} (h:HasA w g off l) (hb:Below B w w') (hg:g < B):HasA w' g off l :=
 fun i a hi j v hv=>(hb.cell (p:=⟨g,off+i * 34+j,none⟩) hg).trans (h i a hi j v hv)
section
variable {P:Program} {ops:Array Oper} {Q:Exit→Act→World→Prop}
theorem wpList_row_want {rest:List Oper} {o:Oper} {a:Act} {w:World} (hw:Region.wanted o (yielded ops a.tmps)=true) (ty:TypeId) (x:Operand) (ho:o.op=.load ty x)
  (g:Nat) (hx:a.eval x=.pointer (some ⟨g,0,none⟩)) (t:TypeId) (cs:Array Value) (fr:Nat × Nat) (d:TypeDesc) (hg:w.heap[g]? = some (.cells cs t fr))
  (hu:P.underlying ty=some d) (hd:(match d with | .struct _ | .array _ _=>true | _=>false)=true) (hi:(P.info? ty).map (·.size)=some cs.size)
  (h:wpList P ops Q rest (a.put o.dst (.agg cs)) w):wpList P ops Q (o :: rest) a w :=
 BigFrame.wpList_want hw fun _ hK=>wp_load_row ty x ho g hx t cs fr d hg hu hd hi (hK _ _ h)
end
theorem ret_of {P:Program} {f:FuncId} {args:Array Value} {w:World} {v:Value} {B:Nat} {w0:World} (h:Calls P f args w fun e w'=>e=.returned v∧Below B w0 w'):Calls P f args w fun e w'=>∃ v2,e=.returned v2∧(v2=v∧Below B w0 w') :=
 h.mono fun _ _ h=>⟨v,h.1,rfl,h.2⟩
theorem txt_size (l:List UInt8):(txt l).size=l.length:=by show l.toArray.size=_;simp
def okAt (p:As→Bool) (l:List As) (i:Nat):Bool :=
 decide ((l.getD i default).nm.2.length≤32) && p (l.getD i default) && (i == 0 || decide (cN (l.getD (i - 1) default).nm (l.getD i default).nm < 0))
def wellB (p:As→Bool) (l:List As):Bool:=(List.range l.length).all (okAt p l)
theorem well_no {p:As→Bool} {l:List As} {i:Nat} (hi:i < l.length) (h:okAt p l i=false):wellB p l=false:=by
 unfold wellB
 rw [List.all_eq_false]
 exact ⟨i,List.mem_range.2 hi,by rw [h];simp⟩
theorem well_yes {p:As→Bool} {l:List As} (h:∀ i,i < l.length→okAt p l i=true):wellB p l=true:=by
 unfold wellB
 rw [List.all_eq_true]
 exact fun i hi=>h i (List.mem_range.1 hi)
def z34:Array Value:=((Array.replicate 32 (.int .u8 0)).push (.string ⟨#[]⟩)).push (.int .i64 0)
theorem well_any (K:Nat) (p:As→Bool) (hK:∀ args w,(callFunc K args).run Tryz.prog w=.ok (.enter K args) w)
 (hp:∀ (w:World) (a:As),a.nm.1.length=32→Calls Tryz.prog K #[.agg (asC a)] w fun e w'=>e=.returned (.bool (p a))∧Below w.heap.size w w')
 (w:World) (pa:Option Addr) (l:List As) (c:Nat) (hl:l.length≤maxLen) (hok:∀ a,a ∈ l→a.nm.1.length=32∧a.nm.2.length≤maxLen)
 (hsrc:0 < l.length→∃ g off,pa=some ⟨g,off,none⟩∧g < w.heap.size∧HasA w g off l) :
 Calls Tryz.prog 130 #[.slice pa l.length c,.func (.func 131) #[] #[],.func (.func K) #[] #[]] w fun e w'=>e=.returned (.bool (wellB p l))∧Below w.heap.size w w':=by
 have hli:(l.length:Int)≤9223372036854775807:=by unfold maxLen at hl;omega
 have HS:=Lib.hid (And.intro hsrc hok)
 have HP:=Lib.hid hp
 clear hsrc hok hp hl
 go_enter Tryz.func130,Tryz.ntmps130
 go_wp2_with fail
 go_loopw [12] (fun i W=>∃ k:Nat,k≤l.length∧i=.int .i64 k∧Below w.heap.size w W∧∀ i,i < k→okAt p l i=true) (fun i _=>l.length - (intOf i).toNat)
 case atStart=>exact ⟨0,Nat.zero_le _,rfl,Below.refl _ _,fun i hi=>absurd hi (by omega)⟩
 case round =>
  obtain ⟨k,hk,rfl,hb,hall⟩:=hrel
  by_cases hlt:k < l.length
  · have m1:(k:Int) < (l.length:Int):=by omega
    have m0:(0:Int)≤(k:Int):=by omega
    obtain ⟨g,off,rfl,hg,hhas⟩:=HS.out.1 (by omega)
    obtain ⟨a,ha⟩:∃ a,a=l[k]:=⟨_,rfl⟩
    have hka:l[k]? = some a:=by rw [ha,List.getElem?_eq_getElem hlt]
    have hkd:l.getD k default=a:=by rw [List.getD_eq_getElem?_getD,hka];rfl
    have hao:=HS.out.2 a (List.mem_of_getElem? hka)
    have hrg:=(hhas.below hb hg) k a hka
    obtain ⟨va,hva⟩:∃ v,v=asC a:=⟨_,rfl⟩
    have hvs:va.size=34:=by rw [hva];exact asC_size a hao.1
    rw [← hva] at hrg
    have HR:=Lib.hid (And.intro hb (And.intro hall (And.intro hlt (And.intro hka (And.intro hkd (And.intro hao (And.intro hva (And.intro hvs (And.intro hg hhas)))))))))
    have HRG:=Lib.hid hrg
    clear hb hall hlt hk ha hka hkd hao hrg hva hvs hg hhas
    have eA:∀ W,Calls Tryz.prog 131 #[.agg va] W fun e w'=>e=.returned (.agg (nmC a.nm))∧Below W.heap.size W w':=fun W=>by
     rw [HR.out.2.2.2.2.2.2.1];exact callAsset_any W a HR.out.2.2.2.2.2.1.1
    have HEA:=Lib.hid eA
    clear eA
    go_upto_region 4 with (first
     | (refine wpList_load_mid rfl 146 _ rfl g (off+k * 34) rfl va.toList _ HRG.out Tryz.underlying146 rfl (by rw [Array.length_toList,HR.out.2.2.2.2.2.2.2.1];exact info_asset) ?_)
     | (refine wpList_store_row rfl 146 _ _ rfl wr.heap.size va rfl rfl 146 z34 (Lies.new wr z34 146) (by rw [HR.out.2.2.2.2.2.2.2.1];exact info_asset) (by rw [HR.out.2.2.2.2.2.2.2.1];kernel_rfl) (by rw [HR.out.2.2.2.2.2.2.1];exact asC_one a) ?_))
    rw [World.setRow_alloc_new]
    have hL1:Lies (wr.alloc (.cells va 146)) wr.heap.size va 146:=Lies.new _ _ _
    have hb1:Below wr.heap.size wr (wr.alloc (.cells va 146)):=(Below.refl _ _).alloc (Nat.le_refl _) _
    have hs1:(wr.alloc (.cells va 146)).heap.size=wr.heap.size+1:=by simp
    generalize wr.alloc (.cells va 146)=W1 at hL1 hb1 hs1 ⊢
    obtain ⟨nv,hnv⟩:∃ v,v=nmC a.nm:=⟨_,rfl⟩
    have hns:nv.size=33:=by rw [hnv];exact nmC_size a.nm HR.out.2.2.2.2.2.1.1
    have HEA':Hid (∀ W,Calls Tryz.prog 131 #[.agg va] W fun e w'=>e=.returned (.agg nv)∧Below W.heap.size W w'):=by rw [hnv];exact HEA
    have H1:=Lib.hid (And.intro hL1 (And.intro hb1 (And.intro hs1 (And.intro hnv hns))))
    clear HEA hL1 hb1 hs1 hnv hns
    go_upto_region 5 with (first
     | (refine wpList_load_row rfl 146 _ rfl wr.heap.size rfl 146 va (0,0) _ H1.out.1 Tryz.underlying146 rfl (by rw [HR.out.2.2.2.2.2.2.2.1];exact info_asset) ?_)
     | (go_at_call 131;refine (HEA'.out _).mono ?_;rintro e W2 ⟨rfl,hb2⟩)
     | (refine wpList_store_row rfl 255 _ _ rfl _ nv rfl rfl 255 z33 (Lies.new _ z33 255) (by rw [H1.out.2.2.2.2];exact info_called) (by rw [H1.out.2.2.2.2];kernel_rfl) (by rw [H1.out.2.2.2.1];exact nmC_one a.nm) ?_))
    rw [World.setRow_alloc_new]
    have hpr:=HP.out
    obtain ⟨B3,hB3⟩:∃ b,b=W2.heap.size:=⟨_,rfl⟩
    have hL3:Lies (W2.alloc (.cells nv 255)) B3 nv 255:=by rw [hB3];exact Lies.new _ _ _
    have hb3:Below wr.heap.size wr (W2.alloc (.cells nv 255)):=H1.out.2.1.trans ((hb2.alloc hb2.size _).mono (by rw [H1.out.2.2.1];omega))
    have hA3:Lies (W2.alloc (.cells nv 255)) wr.heap.size va 146:=(H1.out.1.below hb2 H1.out.1.lt).alloc _
    rw [← hB3]
    generalize W2.alloc (.cells nv 255)=W3 at hL3 hb3 hA3 ⊢
    have c32:=hL3.cell 32 (v:=.string (txt a.nm.2)) (by rw [H1.out.2.2.2.1];exact nmC_txt a.nm HR.out.2.2.2.2.2.1.1)
    have hts:=txt_size a.nm.2
    generalize txt a.nm.2=tv at c32 hts
    have htl:(tv.size:Int)≤9223372036854775807:=by have:=HR.out.2.2.2.2.2.1.2;unfold maxLen at this;omega
    have H3:=Lib.hid (And.intro hL3 (And.intro hb3 (And.intro hA3 hts)))
    clear hL3 hb3 hA3 hts hB3 hb2 hpr HEA'
    by_cases hlong:32 < a.nm.2.length
    · have m2:(32:Int) < (tv.size:Int):=by rw [H3.out.2.2.2];omega
      go_wp2_with fail
      go_ret
      refine ⟨?_,HR.out.1.trans (H3.out.2.1.mono HR.out.1.size)⟩
      rw [well_no HR.out.2.2.1 (by unfold okAt;rw [HR.out.2.2.2.2.1];simp;omega)]
      rfl
    · have m2:(tv.size:Int)≤(32:Int):=by rw [H3.out.2.2.2];omega
      have hd:decide ((32:Int) < (tv.size:Int))=false:=by simp;omega
      have HK:=Lib.hid (HP.out W3 a HR.out.2.2.2.2.2.1.1)
      rw [← HR.out.2.2.2.2.2.2.1] at HK
      cases hpa:p a with
      | false =>
        rw [hpa] at HK
        go_wp2_with (first
         | (refine wpList_row_want (by first | kernel_rfl | (rw [hd];kernel_rfl)) 146 _ rfl wr.heap.size rfl 146 va (0,0) _ H3.out.2.2.1 Tryz.underlying146 rfl (by rw [HR.out.2.2.2.2.2.2.2.1];exact info_asset) ?_)
         | (refine HK.out.mono ?_;rintro e W4 ⟨rfl,hb4⟩))
        go_ret
        refine ⟨?_,HR.out.1.trans ((H3.out.2.1.trans (hb4.mono H3.out.2.1.size)).mono HR.out.1.size)⟩
        rw [well_no HR.out.2.2.1 (by unfold okAt;rw [HR.out.2.2.2.2.1,hpa];simp)]
        rfl
      | true =>
        rw [hpa] at HK
        go_upto_region 7 with (first
         | (refine wpList_row_want (by first | kernel_rfl | (rw [hd];kernel_rfl)) 146 _ rfl wr.heap.size rfl 146 va (0,0) _ H3.out.2.2.1 Tryz.underlying146 rfl (by rw [HR.out.2.2.2.2.2.2.2.1];exact info_asset) ?_)
         | (refine HK.out.mono ?_;rintro e W4 ⟨rfl,hb4⟩))
        have hb4w:Below w.heap.size w W4:=HR.out.1.trans ((H3.out.2.1.trans (hb4.mono H3.out.2.1.size)).mono HR.out.1.size)
        have hL4:Lies W4 B3 nv 255:=H3.out.1.below hb4 H3.out.1.lt
        have h32:a.nm.2.length≤32:=by omega
        have H4:=Lib.hid (And.intro hL4 (And.intro hb4w (And.intro h32 hpa)))
        clear hL4 hb4w h32 hpa hb4 HK hd hlong m2 c32 htl
        by_cases hk0:k=0
        · have kz:¬ (0:Int) < (k:Int):=by omega
          have HOK:=Lib.hid (show okAt p l k=true by unfold okAt;rw [HR.out.2.2.2.2.1,H4.out.2.2.2];simpa [hk0] using H4.out.2.2.1)
          have HK0:=Lib.hid hk0
          clear hk0
          refine wp_region_noPanic (wp_region_held (S:=fun V=>True) (by kernel_rfl) ?_)
          change wpAnyH _ _ _ _ _ 14 _ _ (World.drew W4)
          have hcur:True:=trivial
          refine tk 0 (.int .i64 k) 30 rfl rfl hcur ?_
          refine tk 1 (.bool false) 31 rfl rfl hcur ?_ (by intro w' hS';unfold execOp;simp [go_sem];exact HK0.out)
          refine tk 2 (.bool false) 32 rfl rfl hcur ?_
          refine held_skip (i:=3) rfl 33 rfl (by kernel_rfl) (by kernel_rfl) (by kernel_rfl) (fun _ _ _ h=>h) (by rfl) hcur _ rfl ?_
          simp only [Act.put,List.setIfInBounds_toArray,List.set_cons_zero,List.set_cons_succ]
          refine held_skip (i:=4) rfl 34 rfl (by kernel_rfl) (by kernel_rfl) (by kernel_rfl) (fun _ _ _ h=>h) (by rfl) hcur _ rfl ?_
          simp only [Act.put,List.setIfInBounds_toArray,List.set_cons_zero,List.set_cons_succ]
          refine held_skip (i:=5) rfl 35 rfl (by kernel_rfl) (by kernel_rfl) (by kernel_rfl) (fun _ _ _ h=>h) (by rfl) hcur _ rfl ?_
          simp only [Act.put,List.setIfInBounds_toArray,List.set_cons_zero,List.set_cons_succ]
          refine held_skip (i:=6) rfl 36 rfl (by kernel_rfl) (by kernel_rfl) (by kernel_rfl) (fun _ _ _ h=>h) (by rfl) hcur _ rfl ?_
          simp only [Act.put,List.setIfInBounds_toArray,List.set_cons_zero,List.set_cons_succ]
          refine held_skip (i:=7) rfl 37 rfl (by kernel_rfl) (by kernel_rfl) (by kernel_rfl) (fun _ _ _ h=>h) (by rfl) hcur _ rfl ?_
          simp only [Act.put,List.setIfInBounds_toArray,List.set_cons_zero,List.set_cons_succ]
          refine held_skip (i:=8) rfl 38 rfl (by kernel_rfl) (by kernel_rfl) (by kernel_rfl) (fun _ _ _ h=>h) (by rfl) hcur _ rfl ?_
          simp only [Act.put,List.setIfInBounds_toArray,List.set_cons_zero,List.set_cons_succ]
          refine held_skip (i:=9) rfl 39 rfl (by kernel_rfl) (by kernel_rfl) (by kernel_rfl) (fun _ _ _ h=>h) (by rfl) hcur _ rfl ?_
          simp only [Act.put,List.setIfInBounds_toArray,List.set_cons_zero,List.set_cons_succ]
          refine held_skip (i:=10) rfl 40 rfl (by kernel_rfl) (by kernel_rfl) (by kernel_rfl) (fun _ _ _ h=>h) (by rfl) hcur _ rfl ?_
          simp only [Act.put,List.setIfInBounds_toArray,List.set_cons_zero,List.set_cons_succ]
          refine held_skip (i:=11) rfl 41 rfl (by kernel_rfl) (by kernel_rfl) (by kernel_rfl) (fun _ _ _ h=>h) (by rfl) hcur _ rfl ?_
          simp only [Act.put,List.setIfInBounds_toArray,List.set_cons_zero,List.set_cons_succ]
          refine held_skip (i:=12) rfl 42 rfl (by kernel_rfl) (by kernel_rfl) (by kernel_rfl) (fun _ _ _ h=>h) (by rfl) hcur _ rfl ?_
          simp only [Act.put,List.setIfInBounds_toArray,List.set_cons_zero,List.set_cons_succ]
          refine tk 13 (.bool false) 43 rfl rfl hcur ?_
          refine wpAnyH_done (by kernel_rfl) ?_ _
          unfold NoPanic
          dsimp only
          clear hcur
          go_wp2_with fail
          have e1:(k:Int)+1=((k+1:Nat):Int):=by omega
          rw [e1]
          refine ⟨⟨k+1,HR.out.2.2.1,rfl,H4.out.2.1.trans ((Below.refl _ _).drew.mono H4.out.2.1.size),fun i hi => ?_⟩,?_⟩
          · by_cases e:i=k
            · rw [e];exact HOK.out
            · exact HR.out.2.1 i (by omega)
          · have h:=HR.out.2.2.1
            show l.length - (k+1) < l.length - k
            omega
        · obtain ⟨kp,hkp⟩:∃ i,i=k - 1:=⟨_,rfl⟩
          have kpos:(0:Int) < (k:Int):=by omega
          have ksub:wrap64 ((k:Int) - 1)=(kp:Int):=by unfold wrap64;omega
          have kp0:(0:Int)≤(kp:Int):=by omega
          have kpl:(kp:Int) < (l.length:Int):=by omega
          have hkpl:kp < l.length:=by omega
          obtain ⟨b,hb⟩:∃ b,b=l[kp]:=⟨_,rfl⟩
          have hkb:l[kp]? = some b:=by rw [hb,List.getElem?_eq_getElem hkpl]
          have hbd':l.getD (k - 1) default=b:=by rw [← hkp,List.getD_eq_getElem?_getD,hkb];rfl
          have hbo:=HS.out.2 b (List.mem_of_getElem? hkb)
          obtain ⟨vb,hvb⟩:∃ v,v=asC b:=⟨_,rfl⟩
          obtain ⟨nb,hnb⟩:∃ v,v=nmC b.nm:=⟨_,rfl⟩
          obtain ⟨x,hxe⟩:∃ x,x=cN b.nm a.nm:=⟨_,rfl⟩
          have hvs:vb.size=34:=by rw [hvb];exact asC_size b hbo.1
          have hcall:∀ W,Calls Tryz.prog 131 #[.agg vb] W fun e w'=>e=.returned (.agg nb)∧Below W.heap.size W w':=fun W=>by
           rw [hvb,hnb];exact callAsset_any W b hbo.1
          have hord:∀ W,Calls Tryz.prog 205 #[.agg nb,.agg nv] W fun e w'=>e=.returned (.int .i64 x)∧Below W.heap.size W w':=fun W=>by
           rw [hnb,H1.out.2.2.2.1,hxe];exact order_any W b.nm a.nm hbo.1 HR.out.2.2.2.2.2.1.1
          have HB:=Lib.hid (And.intro hvs (And.intro (show (Tryz.prog.info? 146).map (·.size)=some vb.size by rw [hvs];exact info_asset) (And.intro (show (Tryz.prog.info? 255).map (·.size)=some nv.size by rw [H1.out.2.2.2.2];exact info_called) (And.intro hcall hord))))
          have HS7:Hid (∀ V,Below W4.heap.size W4 V→V.rangeAt g (off+kp * 34) vb.toList∧Lies V B3 nv 255):=Lib.hid fun V hV =>
           ⟨by rw [hvb];exact (HR.out.2.2.2.2.2.2.2.2.2.below (H4.out.2.1.trans (hV.mono H4.out.2.1.size)) HR.out.2.2.2.2.2.2.2.2.1) kp b hkb,H4.out.1.below hV H4.out.1.lt⟩
          have HX:=Lib.hid (And.intro hbd' (And.intro hxe hk0))
          clear hb hkb hbo hvb hnb hxe hvs hcall hord hkpl hkp hbd' hk0
          have s0:=HS7.out _ (Below.refl _ _).drew
          refine wp_region_noPanic (wp_region_held (S:=fun V=>V.rangeAt g (off+kp * 34) vb.toList∧Lies V B3 nv 255) (by kernel_rfl) ?_)
          change wpAnyH _ _ _ _ _ 14 _ _ (World.drew W4)
          have hbd:Below W4.heap.size W4 W4.drew:=(Below.refl _ _).drew
          have hb4w:=H4.out.2.1
          generalize World.drew W4=wd at s0 hbd ⊢
          have hcur:=s0
          by_cases hx:(0:Int)≤x
          · skip
            refine tk 0 (.int .i64 k) 30 rfl rfl hcur ?_
            refine tk 1 (.bool true) 31 rfl rfl hcur ?_ (by intro w' hS';unfold execOp;simp [go_sem];omega)
            refine tk 2 (.bool true) 32 rfl rfl hcur ?_
            refine tk 3 (.func (.func 131) #[] #[]) 33 rfl rfl hcur ?_
            refine tk 4 (.slice (some ⟨g,off,none⟩) l.length c) 34 rfl rfl hcur ?_
            refine tk 5 (.int .i64 k) 35 rfl rfl hcur ?_
            refine tk 6 (.int .i64 kp) 36 rfl rfl hcur ?_ (by intro w' hS';unfold execOp;simp [go_sem];rw [IntKind.wrap_i64];unfold wrap64 at ksub;omega)
            refine tk 7 (.pointer (some ⟨g,off+kp * 34,none⟩)) 37 rfl rfl hcur ?_ (by intro w' hS';unfold execOp;simp [go_sem,kp0,kpl])
            refine tk 8 (.agg vb) 38 rfl rfl hcur ?_ (by intro w' hS';exact exec_loadM 146 _ rfl _ _ rfl vb hS'.1 Tryz.underlying146 rfl HB.out.2.1)
            refine tk 10 (.agg nv) 40 rfl rfl hcur ?_ (by intro w' hS';exact exec_loadM 255 _ rfl _ _ rfl nv (range_lies hS'.2) Tryz.underlying255 rfl HB.out.2.2.1)
            refine held_one (i:=9) (by kernel_rfl) _ rfl (wpOp_callG rfl (by rfl) 39 rfl 131 #[.agg vb] (by unfold execOp;simp [go_sem]) _ (ret_of (HB.out.2.2.2.1 wd)) ?_)
            rintro v9 w9 ⟨rfl,hb9⟩
            have hb9':=hbd.trans (hb9.mono hbd.size)
            have hcur:=HS7.out _ hb9'
            refine ⟨hcur,?_⟩
            simp only [Act.put,List.setIfInBounds_toArray,List.set_cons_zero,List.set_cons_succ]
            refine held_one (i:=11) (by kernel_rfl) _ rfl (wpOp_callG rfl (by rfl) 41 rfl 205 #[.agg nb,.agg nv] (by unfold execOp;simp [go_sem]) _ (ret_of (HB.out.2.2.2.2 w9)) ?_)
            rintro v11 w11 ⟨rfl,hb11⟩
            have hb11':=hb9'.trans (hb11.mono hb9'.size)
            have hcur:=HS7.out _ hb11'
            refine ⟨hcur,?_⟩
            simp only [Act.put,List.setIfInBounds_toArray,List.set_cons_zero,List.set_cons_succ]
            refine tk 12 (.bool true) 42 rfl rfl hcur ?_ (by intro w' hS';unfold execOp;simp [go_sem,hx])
            refine tk 13 (.bool true) 43 rfl rfl hcur ?_
            refine wpAnyH_done (by kernel_rfl) ?_ _
            unfold NoPanic
            dsimp only
            have HBW:=Lib.hid (hb4w.trans (hb11'.mono hb4w.size))
            clear hbd hcur hb9 hb9' hb11 hb11' hb4w
            go_wp2_with fail
            go_ret
            refine ⟨?_,HBW.out⟩
            rw [well_no HR.out.2.2.1 (by unfold okAt;rw [HR.out.2.2.2.2.1,HX.out.1,← HX.out.2.1];simp;omega)]
            rfl
          · skip
            refine tk 0 (.int .i64 k) 30 rfl rfl hcur ?_
            refine tk 1 (.bool true) 31 rfl rfl hcur ?_ (by intro w' hS';unfold execOp;simp [go_sem];omega)
            refine tk 2 (.bool true) 32 rfl rfl hcur ?_
            refine tk 3 (.func (.func 131) #[] #[]) 33 rfl rfl hcur ?_
            refine tk 4 (.slice (some ⟨g,off,none⟩) l.length c) 34 rfl rfl hcur ?_
            refine tk 5 (.int .i64 k) 35 rfl rfl hcur ?_
            refine tk 6 (.int .i64 kp) 36 rfl rfl hcur ?_ (by intro w' hS';unfold execOp;simp [go_sem];rw [IntKind.wrap_i64];unfold wrap64 at ksub;omega)
            refine tk 7 (.pointer (some ⟨g,off+kp * 34,none⟩)) 37 rfl rfl hcur ?_ (by intro w' hS';unfold execOp;simp [go_sem,kp0,kpl])
            refine tk 8 (.agg vb) 38 rfl rfl hcur ?_ (by intro w' hS';exact exec_loadM 146 _ rfl _ _ rfl vb hS'.1 Tryz.underlying146 rfl HB.out.2.1)
            refine tk 10 (.agg nv) 40 rfl rfl hcur ?_ (by intro w' hS';exact exec_loadM 255 _ rfl _ _ rfl nv (range_lies hS'.2) Tryz.underlying255 rfl HB.out.2.2.1)
            refine held_one (i:=9) (by kernel_rfl) _ rfl (wpOp_callG rfl (by rfl) 39 rfl 131 #[.agg vb] (by unfold execOp;simp [go_sem]) _ (ret_of (HB.out.2.2.2.1 wd)) ?_)
            rintro v9 w9 ⟨rfl,hb9⟩
            have hb9':=hbd.trans (hb9.mono hbd.size)
            have hcur:=HS7.out _ hb9'
            refine ⟨hcur,?_⟩
            simp only [Act.put,List.setIfInBounds_toArray,List.set_cons_zero,List.set_cons_succ]
            refine held_one (i:=11) (by kernel_rfl) _ rfl (wpOp_callG rfl (by rfl) 41 rfl 205 #[.agg nb,.agg nv] (by unfold execOp;simp [go_sem]) _ (ret_of (HB.out.2.2.2.2 w9)) ?_)
            rintro v11 w11 ⟨rfl,hb11⟩
            have hb11':=hb9'.trans (hb11.mono hb9'.size)
            have hcur:=HS7.out _ hb11'
            refine ⟨hcur,?_⟩
            simp only [Act.put,List.setIfInBounds_toArray,List.set_cons_zero,List.set_cons_succ]
            refine tk 12 (.bool false) 42 rfl rfl hcur ?_ (by intro w' hS';unfold execOp;simp [go_sem,hx])
            refine tk 13 (.bool false) 43 rfl rfl hcur ?_
            refine wpAnyH_done (by kernel_rfl) ?_ _
            unfold NoPanic
            dsimp only
            have HBW:=Lib.hid (hb4w.trans (hb11'.mono hb4w.size))
            clear hbd hcur hb9 hb9' hb11 hb11' hb4w
            have HOK:=Lib.hid (show okAt p l k=true by unfold okAt;rw [HR.out.2.2.2.2.1,HX.out.1,← HX.out.2.1,H4.out.2.2.2];simp;exact ⟨H4.out.2.2.1,Or.inr (by omega)⟩)
            go_wp2_with fail
            have e1:(k:Int)+1=((k+1:Nat):Int):=by omega
            rw [e1]
            refine ⟨⟨k+1,HR.out.2.2.1,rfl,HBW.out,fun i hi => ?_⟩,?_⟩
            · by_cases e:i=k
              · rw [e];exact HOK.out
              · exact HR.out.2.1 i (by omega)
            · have h:=HR.out.2.2.1
              show l.length - (k+1) < l.length - k
              omega
  · have e1:k=l.length:=by omega
    have HF:=Lib.hid (And.intro hb (And.intro hall e1))
    have m1:¬ (k:Int) < (l.length:Int):=by omega
    clear hb hall e1 hk hlt
    go_wp2_with fail
    go_ret
    refine ⟨?_,HF.out.1⟩
    rw [well_yes (fun i hi=>HF.out.2.1 i (by rw [HF.out.2.2];exact hi))]
    rfl
end Go.Proofs.YtilbbemdinpjcaaGreat
