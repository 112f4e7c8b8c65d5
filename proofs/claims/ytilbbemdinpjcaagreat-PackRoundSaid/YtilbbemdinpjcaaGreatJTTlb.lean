/-
  laid: how all nodes of a term lie; or it throws.
-/
import Derived.Test.YtilbbemdinpjcaaGreatJTTi
import Derived.Laws.MakeOwn
import Derived.Laws.ResultCell
set_option maxHeartbeats 16000000
namespace Go.Proofs.YtilbbemdinpjcaaGreat.T
open Go.RowKit
def layN (ks:Nat→Int) (n:Nat):Nat→Option ((Nat→Nat) × (Nat→Nat))
 | 0=>some (fun _=>0,fun _=>0)
 | j+1=>match layN ks n j with
   | none=>none
   | some (E,D)=>if ks (n - 1 - j) < 0 then none else match walk E D n (ks (n - 1 - j)).toNat (n - 1 - j+1,0) with
     | none=>none
     | some (a,m)=>some (upd E (n - 1 - j) a,upd D (n - 1 - j) (m+1))
def LayInv (n j:Nat) (E D:Nat→Nat):Prop:=(∀ x,E x≤n)∧(∀ x,D x≤n)∧∀ x,n - j≤x→x < n→x < E x∧D x≤n - x
theorem walk_good {E D:Nat→Nat} {n i:Nat} (h:∀ x,i+1≤x→x < n→x < E x∧E x≤n∧D x≤n - x) (hi:i < n):∀ (k a m:Nat),walk E D n k (i+1,0)=some (a,m)→i+1≤a∧a≤n∧m≤n - (i+1)
 | 0,a,m,hw=>by
   simp only [walk,Option.some.injEq] at hw
   cases hw
   omega
 | k+1,a,m,hw=>by
   simp only [walk] at hw
   cases hk:walk E D n k (i+1,0) with
   | none=>rw [hk] at hw;cases hw
   | some y =>
     obtain ⟨a0,m0⟩:=y
     rw [hk] at hw
     have ih:=walk_good h hi k a0 m0 hk
     simp only at hw
     split at hw
     · cases hw
     · rename_i hne
       cases hw
       have:=h a0 ih.1 (by omega)
       omega
theorem layN_inv (ks:Nat→Int) (n:Nat):∀ (j:Nat) (E D:Nat→Nat),j≤n→layN ks n j=some (E,D)→LayInv n j E D
 | 0,E,D,_,h=>by
   simp only [layN,Option.some.injEq,Prod.mk.injEq] at h
   obtain ⟨rfl,rfl⟩:=h
   exact ⟨fun _=>Nat.zero_le _,fun _=>Nat.zero_le _,fun x h1 h2=>by omega⟩
 | j+1,E,D,hj,h=>by
   simp only [layN] at h
   cases hl:layN ks n j with
   | none=>rw [hl] at h;cases h
   | some y =>
     obtain ⟨E0,D0⟩:=y
     rw [hl] at h
     obtain ⟨h1,h2,h3⟩:=layN_inv ks n j E0 D0 (by omega) hl
     simp only at h
     split at h
     · cases h
     · cases hw:walk E0 D0 n (ks (n - 1 - j)).toNat (n - 1 - j+1,0) with
       | none=>rw [hw] at h;cases h
       | some z =>
         obtain ⟨a,m⟩:=z
         rw [hw] at h
         simp only [Option.some.injEq,Prod.mk.injEq] at h
         obtain ⟨rfl,rfl⟩:=h
         have hg:=walk_good (i:=n - 1 - j) (fun x hx1 hx2=>⟨(h3 x (by omega) hx2).1,h1 x,(h3 x (by omega) hx2).2⟩) (by omega) _ a m hw
         refine ⟨fun x => ?_,fun x => ?_,fun x hx1 hx2 => ?_⟩
         · unfold upd;split
           · omega
           · exact h1 x
         · unfold upd;split
           · omega
           · exact h2 x
         · unfold upd
           by_cases e:x=n - 1 - j
           · rw [if_pos e,if_pos e];omega
           · rw [if_neg e,if_neg e]
             exact h3 x (by omega) hx2
theorem layN_succ {ks:Nat→Int} {n j:Nat} {E D E' D':Nat→Nat} (h0:layN ks n j=some (E,D)) (h:layN ks n (j+1)=some (E',D')) :
 0≤ks (n - 1 - j)∧∃ a m,walk E D n (ks (n - 1 - j)).toNat (n - 1 - j+1,0)=some (a,m)∧E'=upd E (n - 1 - j) a∧D'=upd D (n - 1 - j) (m+1):=by
 simp only [layN,h0] at h
 split at h
 · cases h
 · rename_i hk
   cases hw:walk E D n (ks (n - 1 - j)).toNat (n - 1 - j+1,0) with
   | none=>rw [hw] at h;cases h
   | some z =>
     obtain ⟨a,m⟩:=z
     rw [hw] at h
     simp only [Option.some.injEq,Prod.mk.injEq] at h
     exact ⟨by omega,a,m,rfl,h.1.symm,h.2.symm⟩
theorem layN_prev {ks:Nat→Int} {n:Nat}:∀ (J j:Nat) (x:(Nat→Nat) × (Nat→Nat)),layN ks n J=some x→j≤J→∃ E D,layN ks n j=some (E,D)
 | 0,j,x,h,hj=>by
   obtain rfl:j=0:=by omega
   exact ⟨x.1,x.2,h⟩
 | J+1,j,x,h,hj=>by
   by_cases e:j=J+1
   · subst e;exact ⟨x.1,x.2,h⟩
   · cases hl:layN ks n J with
     | none=>simp only [layN,hl] at h;cases h
     | some y=>exact layN_prev J j y hl (by omega)
theorem layN_none {ks:Nat→Int} {n:Nat}:∀ J,layN ks n J=none→∃ j E D,j < J∧layN ks n j=some (E,D)∧layN ks n (j+1)=none
 | 0,h=>by simp [layN] at h
 | J+1,h=>by
   cases hl:layN ks n J with
   | none =>
     obtain ⟨j,E,D,h1,h2⟩:=layN_none J hl
     exact ⟨j,E,D,by omega,h2⟩
   | some y=>exact ⟨J,y.1,y.2,by omega,hl,h⟩
theorem layN_stop {ks:Nat→Int} {n j:Nat} {E D:Nat→Nat} (h0:layN ks n j=some (E,D)) (h:layN ks n (j+1)=none) :
  ks (n - 1 - j) < 0 ∨ 0≤ks (n - 1 - j)∧walk E D n (ks (n - 1 - j)).toNat (n - 1 - j+1,0)=none:=by
 by_cases hk:ks (n - 1 - j) < 0
 ·
  exact .inl hk
 ·
  refine .inr ⟨by omega,?_⟩
  simp only [layN,h0] at h
  rw [if_neg hk] at h
  cases hw:walk E D n (ks (n - 1 - j)).toNat (n - 1 - j+1,0) with
  | none=>rfl
  | some z=>rw [hw] at h;cases h
theorem info3:(Tryz.prog.info? 3).map (fun i=>(i.zero,i.size,i.bytes))=some (some (.int .i64 0),1,8):=by kernel_rfl
theorem made_zero (n:Nat):madeCells (Value.int .i64 0).cells (n * 1)=iv n fun _=>0:=by
 have hc:(Value.int .i64 0).cells=#[.int .i64 0]:=rfl
 rw [hc,Nat.mul_one]
 unfold madeCells iv
 apply Array.ext_getElem?
 intro j
 by_cases hj:j < n
 ·
  simp [hj,Nat.mod_one]
 ·
  rw [Array.getElem?_eq_none (by simp;omega),Array.getElem?_eq_none (by simp;omega)]
theorem mk_ints (n:Nat) (hn:n≤1000000) (w:World):(Instr.makeSlice 196 (.int .i64 n) (.int .i64 n)).run Tryz.prog w=.ok (.slice (some ⟨w.heap.size,0,none⟩) n n) (w.alloc (.cells (iv n fun _=>0) 3)):=by
 obtain ⟨i0,hi0,hz0,hz1,hz2⟩:=info_parts info3
 have:=run_makeSlice (P:=Tryz.prog) (w:=w) 196 3 i0 (.int .i64 0) Tryz.underlying196 hi0 hz0 .i64 .i64 n n (by omega) (by omega) (by rw [hz1];simp;omega) (by rw [hz2];omega) (by omega)
 rw [hz1] at this
 simp only [Int.toNat_natCast] at this
 rw [made_zero] at this
 exact this
def layV (a:Option Addr) (n nc gE gD:Nat):Array Value:=#[.slice a n nc,.slice (some ⟨gE,0,none⟩) n n,.slice (some ⟨gD,0,none⟩) n n]
def MkI (w0:World) (n nc:Nat) (na:Option Addr) (a0:Act) (l:Array Bool) (a:Act) (w:World):Prop :=
 ∃ m3 m5 b6 a7 s8:Bool,l=#[true,true,true,m3,true,m5,b6,a7,s8]∧∃ (v1 v2 v3 v4:Value) (gE gD g4:Nat),a=put4 a0 12 14 15 4 v1 v2 v3 v4 ∧
   (m3=true→v1=.slice (some ⟨gE,0,none⟩) n n∧w0.heap.size≤gE∧Lies w gE (iv n fun _=>0) 3) ∧
   (m5=true→v2=.slice (some ⟨gD,0,none⟩) n n∧w0.heap.size≤gD∧Lies w gD (iv n fun _=>0) 3) ∧
   (m3=true→m5=true→gE≠gD)∧(b6=true→m3=true∧m5=true∧v3=.agg (layV na n nc gE gD)) ∧
   (a7=true→v4=.pointer (some ⟨g4,0,none⟩)∧w0.heap.size≤g4∧Lies w g4 (if s8 then layV na n nc gE gD else #[.slice none 0 0,.slice none 0 0,.slice none 0 0]) 279) ∧
   (s8=true→b6=true∧a7=true)∧Below w0.heap.size w0 w
def mkRow (r:List Nat) (m3 m5 b6 a7 s8:Bool):Bool :=
 r.all (fun i=>(i == 3 && !m3) || (i == 5 && !m5) || (i == 6 && !b6 && m3 && m5) || (i == 7 && !a7) || (i == 8 && !s8 && b6 && a7)) && (!r.isEmpty || (m3 && m5 && b6 && a7 && s8))
def mkReadyB (ops:Array Oper):Bool :=
 [false,true].all fun m3=>[false,true].all fun m5=>[false,true].all fun b6=>[false,true].all fun a7=>[false,true].all fun s8=>mkRow (Region.ready .any ops #[true,true,true,m3,true,m5,b6,a7,s8]) m3 m5 b6 a7 s8
theorem mk_ready {ops:Array Oper} (h:mkReadyB ops=true) (m3 m5 b6 a7 s8:Bool) :
  (∀ i ∈ Region.ready .any ops #[true,true,true,m3,true,m5,b6,a7,s8],i=3∧m3=false ∨ i=5∧m5=false ∨ i=6∧b6=false∧m3=true∧m5=true ∨ i=7∧a7=false ∨ i=8∧s8=false∧b6=true∧a7=true) ∧
  (Region.ready .any ops #[true,true,true,m3,true,m5,b6,a7,s8]=[]→m3=true∧m5=true∧b6=true∧a7=true∧s8=true):=by
 have h2:=all_two (all_two (all_two (all_two (all_two h m3) m5) b6) a7) s8
 generalize Region.ready .any ops #[true,true,true,m3,true,m5,b6,a7,s8]=r at h2 ⊢
 unfold mkRow at h2
 rw [Bool.and_eq_true,List.all_eq_true] at h2
 refine ⟨fun i hi => ?_,fun e => ?_⟩
 ·
  have:=h2.1 i hi
  simp only [Bool.or_eq_true,Bool.and_eq_true,beq_iff_eq,Bool.not_eq_true'] at this
  rcases this with (((h | h) | h) | h) | h
  ·
   exact .inl h
  ·
   exact .inr (.inl h)
  ·
   exact .inr (.inr (.inl ⟨h.1.1.1,h.1.1.2,h.1.2,h.2⟩))
  ·
   exact .inr (.inr (.inr (.inl h)))
  ·
   exact .inr (.inr (.inr (.inr ⟨h.1.1.1,h.1.1.2,h.1.2,h.2⟩)))
 ·
  have:=h2.2
  subst e
  simp only [List.isEmpty_nil,Bool.not_true,Bool.false_or,Bool.and_eq_true] at this
  exact ⟨this.1.1.1.1,this.1.1.1.2,this.1.1.2,this.1.2,this.2⟩
theorem alloc59 (w:World):(Instr.alloc 279 true (.tuple #[])).run Tryz.prog w=.ok (.pointer (some ⟨w.heap.size,0,none⟩)) (w.alloc (.cells #[.slice none 0 0,.slice none 0 0,.slice none 0 0] 279)):=by kernel_rfl
theorem wp_alloc59 {Q:Exit→Act→World→Prop} {o:Oper} {a:Act} {w:World} {K:Act→World→Prop} (ho:o.op=.alloc 279) (h:K (a.put o.dst (.pointer (some ⟨w.heap.size,0,none⟩))) (w.alloc (.cells #[.slice none 0 0,.slice none 0 0,.slice none 0 0] 279))):o.wp Tryz.prog a w K Q:=by
 unfold Oper.wp execOp
 simp only [ho,Sem.run_bind,alloc59,Result.andThen_ok,Sem.run_pure]
 exact h
theorem Lies.setRow {w:World} {g:Nat} {cs:Array Value} {t:TypeId} (h:Lies w g cs t) (cs':Array Value):Lies (w.setRow g cs') g cs' t:=setRow_heap w g cs cs' t _ h
theorem Lies.setRowOther {w:World} {g:Nat} {cs:Array Value} {t:TypeId} (h:Lies w g cs t) (k:Nat) (cs':Array Value) (hne:g≠k):Lies (w.setRow k cs') g cs t:=(setRow_other w k g cs' hne).trans h
theorem below_setRow {B:Nat} {a w:World} (h:Below B a w) (g:Nat) (cs:Array Value) (hg:B≤g):Below B a (w.setRow g cs) :=
 h.trans ⟨rfl,rfl,rfl,by simp,fun k hk=>setRow_other w g k cs (by omega)⟩
theorem Lies.apart {w:World} {g k:Nat} {cs ds:Array Value} {t u:TypeId} (h:Lies w g cs t) (h':Lies w k ds u) (hne:t≠u):g≠k:=fun e=>by
 subst e
 unfold Lies at h h'
 rw [h] at h'
 simp at h'
 exact hne h'.2
theorem info59:(Tryz.prog.info? 279).map (·.size)=some 3:=by kernel_rfl
theorem mk_any {ops:Array Oper} {Q:Exit→Act→World→Prop} (w0:World) (n nc:Nat) (na:Option Addr) (hn:n≤1000000) (a0:Act) (z1:(12:Nat) < a0.tmps.size) (z2:(14:Nat) < a0.tmps.size) (z3:(15:Nat) < a0.tmps.size) (z4:(4:Nat) < a0.tmps.size)
 (o3 o5 o6 o7 o8:Oper)
 (i3:ops[3]? = some o3) (gd3:o3.guard=none) (d3:o3.dst=some 12) (r3:∀ v1 v2 v3 v4 w,(execOp (put4 a0 12 14 15 4 v1 v2 v3 v4).eval o3).run Tryz.prog w=.ok (.value (.slice (some ⟨w.heap.size,0,none⟩) n n)) (w.alloc (.cells (iv n fun _=>0) 3)))
 (i5:ops[5]? = some o5) (gd5:o5.guard=none) (d5:o5.dst=some 14) (r5:∀ v1 v2 v3 v4 w,(execOp (put4 a0 12 14 15 4 v1 v2 v3 v4).eval o5).run Tryz.prog w=.ok (.value (.slice (some ⟨w.heap.size,0,none⟩) n n)) (w.alloc (.cells (iv n fun _=>0) 3)))
 (i6:ops[6]? = some o6) (gd6:o6.guard=none) (d6:o6.dst=some 15) (r6:∀ gE gD v3 v4 w,(execOp (put4 a0 12 14 15 4 (.slice (some ⟨gE,0,none⟩) n n) (.slice (some ⟨gD,0,none⟩) n n) v3 v4).eval o6).run Tryz.prog w=.ok (.value (.agg (layV na n nc gE gD))) w)
 (i7:ops[7]? = some o7) (gd7:o7.guard=none) (d7:o7.dst=some 4) (op7:o7.op=.alloc 279)
 (i8:ops[8]? = some o8) (gd8:o8.guard=none) (d8:o8.dst=none) (op8:o8.op=.store 279 (.tmp 4) (.tmp 15))
 (hr:mkReadyB ops=true)
 (hQ:∀ v1 v2 v3 gE gD g4 w',w0.heap.size≤gE→w0.heap.size≤gD→w0.heap.size≤g4→gE≠gD→Lies w' gE (iv n fun _=>0) 3→Lies w' gD (iv n fun _=>0) 3→Lies w' g4 (layV na n nc gE gD) 279→Below w0.heap.size w0 w' →
   Q .normal (put4 a0 12 14 15 4 v1 v2 v3 (.pointer (some ⟨g4,0,none⟩))) w')
 (w:World) (hb:Below w0.heap.size w0 w):wpAnyH Tryz.prog .any ops Q (Below w0.heap.size w0) 5 #[true,true,true,false,true,false,false,false,false] a0 w:=by
 have _:=hn
 refine wpAnyH_inv (MkI w0 n nc na a0) ?_ ?_ 5 _ _ _ (by decide) ?_
 · rintro l a w1 ⟨m3,m5,b6,a7,s8,rfl,v1,v2,v3,v4,gE,gD,g4,rfl,k1,k2,k3,k4,k5,k6,k7⟩ hnil
   obtain ⟨rfl,rfl,rfl,rfl,rfl⟩:=(mk_ready hr m3 m5 b6 a7 s8).2 hnil
   obtain ⟨rfl,b1,y1⟩:=k1 rfl
   obtain ⟨rfl,b2,y2⟩:=k2 rfl
   obtain ⟨rfl,b4,y4⟩:=k5 rfl
   exact hQ _ _ _ gE gD g4 w1 b1 b2 b4 (k3 rfl rfl) y1 y2 y4 k7
 · rintro l a w1 i ⟨m3,m5,b6,a7,s8,rfl,v1,v2,v3,v4,gE,gD,g4,rfl,k1,k2,k3,k4,k5,k6,k7⟩ hi
   have hsz:=k7.size
   rcases (mk_ready hr m3 m5 b6 a7 s8).1 i hi with ⟨rfl,e⟩ | ⟨rfl,e⟩ | ⟨rfl,e,e1,e2⟩ | ⟨rfl,e⟩ | ⟨rfl,e,e1,e2⟩
   · have hb6:b6=false:=by
      cases b6
      · rfl
      · have:=(k4 rfl).1;rw [e] at this;cases this
     have hs8:s8=false:=by
      cases s8
      · rfl
      · have:=(k6 rfl).1;rw [hb6] at this;cases this
     subst e hb6 hs8
     have hb2:=k7.alloc hsz (.cells (iv n fun _=>0) 3)
     refine wpOp_valueTo i3 gd3 12 d3 (r3 _ _ _ _ _) ⟨hb2,?_⟩
     rw [put4_1 _ _ _ _ _ _ _ _ _ _ (by decide) (by decide) (by decide)]
     refine ⟨true,m5,false,a7,false,rfl,_,v2,v3,v4,w1.heap.size,gD,g4,rfl,fun _=>⟨rfl,hsz,Lies.new _ _ _⟩,fun h=>⟨(k2 h).1,(k2 h).2.1,(k2 h).2.2.alloc _⟩,fun _ h=>by have:=(k2 h).2.2.lt;omega,fun h=>(by cases h),fun h=>⟨(k5 h).1,(k5 h).2.1,(k5 h).2.2.alloc _⟩,fun h=>(by cases h),hb2⟩
   · have hb6:b6=false:=by
      cases b6
      · rfl
      · have:=(k4 rfl).2.1;rw [e] at this;cases this
     have hs8:s8=false:=by
      cases s8
      · rfl
      · have:=(k6 rfl).1;rw [hb6] at this;cases this
     subst e hb6 hs8
     have hb2:=k7.alloc hsz (.cells (iv n fun _=>0) 3)
     refine wpOp_valueTo i5 gd5 14 d5 (r5 _ _ _ _ _) ⟨hb2,?_⟩
     rw [put4_2 _ _ _ _ _ _ _ _ _ _ (by decide) (by decide)]
     refine ⟨m3,true,false,a7,false,rfl,v1,_,v3,v4,gE,w1.heap.size,g4,rfl,fun h=>⟨(k1 h).1,(k1 h).2.1,(k1 h).2.2.alloc _⟩,fun _=>⟨rfl,hsz,Lies.new _ _ _⟩,fun h _=>by have:=(k1 h).2.2.lt;omega,fun h=>(by cases h),fun h=>⟨(k5 h).1,(k5 h).2.1,(k5 h).2.2.alloc _⟩,fun h=>(by cases h),hb2⟩
   · obtain ⟨rfl,b1,y1⟩:=k1 e1
     obtain ⟨rfl,b2,y2⟩:=k2 e2
     have hs8:s8=false:=by
      cases s8
      · rfl
      · have:=(k6 rfl).1;rw [e] at this;cases this
     subst e e1 e2 hs8
     refine wpOp_valueTo i6 gd6 15 d6 (r6 _ _ _ _ _) ⟨k7,?_⟩
     rw [put4_3 _ _ _ _ _ _ _ _ _ _ (by decide)]
     exact ⟨true,true,true,a7,false,rfl,_,_,_,v4,gE,gD,g4,rfl,fun _=>⟨rfl,b1,y1⟩,fun _=>⟨rfl,b2,y2⟩,k3,fun _=>⟨rfl,rfl,rfl⟩,k5,fun h=>(by cases h),k7⟩
   · have hs8:s8=false:=by
      cases s8
      · rfl
      · have:=(k6 rfl).2;rw [e] at this;cases this
     subst e hs8
     have hb2:=k7.alloc hsz (.cells #[.slice none 0 0,.slice none 0 0,.slice none 0 0] 279)
     refine wpOp_wp i7 gd7 (wp_alloc59 op7 ⟨hb2,?_⟩)
     rw [d7,put4_4]
     exact ⟨m3,m5,b6,true,false,rfl,v1,v2,v3,_,gE,gD,w1.heap.size,rfl,fun h=>⟨(k1 h).1,(k1 h).2.1,(k1 h).2.2.alloc _⟩,fun h=>⟨(k2 h).1,(k2 h).2.1,(k2 h).2.2.alloc _⟩,k3,k4,fun _=>⟨rfl,hsz,Lies.new _ _ _⟩,fun h=>(by cases h),hb2⟩
   · obtain ⟨rfl,b4,y4⟩:=k5 e2
     obtain ⟨hm3,hm5,rfl⟩:=k4 e1
     obtain ⟨rfl,b1,y1⟩:=k1 hm3
     obtain ⟨rfl,b2,y2⟩:=k2 hm5
     subst e e1 e2 hm3 hm5
     refine wpOp_wp i8 gd8 (wp_store_row 279 (.tmp 4) (.tmp 15) op8 g4 (layV na n nc gE gD) (eval4_4 _ _ _ _ _ _ _ _ _ z4) (eval4_3 _ _ _ _ _ _ _ _ _ (by decide) z3) 279 _ y4 info59 rfl (by simp [layV,Value.oneCell']) ?_)
     rw [d8]
     have hb2:=below_setRow k7 g4 (layV na n nc gE gD) b4
     exact ⟨hb2,true,true,true,true,true,rfl,_,_,_,_,gE,gD,g4,rfl,fun _=>⟨rfl,b1,y1.setRowOther _ _ (y1.apart y4 (by decide))⟩,fun _=>⟨rfl,b2,y2.setRowOther _ _ (y2.apart y4 (by decide))⟩,k3,fun _=>⟨rfl,rfl,rfl⟩,fun _=>⟨rfl,b4,y4.setRow _⟩,fun _=>⟨rfl,rfl⟩,hb2⟩
 · obtain ⟨v1,v2,v3,v4,e⟩:=put4_self a0 12 14 15 4 (by decide) (by decide) (by decide) (by decide) (by decide) (by decide)
   have _:=And.intro z1 z2
   exact ⟨false,false,false,false,false,rfl,v1,v2,v3,v4,0,0,0,e,fun h=>(by cases h),fun h=>(by cases h),fun h=>(by cases h),fun h=>(by cases h),fun h=>(by cases h),fun h=>(by cases h),hb⟩
end Go.Proofs.YtilbbemdinpjcaaGreat.T
namespace Go.Proofs.YtilbbemdinpjcaaGreat.T
open Go.RowKit
def KsAt (w:World) (a:Option Addr) (n:Nat) (ks:Nat→Int):Prop :=
 ∀ i,i < n→∃ g off,a=some ⟨g,off,none⟩∧g < w.heap.size∧w.cell? ⟨g,off+i * 5+4,none⟩=some (.int .i64 (ks i))∧ks i≤9223372036854775807
theorem KsAt.below {B:Nat} {w w':World} {a:Option Addr} {n:Nat} {ks:Nat→Int} (h:KsAt w a n ks) (hb:Below B w w') (hB:w.heap.size≤B):KsAt w' a n ks:=fun i hi=>by
 obtain ⟨g,off,h1,h2,h3,h4⟩:=h i hi
 exact ⟨g,off,h1,Nat.lt_of_lt_of_le h2 hb.size,(hb.cell (p:=⟨g,off+i * 5+4,none⟩) (Nat.lt_of_lt_of_le h2 hB)).trans h3,h4⟩
def Laid (ks:Nat→Int) (n:Nat) (E D:Nat→Nat):Prop:=0 < n∧layN ks n n=some (E,D)∧E 0=n
set_option maxRecDepth 100000 in
theorem laid_ok (a:Option Addr) (n nc:Nat) (ks:Nat→Int) (E D:Nat→Nat) (w:World) (hn:n≤1000000) (hk:KsAt w a n ks) (hl:Laid ks n E D) :
  Calls Tryz.prog 243 #[.agg #[.slice a n nc]] w fun e w'=>∃ gE gD,e=.returned (.agg (layV a n nc gE gD))∧w.heap.size≤gE∧w.heap.size≤gD∧Lies w' gE (iv n E) 3∧Lies w' gD (iv n D) 3∧Below w.heap.size w w':=by
 have H:=Lib.hid (And.intro hn (And.intro hk hl))
 have n1:(n:Int)≤1000000:=by omega
 have n0:(0:Int)≤(n:Int):=by omega
 clear hn hk hl
 go_enter Tryz.func243,Tryz.ntmps243
 go_upto_region 1 with fail
 have hA:Lies ((w.alloc (.cells #[.slice a n nc] 24)).alloc (.cells #[.slice none 0 0,.slice none 0 0,.slice none 0 0] 279)) w.heap.size #[.slice a n nc] 24:=(Lies.new _ _ _).alloc _
 have hB:Lies ((w.alloc (.cells #[.slice a n nc] 24)).alloc (.cells #[.slice none 0 0,.slice none 0 0,.slice none 0 0] 279)) (w.heap.size+1) #[.slice none 0 0,.slice none 0 0,.slice none 0 0] 279:=by
  have:=Lies.new (w.alloc (.cells #[.slice a n nc] 24)) #[.slice none 0 0,.slice none 0 0,.slice none 0 0] 279
  simpa using this
 have hb0:Below w.heap.size w ((w.alloc (.cells #[.slice a n nc] 24)).alloc (.cells #[.slice none 0 0,.slice none 0 0,.slice none 0 0] 279)):=((Below.refl _ _).alloc (Nat.le_refl _) _).alloc (by simp) _
 have c0:=hA.cell 0 (v:=.slice a n nc) rfl
 have H0:=Lib.hid (And.intro hA (And.intro hB hb0))
 clear hA hB hb0
 generalize (w.alloc (.cells #[.slice a n nc] 24)).alloc (.cells #[.slice none 0 0,.slice none 0 0,.slice none 0 0] 279)=W0 at H0 c0 ⊢
 go_upto_region 2 with fail
 clear c0
 refine wp_region_held (S:=Below W0.heap.size W0) (by kernel_rfl) ?_
 change wpAnyH _ _ _ _ _ 9 _ _ (World.drew W0)
 have hcur:Below W0.heap.size W0 W0.drew:=(Below.refl _ _).drew
 refine held_take (i:=0) (v:=.pointer (some ⟨w.heap.size,0,none⟩)) rfl 9 rfl (by kernel_rfl) (by kernel_rfl) (by kernel_rfl) (fun _ _ _ h=>h) (by rfl) (by intro w' hS';unfold execOp;simp [go_sem]) hcur _ rfl ?_
 simp only [Act.put,List.setIfInBounds_toArray,List.set_cons_zero,List.set_cons_succ]
 refine held_take (i:=1) (v:=.slice a n nc) rfl 10 rfl (by kernel_rfl) (by kernel_rfl) (by kernel_rfl) (fun _ _ _ h=>h) (by rfl) (by intro w' hS';have h1:=(H0.out.1.below hS' H0.out.1.lt).cell 0 (v:=.slice a n nc) rfl;unfold execOp;simp [go_sem,h1]) hcur _ rfl ?_
 simp only [Act.put,List.setIfInBounds_toArray,List.set_cons_zero,List.set_cons_succ]
 refine held_take (i:=2) (v:=.int .i64 n) rfl 11 rfl (by kernel_rfl) (by kernel_rfl) (by kernel_rfl) (fun _ _ _ h=>h) (by rfl) (by intro w' hS';unfold execOp;simp [go_sem]) hcur _ rfl ?_
 simp only [Act.put,List.setIfInBounds_toArray,List.set_cons_zero,List.set_cons_succ]
 refine held_take (i:=4) (v:=.int .i64 n) rfl 13 rfl (by kernel_rfl) (by kernel_rfl) (by kernel_rfl) (fun _ _ _ h=>h) (by rfl) (by intro w' hS';unfold execOp;simp [go_sem]) hcur _ rfl ?_
 simp only [Act.put,List.setIfInBounds_toArray,List.set_cons_zero,List.set_cons_succ]
 have hmk:=fun V=>mk_ints n H.out.1 V
 refine mk_any W0 n nc a H.out.1 _ (by show (12:Nat) < 37;decide) (by show (14:Nat) < 37;decide) (by show (15:Nat) < 37;decide) (by show (4:Nat) < 37;decide) _ _ _ _ _
  rfl rfl rfl (fun _ _ _ _ V=>by unfold execOp;simp [put4,Act.put,Act.eval,go_sem,hmk]) rfl rfl rfl (fun _ _ _ _ V=>by unfold execOp;simp [put4,Act.put,Act.eval,go_sem,hmk]) rfl rfl rfl (fun _ _ _ _ V=>by kernel_rfl) rfl rfl rfl rfl rfl rfl rfl rfl (by kernel_rfl) ?hQ _ hcur
 intro v1 v2 v3 gE gD g4 W2 b1 b2 b4 hne y1 y2 y4 hb2
 simp only [put4,Act.put,List.setIfInBounds_toArray,List.set_cons_zero,List.set_cons_succ]
 go_wp2_with fail
 have HW:=Lib.hid (And.intro b1 (And.intro b2 (And.intro b4 (And.intro hne (And.intro y4 hb2)))))
 have hkw:∀ V,Below W0.heap.size W0 V→KsAt V a n ks:=fun V hV=>(H.out.2.1.below H0.out.2.2 (Nat.le_refl _)).below hV (Nat.le_refl _)
 have HK:=Lib.hid hkw
 have HY:=Lib.hid (And.intro y1 y2)
 have HSZ:=Lib.hid (And.intro y1 y2)
 clear b1 b2 b4 hne y1 y2 y4 hb2 hcur hmk hkw
 go_loopw [5] (fun i W=>∃ j:Nat,j≤n∧i=.int .i64 ((n:Int) - 1 - j)∧∃ E1 D1,layN ks n j=some (E1,D1)∧Lies W gE (iv n E1) 3∧Lies W gD (iv n D1) 3∧Lies W g4 (layV a n nc gE gD) 279∧Below W0.heap.size W0 W) (fun i _=>(intOf i+1).toNat)
 case atStart=>exact ⟨0,by omega,by simp,_,_,rfl,HY.out.1,HY.out.2,HW.out.2.2.2.2.1,HW.out.2.2.2.2.2⟩
 case round =>
  clear HY
  obtain ⟨j,hj,rfl,E1,D1,hlay,z1,z2,z4,hbr⟩:=hrel
  by_cases hlt:j < n
  ·
   obtain ⟨i,hi⟩:∃ i,i=n - 1 - j:=⟨_,rfl⟩
   have ei:(n:Int) - 1 - (j:Int)=(i:Int):=by omega
   rw [ei]
   obtain ⟨E2,D2,hl2⟩:=layN_prev n (j+1) _ H.out.2.2.2.1 (by omega)
   obtain ⟨hk0,at',m',hwk,rfl,rfl⟩:=layN_succ hlay hl2
   rw [← hi] at hk0 hwk hl2
   obtain ⟨g,off,rfl,hg,hc,hk63⟩:=HK.out _ hbr i (by omega)
   have hinv:=layN_inv ks n j E1 D1 hj hlay
   have hset:=set_ok n g off nc gE n gD n i at' m' (ks i) E1 D1 wr (by omega) hc hg z1 z2 HW.out.2.2.2.1 H.out.1 hinv.1 hinv.2.1 hk0 hk63 hwk
   have c0:=z4.cell 0 (v:=.slice (some ⟨g,off,none⟩) n nc) rfl
   have c1:=z4.cell 1 (v:=.slice (some ⟨gE,0,none⟩) n n) rfl
   have c2:=z4.cell 2 (v:=.slice (some ⟨gD,0,none⟩) n n) rfl
   have HS:=Lib.hid (And.intro hset (And.intro hl2 (And.intro z4 (And.intro hbr (And.intro hi (And.intro hlt hj))))))
   have i0:(0:Int)≤(i:Int):=by omega
   clear hset hl2 z1 z2 z4 hbr hi hlt hj hk0 hwk hg hc hk63 hinv hlay ei
   go_wp2_with fail
   refine HS.out.1.mono ?_
   rintro e w5 ⟨rfl,y1,y2,hbel,hoth⟩
   have hb5:=hbel W0.heap.size HW.out.1 HW.out.2.1
   have h4:Lies w5 g4 (layV (some ⟨g,off,none⟩) n nc gE gD) 279:=(hoth g4 HS.out.2.2.1.lt (HW.out.2.2.2.2.1.apart HSZ.out.1 (by decide)) (HW.out.2.2.2.2.1.apart HSZ.out.2 (by decide))).trans HS.out.2.2.1
   have HF:=Lib.hid (And.intro y1 (And.intro y2 (And.intro h4 (HS.out.2.2.2.1.trans hb5))))
   clear y1 y2 hbel hoth hb5 h4 c0 c1 c2
   go_wp2_with fail
   have h1:=HS.out.2.2.2.2
   refine ⟨⟨j+1,by omega,congrArg (Value.int .i64) (by unfold wrap64;omega),_,_,HS.out.2.1,HF.out.1,HF.out.2.1,HF.out.2.2.1,HF.out.2.2.2⟩,?_⟩
   have e1:wrap64 ((i:Int) - 1)=(i:Int) - 1:=by unfold wrap64;omega
   rw [e1]
   simp [intOf]
   try omega
  ·
   obtain rfl:j=n:=by omega
   rw [H.out.2.2.2.1] at hlay
   cases hlay
   rw [show (j:Int) - 1 - (j:Int)=-1 by omega]
   have c0:=z4.cell 0 (v:=.slice a j nc) rfl
   have c1:=z4.cell 1 (v:=.slice (some ⟨gE,0,none⟩) j j) rfl
   have c2:=z4.cell 2 (v:=.slice (some ⟨gD,0,none⟩) j j) rfl
   have ce:=z1.cell 0 (iv_get j E 0 H.out.2.2.1)
   rw [H.out.2.2.2.2] at ce
   have p0:((j:Int) == 0)=false:=by rw [beq_eq_false_iff_ne];have:=H.out.2.2.1;omega
   have p1:(0:Int) < (j:Int):=by have:=H.out.2.2.1;omega
   have p2:((j:Int) != (j:Int))=false:=by simp
   have p3:¬ j=0:=by omega
   have hr:=H0.out.2.1.below hbr H0.out.2.1.lt
   have HX:=Lib.hid (And.intro z1 (And.intro z2 (And.intro hr hbr)))
   clear z1 z2 z4 hr hbr hj hlt
   go_wp2_with (refine wpList_store_row rfl 279 _ _ rfl (w.heap.size+1) (layV a j nc gE gD) rfl rfl 279 #[.slice none 0 0,.slice none 0 0,.slice none 0 0] HX.out.2.2.1 info59 rfl (by simp [layV,Value.oneCell']) ?_)
   refine bodyPost_ret (v:=.agg (layV a j nc gE gD)) (results_cell_row (p:=2) (ty:=279) (by kernel_rfl) _ _ (w.heap.size+1) 279 (layV a j nc gE gD) (0,0) _ rfl (HX.out.2.2.1.setRow _) Tryz.underlying279 rfl info59) rfl ⟨gE,gD,rfl,Nat.le_trans H0.out.2.2.size HW.out.1,Nat.le_trans H0.out.2.2.size HW.out.2.1,HX.out.1.setRowOther _ _ ?_,HX.out.2.1.setRowOther _ _ ?_,below_setRow (H0.out.2.2.trans (HX.out.2.2.2.mono H0.out.2.2.size)) _ _ (by omega)⟩
   ·
    exact HX.out.1.apart HX.out.2.2.1 (by decide)
   ·
    exact HX.out.2.1.apart HX.out.2.2.1 (by decide)
set_option maxRecDepth 100000 in
theorem laid_bad (a:Option Addr) (n nc:Nat) (ks:Nat→Int) (w:World) (hn:n≤1000000) (hk:KsAt w a n ks) (hl:layN ks n n=none ∨ ∃ E D,layN ks n n=some (E,D)∧(n=0 ∨ E 0≠n)) :
  Calls Tryz.prog 243 #[.agg #[.slice a n nc]] w fun e w'=>ThrownT e∧Below w.heap.size w w':=by
 have H:=Lib.hid (And.intro hn (And.intro hk hl))
 have n1:(n:Int)≤1000000:=by omega
 have n0:(0:Int)≤(n:Int):=by omega
 clear hn hk hl
 go_enter Tryz.func243,Tryz.ntmps243
 go_upto_region 1 with fail
 have hA:Lies ((w.alloc (.cells #[.slice a n nc] 24)).alloc (.cells #[.slice none 0 0,.slice none 0 0,.slice none 0 0] 279)) w.heap.size #[.slice a n nc] 24:=(Lies.new _ _ _).alloc _
 have hB:Lies ((w.alloc (.cells #[.slice a n nc] 24)).alloc (.cells #[.slice none 0 0,.slice none 0 0,.slice none 0 0] 279)) (w.heap.size+1) #[.slice none 0 0,.slice none 0 0,.slice none 0 0] 279:=by
  have:=Lies.new (w.alloc (.cells #[.slice a n nc] 24)) #[.slice none 0 0,.slice none 0 0,.slice none 0 0] 279
  simpa using this
 have hb0:Below w.heap.size w ((w.alloc (.cells #[.slice a n nc] 24)).alloc (.cells #[.slice none 0 0,.slice none 0 0,.slice none 0 0] 279)):=((Below.refl _ _).alloc (Nat.le_refl _) _).alloc (by simp) _
 have c0:=hA.cell 0 (v:=.slice a n nc) rfl
 have H0:=Lib.hid (And.intro hA (And.intro hB hb0))
 clear hA hB hb0
 generalize (w.alloc (.cells #[.slice a n nc] 24)).alloc (.cells #[.slice none 0 0,.slice none 0 0,.slice none 0 0] 279)=W0 at H0 c0 ⊢
 go_upto_region 2 with fail
 clear c0
 refine wp_region_held (S:=Below W0.heap.size W0) (by kernel_rfl) ?_
 change wpAnyH _ _ _ _ _ 9 _ _ (World.drew W0)
 have hcur:Below W0.heap.size W0 W0.drew:=(Below.refl _ _).drew
 refine held_take (i:=0) (v:=.pointer (some ⟨w.heap.size,0,none⟩)) rfl 9 rfl (by kernel_rfl) (by kernel_rfl) (by kernel_rfl) (fun _ _ _ h=>h) (by rfl) (by intro w' hS';unfold execOp;simp [go_sem]) hcur _ rfl ?_
 simp only [Act.put,List.setIfInBounds_toArray,List.set_cons_zero,List.set_cons_succ]
 refine held_take (i:=1) (v:=.slice a n nc) rfl 10 rfl (by kernel_rfl) (by kernel_rfl) (by kernel_rfl) (fun _ _ _ h=>h) (by rfl) (by intro w' hS';have h1:=(H0.out.1.below hS' H0.out.1.lt).cell 0 (v:=.slice a n nc) rfl;unfold execOp;simp [go_sem,h1]) hcur _ rfl ?_
 simp only [Act.put,List.setIfInBounds_toArray,List.set_cons_zero,List.set_cons_succ]
 refine held_take (i:=2) (v:=.int .i64 n) rfl 11 rfl (by kernel_rfl) (by kernel_rfl) (by kernel_rfl) (fun _ _ _ h=>h) (by rfl) (by intro w' hS';unfold execOp;simp [go_sem]) hcur _ rfl ?_
 simp only [Act.put,List.setIfInBounds_toArray,List.set_cons_zero,List.set_cons_succ]
 refine held_take (i:=4) (v:=.int .i64 n) rfl 13 rfl (by kernel_rfl) (by kernel_rfl) (by kernel_rfl) (fun _ _ _ h=>h) (by rfl) (by intro w' hS';unfold execOp;simp [go_sem]) hcur _ rfl ?_
 simp only [Act.put,List.setIfInBounds_toArray,List.set_cons_zero,List.set_cons_succ]
 have hmk:=fun V=>mk_ints n H.out.1 V
 refine mk_any W0 n nc a H.out.1 _ (by show (12:Nat) < 37;decide) (by show (14:Nat) < 37;decide) (by show (15:Nat) < 37;decide) (by show (4:Nat) < 37;decide) _ _ _ _ _
  rfl rfl rfl (fun _ _ _ _ V=>by unfold execOp;simp [put4,Act.put,Act.eval,go_sem,hmk]) rfl rfl rfl (fun _ _ _ _ V=>by unfold execOp;simp [put4,Act.put,Act.eval,go_sem,hmk]) rfl rfl rfl (fun _ _ _ _ V=>by kernel_rfl) rfl rfl rfl rfl rfl rfl rfl rfl (by kernel_rfl) ?hQ _ hcur
 intro v1 v2 v3 gE gD g4 W2 b1 b2 b4 hne y1 y2 y4 hb2
 simp only [put4,Act.put,List.setIfInBounds_toArray,List.set_cons_zero,List.set_cons_succ]
 go_wp2_with fail
 have HW:=Lib.hid (And.intro b1 (And.intro b2 (And.intro b4 (And.intro hne (And.intro y4 hb2)))))
 have hkw:∀ V,Below W0.heap.size W0 V→KsAt V a n ks:=fun V hV=>(H.out.2.1.below H0.out.2.2 (Nat.le_refl _)).below hV (Nat.le_refl _)
 have HK:=Lib.hid hkw
 have HY:=Lib.hid (And.intro y1 y2)
 have HSZ:=Lib.hid (And.intro y1 y2)
 clear b1 b2 b4 hne y1 y2 y4 hb2 hcur hmk hkw
 rcases H.out.2.2 with hnone | ⟨E,D,hall,hbadE⟩
 ·
  obtain ⟨r,Er,Dr,hr,hr1,hr2⟩:=layN_none n hnone
  have HR:=Lib.hid (And.intro hr (And.intro hr1 hr2))
  clear hnone hr hr1 hr2
  go_loopw [5] (fun i W=>∃ j:Nat,j≤r∧i=.int .i64 ((n:Int) - 1 - j)∧∃ E1 D1,layN ks n j=some (E1,D1)∧Lies W gE (iv n E1) 3∧Lies W gD (iv n D1) 3∧Lies W g4 (layV a n nc gE gD) 279∧Below W0.heap.size W0 W) (fun i _=>(intOf i+1).toNat)
  case atStart=>exact ⟨0,by omega,by simp,_,_,rfl,HY.out.1,HY.out.2,HW.out.2.2.2.2.1,HW.out.2.2.2.2.2⟩
  case round =>
   clear HY
   obtain ⟨j,hj,rfl,E1,D1,hlay,z1,z2,z4,hbr⟩:=hrel
   have hjn:j < n:=by have:=HR.out.1;omega
   by_cases hlt:j < r
   ·
    obtain ⟨i,hi⟩:∃ i,i=n - 1 - j:=⟨_,rfl⟩
    have ei:(n:Int) - 1 - (j:Int)=(i:Int):=by omega
    rw [ei]
    obtain ⟨E2,D2,hl2⟩:=layN_prev r (j+1) _ HR.out.2.1 (by omega)
    obtain ⟨hk0,at',m',hwk,rfl,rfl⟩:=layN_succ hlay hl2
    rw [← hi] at hk0 hwk hl2
    obtain ⟨g,off,rfl,hg,hc,hk63⟩:=HK.out _ hbr i (by omega)
    have hinv:=layN_inv ks n j E1 D1 (by omega) hlay
    have hset:=set_ok n g off nc gE n gD n i at' m' (ks i) E1 D1 wr (by omega) hc hg z1 z2 HW.out.2.2.2.1 H.out.1 hinv.1 hinv.2.1 hk0 hk63 hwk
    have c0:=z4.cell 0 (v:=.slice (some ⟨g,off,none⟩) n nc) rfl
    have c1:=z4.cell 1 (v:=.slice (some ⟨gE,0,none⟩) n n) rfl
    have c2:=z4.cell 2 (v:=.slice (some ⟨gD,0,none⟩) n n) rfl
    have HS:=Lib.hid (And.intro hset (And.intro hl2 (And.intro z4 (And.intro hbr (And.intro hi (And.intro hlt (And.intro hj hjn)))))))
    have i0:(0:Int)≤(i:Int):=by omega
    clear hset hl2 z1 z2 z4 hbr hi hlt hj hjn hk0 hwk hg hc hk63 hinv hlay ei
    go_wp2_with fail
    refine HS.out.1.mono ?_
    rintro e w5 ⟨rfl,y1,y2,hbel,hoth⟩
    have hb5:=hbel W0.heap.size HW.out.1 HW.out.2.1
    have h4:Lies w5 g4 (layV (some ⟨g,off,none⟩) n nc gE gD) 279:=(hoth g4 HS.out.2.2.1.lt (HW.out.2.2.2.2.1.apart HSZ.out.1 (by decide)) (HW.out.2.2.2.2.1.apart HSZ.out.2 (by decide))).trans HS.out.2.2.1
    have HF:=Lib.hid (And.intro y1 (And.intro y2 (And.intro h4 (HS.out.2.2.2.1.trans hb5))))
    clear y1 y2 hbel hoth hb5 h4 c0 c1 c2
    go_wp2_with fail
    have h1:=HS.out.2.2.2.2
    refine ⟨⟨j+1,by omega,congrArg (Value.int .i64) (by unfold wrap64;omega),_,_,HS.out.2.1,HF.out.1,HF.out.2.1,HF.out.2.2.1,HF.out.2.2.2⟩,?_⟩
    have e1:wrap64 ((i:Int) - 1)=(i:Int) - 1:=by unfold wrap64;omega
    rw [e1]
    simp [intOf]
    try omega
   ·
    obtain rfl:j=r:=by omega
    obtain ⟨i,hi⟩:∃ i,i=n - 1 - j:=⟨_,rfl⟩
    have ei:(n:Int) - 1 - (j:Int)=(i:Int):=by omega
    rw [ei]
    rw [HR.out.2.1] at hlay
    cases hlay
    have hstop:=layN_stop HR.out.2.1 HR.out.2.2
    rw [← hi] at hstop
    obtain ⟨g,off,rfl,hg,hc,hk63⟩:=HK.out _ hbr i (by omega)
    have hinv:=layN_inv ks n j _ _ (by omega) HR.out.2.1
    have hset:=set_bad n g off nc gE n gD n i (ks i) _ _ wr (by omega) hc hg z1 z2 HW.out.2.2.2.1 H.out.1 hinv.1 hinv.2.1 hk63 hstop
    have c0:=z4.cell 0 (v:=.slice (some ⟨g,off,none⟩) n nc) rfl
    have c1:=z4.cell 1 (v:=.slice (some ⟨gE,0,none⟩) n n) rfl
    have c2:=z4.cell 2 (v:=.slice (some ⟨gD,0,none⟩) n n) rfl
    have HS:=Lib.hid (And.intro hset hbr)
    have i0:(0:Int)≤(i:Int):=by omega
    clear hset z1 z2 z4 hbr hi hlt hj hjn hstop hg hc hk63 hinv ei
    go_wp2_with fail
    refine HS.out.1.mono ?_
    rintro e w5 ⟨⟨v,rfl⟩,hb5⟩
    have hfin:=H0.out.2.2.trans ((HS.out.2.trans (hb5.mono HS.out.2.size)).mono H0.out.2.2.size)
    clear hb5 c0 c1 c2
    go_wp2_with fail
    exact ⟨rfl,⟨_,rfl⟩,hfin⟩
 ·
  have HA:=Lib.hid (And.intro hall hbadE)
  clear hall hbadE
  go_loopw [5] (fun i W=>∃ j:Nat,j≤n∧i=.int .i64 ((n:Int) - 1 - j)∧∃ E1 D1,layN ks n j=some (E1,D1)∧Lies W gE (iv n E1) 3∧Lies W gD (iv n D1) 3∧Lies W g4 (layV a n nc gE gD) 279∧Below W0.heap.size W0 W) (fun i _=>(intOf i+1).toNat)
  case atStart=>exact ⟨0,by omega,by simp,_,_,rfl,HY.out.1,HY.out.2,HW.out.2.2.2.2.1,HW.out.2.2.2.2.2⟩
  case round =>
   clear HY
   obtain ⟨j,hj,rfl,E1,D1,hlay,z1,z2,z4,hbr⟩:=hrel
   by_cases hlt:j < n
   ·
    obtain ⟨i,hi⟩:∃ i,i=n - 1 - j:=⟨_,rfl⟩
    have ei:(n:Int) - 1 - (j:Int)=(i:Int):=by omega
    rw [ei]
    obtain ⟨E2,D2,hl2⟩:=layN_prev n (j+1) _ HA.out.1 (by omega)
    obtain ⟨hk0,at',m',hwk,rfl,rfl⟩:=layN_succ hlay hl2
    rw [← hi] at hk0 hwk hl2
    obtain ⟨g,off,rfl,hg,hc,hk63⟩:=HK.out _ hbr i (by omega)
    have hinv:=layN_inv ks n j E1 D1 hj hlay
    have hset:=set_ok n g off nc gE n gD n i at' m' (ks i) E1 D1 wr (by omega) hc hg z1 z2 HW.out.2.2.2.1 H.out.1 hinv.1 hinv.2.1 hk0 hk63 hwk
    have c0:=z4.cell 0 (v:=.slice (some ⟨g,off,none⟩) n nc) rfl
    have c1:=z4.cell 1 (v:=.slice (some ⟨gE,0,none⟩) n n) rfl
    have c2:=z4.cell 2 (v:=.slice (some ⟨gD,0,none⟩) n n) rfl
    have HS:=Lib.hid (And.intro hset (And.intro hl2 (And.intro z4 (And.intro hbr (And.intro hi (And.intro hlt hj))))))
    have i0:(0:Int)≤(i:Int):=by omega
    clear hset hl2 z1 z2 z4 hbr hi hlt hj hk0 hwk hg hc hk63 hinv hlay ei
    go_wp2_with fail
    refine HS.out.1.mono ?_
    rintro e w5 ⟨rfl,y1,y2,hbel,hoth⟩
    have hb5:=hbel W0.heap.size HW.out.1 HW.out.2.1
    have h4:Lies w5 g4 (layV (some ⟨g,off,none⟩) n nc gE gD) 279:=(hoth g4 HS.out.2.2.1.lt (HW.out.2.2.2.2.1.apart HSZ.out.1 (by decide)) (HW.out.2.2.2.2.1.apart HSZ.out.2 (by decide))).trans HS.out.2.2.1
    have HF:=Lib.hid (And.intro y1 (And.intro y2 (And.intro h4 (HS.out.2.2.2.1.trans hb5))))
    clear y1 y2 hbel hoth hb5 h4 c0 c1 c2
    go_wp2_with fail
    have h1:=HS.out.2.2.2.2
    refine ⟨⟨j+1,by omega,congrArg (Value.int .i64) (by unfold wrap64;omega),_,_,HS.out.2.1,HF.out.1,HF.out.2.1,HF.out.2.2.1,HF.out.2.2.2⟩,?_⟩
    have e1:wrap64 ((i:Int) - 1)=(i:Int) - 1:=by unfold wrap64;omega
    rw [e1]
    simp [intOf]
    try omega
   ·
    obtain rfl:j=n:=by omega
    rw [HA.out.1] at hlay
    cases hlay
    rw [show (j:Int) - 1 - (j:Int)=-1 by omega]
    have c0:=z4.cell 0 (v:=.slice a j nc) rfl
    have c1:=z4.cell 1 (v:=.slice (some ⟨gE,0,none⟩) j j) rfl
    have c2:=z4.cell 2 (v:=.slice (some ⟨gD,0,none⟩) j j) rfl
    have hfin:=H0.out.2.2.trans (hbr.mono H0.out.2.2.size)
    by_cases h0:j=0
    ·
     have p0:((j:Int) == 0)=true:=by rw [beq_iff_eq];omega
     clear z1 z2 z4 hbr hj hlt
     go_wp2_with fail
     exact ⟨rfl,⟨_,rfl⟩,hfin⟩
    ·
     have ce:=z1.cell 0 (iv_get j E 0 (by omega))
     have hE0:E 0≠j:=by
      rcases HA.out.2 with h | h
      ·
       exact absurd h h0
      ·
       exact h
     have p0:((j:Int) == 0)=false:=by rw [beq_eq_false_iff_ne];omega
     have p1:(0:Int) < (j:Int):=by omega
     obtain ⟨e0,he0⟩:∃ e0,e0=E 0:=⟨_,rfl⟩
     rw [← he0] at ce hE0
     have p2:((e0:Int) != (j:Int))=true:=by rw [bne_iff_ne];omega
     have p4:(e0 != j)=true:=by rw [bne_iff_ne];exact hE0
     clear z1 z2 z4 hbr hj hlt he0
     go_wp2_with fail
     exact ⟨rfl,⟨_,rfl⟩,hfin⟩
end Go.Proofs.YtilbbemdinpjcaaGreat.T
