/-
  Rows of elements of several cells that grow, in memory of the call's own.
-/
import Derived.Test.YtilbbemdinpjcaaGreatJVq
import Derived.Maps.Range
import Derived.Deep.AppendLies
import Derived.Deep.WholeRow
import Derived.Great.BuildSlice
namespace Go.Proofs.YtilbbemdinpjcaaGreat
set_option maxRecDepth 100000
open Go.RowKit Go.Sort Go.Maps
theorem grown_of {w w':World} {r:Option Nat} (h:Below w.heap.size w w'):w.grownBy w' r:=⟨h.1,h.2,h.3,h.size,fun i hi _=>h.block i hi⟩
theorem grown_trans {w w' w'':World} {r:Option Nat} (h:w.grownBy w' r) (k:w'.grownBy w'' r):w.grownBy w'' r :=
 ⟨k.os.trans h.os,k.tape.trans h.tape,k.output.trans h.output,Nat.le_trans h.size k.size,fun i hi hr=>(k.block i (Nat.lt_of_lt_of_le hi h.size) hr).trans (h.block i hi hr)⟩
def PutW (w w':World) (b n:Nat) (D':DataW Unit):Prop:=w'.ownsMap Tryz.prog 255 rdW b n D'∧w.grownBy w' (some b)
end Go.Proofs.YtilbbemdinpjcaaGreat
namespace Go.Proofs.YtilbbemdinpjcaaGreat
set_option maxRecDepth 100000
open Go.RowKit Go.Sort Go.Maps
theorem addAt_sumAt (L:List Ct) (n:Nm) (x:BitVec 128):addAt (sumAt L) n x=sumAt (L ++ [(n,x)]):=by
 funext m
 rw [sumAt_append]
 unfold addAt
 by_cases h:m=n
 ·
  subst h
  simp [sumAt]
 ·
  rw [if_neg h]
  have:¬ n=m:=fun e=>h e.symm
  simp [sumAt,this]
def RoomT (B:Nat) (w:World) (pa:Option Addr) (n c:Nat):Prop:=(pa=none∧n=0∧c=0) ∨ ∃ g,pa=some ⟨g,0,none⟩∧n≤c∧c≤maxLen∧B≤g∧∃ cs,Lies w g cs 150∧cs.size=c * 35
theorem RoomT.mono {B B':Nat} {w:World} {pa:Option Addr} {n c:Nat} (h:RoomT B w pa n c) (hb:B'≤B):RoomT B' w pa n c:=by
 rcases h with h | ⟨g,h1,h2,h3,h4,h5⟩
 ·
  exact .inl h
 ·
  exact .inr ⟨g,h1,h2,h3,Nat.le_trans hb h4,h5⟩
theorem RoomT.below {B:Nat} {w u:World} {pa:Option Addr} {n c:Nat} (h:RoomT B w pa n c) (hb:Below w.heap.size w u):RoomT B u pa n c:=by
 rcases h with h | ⟨g,h1,h2,h3,h4,cs,h5,h6⟩
 ·
  exact .inl h
 ·
  exact .inr ⟨g,h1,h2,h3,h4,cs,h5.below hb h5.lt,h6⟩
theorem RoomT.setRow {B:Nat} {w:World} {pa:Option Addr} {n c:Nat} (h:RoomT B w pa n c) {b:Nat} (hb:b < B) (cs':Array Value):RoomT B (w.setRow b cs') pa n c:=by
 rcases h with h | ⟨g,h1,h2,h3,h4,cs,h5,h6⟩
 ·
  exact .inl h
 ·
  exact .inr ⟨g,h1,h2,h3,h4,cs,h5.setRowOther _ _ (by omega),h6⟩
structure OnWay (w W:World) (s:BitVec 128) (L:List Ct):Prop where
 below:Below w.heap.size w W
 res:Lies W w.heap.size #[.int .i64 0,.int .u64 0] 148
 map:∃ D,W.ownsMap Tryz.prog 255 rdW (w.heap.size+1) L.length D∧HoldsF D (sumAt L)
 sum:Lies W (w.heap.size+1+1) (wC s) 148
theorem wpOp_storeRow {P:Program} {ops:Array Oper} {Q:Exit→Act→World→Prop} {i:Nat} {o:Oper} {a:Act} {w:World} {K:Act→World→Prop} (hi:ops[i]? = some o) (hgd:o.guard=none) (ty:TypeId) (x y:Operand) (ho:o.op=.store ty x y)
  (g:Nat) (cells:Array Value) (hx:a.eval x=.pointer (some ⟨g,0,none⟩)) (hy:a.eval y=.agg cells) (t:TypeId) (old:Array Value) (hg:w.heap[g]? = some (.cells old t (0,0))) (hs:(P.info? ty).map (·.size)=some cells.size)
  (hold:old.size=cells.size) (h1:cells.all (·.oneCell')=true) (h:K (a.put o.dst undef) (w.setRow g cells)):wpOp P ops Q i K a w :=
 wpOp_wp hi hgd (wp_store_row ty x y ho g cells hx hy t old hg hs hold h1 h)
theorem HoldsF.none:HoldsF (.map []) (sumAt []):=fun _ _ _=>rfl
theorem OnWay.step {w W W':World} {s:BitVec 128} {L:List Ct} (h:OnWay w W s L) (hb:Below W.heap.size W W'):OnWay w W' s L:=by
 obtain ⟨D,h1,h2⟩:=h.map
 exact ⟨h.below.trans (hb.mono h.below.size),h.res.below hb h.res.lt,⟨D,h1.kept (grown_of (r:=none) hb) (by simp),h2⟩,h.sum.below hb h.sum.lt⟩
theorem OnWay.put {w W W':World} {s:BitVec 128} {L:List Ct} (h:OnWay w W s L) {D:DataW Unit} (hf:HoldsF D (sumAt L)) (hD:IsMap D) (n:Nm) (x:BitVec 128) (hn:n.1.length=32) (ht:n.2.length≤maxLen)
  (hp:PutW W W' (w.heap.size+1) (L.length+1) (D.put (kN n) (dW (sumAt L n+x)))):OnWay w W' s (L ++ [(n,x)]):=by
 obtain ⟨h1,h2⟩:=hp
 have hb:Below w.heap.size W W':=⟨h2.os,h2.tape,h2.output,h2.size,fun i hi=>h2.block i (Nat.lt_of_lt_of_le hi h.below.size) (by simp;omega)⟩
 refine ⟨h.below.trans hb,(h2.block _ h.res.lt (by simp)).trans h.res,⟨D.put (kN n) (dW (sumAt L n+x)),?_,?_⟩,(h2.block _ h.sum.lt (by simp)).trans h.sum⟩
 ·
  rw [List.length_append];exact h1
 ·
  rw [← addAt_sumAt];exact hf.put hD n x hn ht
end Go.Proofs.YtilbbemdinpjcaaGreat
namespace Go.Proofs.YtilbbemdinpjcaaGreat
set_option maxRecDepth 100000
open Go.RowKit Go.Sort Go.Maps
end Go.Proofs.YtilbbemdinpjcaaGreat
namespace Go.Proofs.YtilbbemdinpjcaaGreat
set_option maxRecDepth 100000
open Go.RowKit Go.Sort Go.Maps
section
variable {α:Type} (enc:α→Array Value) (k:Nat)
def cellsF (l:List α):List Value:=l.flatMap fun a=>(enc a).toList
theorem cellsF_cons (a:α) (l:List α):cellsF enc (a :: l)=(enc a).toList ++ cellsF enc l:=rfl
theorem cellsF_app (l m:List α):cellsF enc (l ++ m)=cellsF enc l ++ cellsF enc m:=by simp [cellsF]
theorem cellsF_len:∀ (l:List α),(∀ a,a ∈ l→(enc a).size=k)→(cellsF enc l).length=l.length * k
 | [],_=>by simp [cellsF]
 | a :: l,h=>by
   rw [cellsF_cons,List.length_append,Array.length_toList,h a (by simp),cellsF_len l fun b hb=>h b (by simp [hb]),List.length_cons,Nat.succ_mul,Nat.add_comm]
theorem cellsF_get:∀ (l:List α),(∀ a,a ∈ l→(enc a).size=k)→∀ (i:Nat) (a:α),l[i]? = some a→∀ j,j < k→(cellsF enc l)[i * k+j]? = (enc a)[j]?
 | [],_,i,a,h,_,_=>by simp at h
 | b :: l,hs,0,a,h,j,hj=>by
   simp only [List.getElem?_cons_zero,Option.some.injEq] at h
   subst h
   have hl:(enc b).toList.length=k:=by rw [Array.length_toList];exact hs b (by simp)
   rw [cellsF_cons,Nat.zero_mul,Nat.zero_add,List.getElem?_append_left (by rw [hl];exact hj),Array.getElem?_toList]
 | b :: l,hs,i+1,a,h,j,hj=>by
   simp only [List.getElem?_cons_succ] at h
   have hl:(enc b).toList.length=k:=by rw [Array.length_toList];exact hs b (by simp)
   rw [cellsF_cons,List.getElem?_append_right (by rw [hl,Nat.succ_mul];omega),hl,show (i+1) * k+j - k=i * k+j by rw [Nat.succ_mul];omega]
   exact cellsF_get l (fun c hc=>hs c (by simp [hc])) i a h j hj
theorem cellsF_one (l:List α) (h:∀ a,a ∈ l→(enc a).all (·.oneCell')=true):∀ u ∈ cellsF enc l,u.oneCell'=true:=by
 intro u hu
 obtain ⟨a,ha,h2⟩:=List.mem_flatMap.1 hu
 have:=h a ha
 rw [Array.all_eq_true_iff_forall_mem] at this
 exact this u (Array.mem_toList_iff.1 h2)
theorem own_at {w:World} {B:Nat} {e:TypeId} {v:Value} {l:List α} (hs:∀ a,a ∈ l→(enc a).size=k) (h:w.ownsRow B e k v l.length (cellsF enc l)) :
  (v=.slice none 0 0∧l=[]) ∨ ∃ g cap,v=.slice (some ⟨g,0,none⟩) l.length cap∧B≤g∧g < w.heap.size∧l.length≤cap∧(∀ (i:Nat) (a:α),l[i]? = some a→w.rangeAt g (0+i * k) (enc a).toList)∧∀ j,w.frozen? ⟨g,j,none⟩=false:=by
 rcases h.2 with ⟨h1,h2⟩ | ⟨g,cap,cur,h1,h2,h3,h4,h5,h6,h7⟩
 ·
  exact .inl ⟨h1,List.eq_nil_of_length_eq_zero h2⟩
 ·
  have hl:Lies w g cur e:=h3
  refine .inr ⟨g,cap,h1,h2,hl.lt,h4,fun i a ha j v hv => ?_,fun j=>hl.free j⟩
  have hj:j < k:=by
   have:=(List.getElem?_eq_some_iff.1 hv).1
   rw [Array.length_toList,hs a (List.mem_of_getElem? ha)] at this
   exact this
  have hi:i < l.length:=(List.getElem?_eq_some_iff.1 ha).1
  rw [Array.getElem?_toList] at hv
  have h8:(cellsF enc l)[i * k+j]? = some v:=by rw [cellsF_get enc k l hs i a ha j hj];exact hv
  have hm:i * k+j < l.length * k:=by
   have:(i+1) * k≤l.length * k:=Nat.mul_le_mul_right k hi
   rw [Nat.succ_mul] at this
   omega
  rw [← h7,List.getElem?_take,if_pos hm] at h8
  rw [show 0+i * k+j=i * k+j by omega]
  exact hl.cell (i * k+j) (by simpa using h8)
theorem src_one {w:World} {g:Nat} {t:TypeId} {a:α} (h:Lies w g (enc a) t):∀ j u,(cellsF enc [a])[j]? = some u→w.cell? ((⟨g,0,none⟩:Addr).add j)=some u:=fun j u hu=>by
 have:(enc a)[j]? = some u:=by
  rw [cellsF_cons] at hu
  simpa [cellsF] using hu
 have h2:=h.cell j this
 have e:(⟨g,0,none⟩:Addr).add j=⟨g,j,none⟩:=by cases j <;> simp [Addr.add]
 rw [e];exact h2
end
theorem info48:(Tryz.prog.info? 150).map (fun i=>(i.zero.map (·.cells.size),i.size,i.bytes))=some (some 35,35,64):=by kernel_rfl
theorem info54:(Tryz.prog.info? 146).map (fun i=>(i.zero.map (·.cells.size),i.size,i.bytes))=some (some 34,34,56):=by kernel_rfl
theorem info_parts {P:Program} {t:TypeId} {k b:Nat} (h:(P.info? t).map (fun i=>(i.zero.map (·.cells.size),i.size,i.bytes))=some (some k,k,b)):∃ i z,P.info? t=some i∧i.zero=some z∧i.size=k∧i.bytes=b∧z.cells.size=k:=by
 cases hi:P.info? t with
 | none=>rw [hi] at h;simp at h
 | some i =>
   rw [hi] at h
   simp only [Option.map_some,Option.some.injEq,Prod.mk.injEq] at h
   obtain ⟨h1,h2,h3⟩:=h
   cases hz:i.zero with
   | none=>rw [hz] at h1;simp at h1
   | some z =>
     rw [hz] at h1
     exact ⟨i,z,rfl,hz,h2,h3,by simpa using h1⟩
theorem RowT.but {w w':World} {pa:Option Addr} {l:List To} (h:RowT w pa l) {r:Option Nat} (hg:w.grownBy w' r) (hne:∀ g off,pa=some ⟨g,off,none⟩→0 < l.length→some g≠r):RowT w' pa l :=
 ⟨h.1,h.2.1,fun hl=>by
  obtain ⟨g,off,e,hlt,hh⟩:=h.2.2 hl
  exact ⟨g,off,e,Nat.lt_of_lt_of_le hlt hg.size,fun i a hi j v hv=>hg.cell (hh i a hi j v hv) (hne g off e hl)⟩⟩
theorem grown_setRow (w:World) (g:Nat) (cs:Array Value):w.grownBy (w.setRow g cs) (some g):=⟨rfl,rfl,rfl,by simp,fun k _ hk=>setRow_other w g k cs (fun e=>hk (by rw [e]))⟩
theorem RowT.setRow {w:World} {pa:Option Addr} {l:List To} (h:RowT w pa l) (b:Nat) (cs':Array Value) {cs:Array Value} {t:TypeId} (hl:Lies w b cs t) (hlt:cs.size≤34):RowT (w.setRow b cs') pa l :=
 h.but (grown_setRow w b cs') (fun g off e h0 heq=>by
  have hgb:g=b:=Option.some.inj heq
  obtain ⟨g',off',e',_,hh⟩:=h.2.2 h0
  rw [e] at e'
  cases e'
  subst hgb
  obtain ⟨a,ha⟩:∃ a,l[0]? = some a:=⟨l[0],List.getElem?_eq_getElem h0⟩
  have hc:=hh 0 a ha 34 _ (by rw [Array.getElem?_toList];exact toC_lo a (h.2.1 a (List.mem_of_getElem? ha)).1)
  rw [cell_of_row w g _ cs t (0,0) hl,Array.getElem?_eq_none (by omega)] at hc
  cases hc)
theorem run_slice1 {P:Program} (w:World) (t e:TypeId) (k b:Nat) (cs:Array Value) (hu:P.underlying t=some (.slice e)) (hi:(P.info? e).map (fun i=>(i.zero.map (·.cells.size),i.size,i.bytes))=some (some k,k,b)) (hk:0 < k) (hk2:k≤1000) (hc:cs.size=k) :
  (Instr.buildSlice t 1 #[(0,.agg cs)]).run P w=.ok (.slice (some ⟨w.heap.size,0,none⟩) 1 1) (w.alloc (.cells cs e)):=by
 obtain ⟨i,z,h1,h2,h3,h4,h5⟩:=info_parts hi
 refine run_buildSlice w t e 1 _ cs i z hu h1 h2 (by rw [h3];omega) (by rw [h3];omega) ?_
 rw [h3]
 have h:=Great.fill_whole hk [Value.agg cs] ((Array.range (1 * k)).map (z.cells[· % z.cells.size]!)) (by simpa [Value.cells] using hc) (by simp)
 simpa [Value.cells] using h
theorem built_total (a:To) (h:a.nm.1.length=32):Tryz.prog.built 150 [(0,.agg (B8 a.nm.1)),(1,.string (txt a.nm.2)),(2,.agg #[.int .i64 (hiS a.w),.int .u64 (loN a.w)])]=some (toC a):=by
 obtain ⟨⟨p,t⟩,x⟩:=a
 obtain ⟨a0,a1,a2,a3,a4,a5,a6,a7,a8,a9,a10,a11,a12,a13,a14,a15,a16,a17,a18,a19,a20,a21,a22,a23,a24,a25,a26,a27,a28,a29,a30,a31,rfl⟩:=list32 p h
 kernel_rfl
theorem built_asset (a:As) (h:a.nm.1.length=32):Tryz.prog.built 146 [(0,.agg (B8 a.nm.1)),(1,.string (txt a.nm.2)),(2,.int .i64 a.amt)]=some (asC a):=by
 obtain ⟨⟨p,t⟩,x⟩:=a
 obtain ⟨a0,a1,a2,a3,a4,a5,a6,a7,a8,a9,a10,a11,a12,a13,a14,a15,a16,a17,a18,a19,a20,a21,a22,a23,a24,a25,a26,a27,a28,a29,a30,a31,rfl⟩:=list32 p h
 kernel_rfl
def OwnTo (w:World) (B:Nat) (v:Value) (l:List To):Prop:=w.ownsRow B 150 35 v l.length (cellsF toC l)
def OwnAs (w:World) (B:Nat) (v:Value) (l:List As):Prop:=w.ownsRow B 146 34 v l.length (cellsF asC l)
theorem OwnTo.row {w:World} {B:Nat} {v:Value} {l:List To} (h:OwnTo w B v l) (ho:∀ a,a ∈ l→ToOk a) (hl:l.length≤maxLen):∃ pa c,v=.slice pa l.length c∧RowT w pa l:=by
 rcases own_at toC 35 (fun a ha=>toC_size a (ho a ha).1) h with ⟨h1,rfl⟩ | ⟨g,cap,h1,h2,h3,h4,h5,_⟩
 ·
  exact ⟨none,0,h1,hl,ho,fun h=>absurd h (by simp)⟩
 ·
  exact ⟨_,cap,h1,hl,ho,fun _=>⟨g,0,rfl,h3,h5⟩⟩
theorem OwnAs.row {w:World} {B:Nat} {v:Value} {l:List As} (h:OwnAs w B v l) (ho:∀ a,a ∈ l→AsOk a) (hl:l.length≤maxLen):∃ pa c,v=.slice pa l.length c∧Row w pa l:=by
 rcases own_at asC 34 (fun a ha=>asC_size a (ho a ha).1) h with ⟨h1,rfl⟩ | ⟨g,cap,h1,h2,h3,h4,h5,_⟩
 ·
  exact ⟨none,0,h1,hl,ho,fun h=>absurd h (by simp)⟩
 ·
  exact ⟨_,cap,h1,hl,ho,fun _=>⟨g,0,rfl,h3,h5⟩⟩
theorem ownsRow_below {w w':World} {B:Nat} {e:TypeId} {k n:Nat} {v:Value} {xs:List Value} (h:w.ownsRow B e k v n xs) (hb:Below w.heap.size w w'):w'.ownsRow B e k v n xs :=
 h.kept (grown_of (r:=none) hb) (by
  cases hv:v.ownBlock
  ·
   exact .inl rfl
  ·
   exact .inr (by simp))
end Go.Proofs.YtilbbemdinpjcaaGreat
