/-
  Two writers side by side: the program's and the document's own; each call leaves the other one as it was.
-/
import Derived.Test.YtilbbemdinpjcaaGreatJWWantSt
import Derived.Laws.Tables
import Derived.Deep.CutRange
import Derived.WalkKit
import Derived.ProofKit
import Derived.OpenShut
import Derived.Carry
import Derived.Deep.Slices
import Derived.ChangeSlices
namespace Go.Proofs.YtilbbemdinpjcaaGreat.W
open Go.RowKit
theorem clone_own (w:World) (B:Nat) (v:Value) (l:List UInt8) (h:w.ownsRow B 5 1 v l.length (B8 l).toList) (hx:l.length≤2000000) :
  Calls Tryz.prog 85 #[v] w fun e w'=>∃ u,e=.returned u∧w'.ownsRow w.heap.size 5 1 u l.length (B8 l).toList∧Below w.heap.size w w':=by
 rcases h.2 with ⟨rfl,hn⟩ | ⟨k,cap,cur,rfl,_,hk,_⟩
 ·
  refine (clone_nil w).mono ?_
  rintro e w' ⟨rfl,rfl⟩
  obtain rfl:l=[]:=List.eq_nil_of_length_eq_zero hn
  exact ⟨_,rfl,World.ownsRow_nil _ _ _ _,Below.refl _ _⟩
 ·
  exact clone_any w l k 0 cap (own_src h) (Array.getElem?_eq_some_iff.1 hk).1 hx
set_option maxRecDepth 100000 in
theorem wbytes_good (w:World) (B g:Nat) (v:Value) (l:List UInt8) (h:WrV w B g v l) (hx:l.length≤2000000) :
  Calls Tryz.prog 38 #[.pointer (some ⟨g,0,none⟩)] w fun e w'=>∃ u,e=.returned (.tuple #[u,.int .i64 0])∧w'.ownsRow w.heap.size 5 1 u l.length (B8 l).toList∧Below w.heap.size w w':=by
 have hcl:=clone_own w B v l h.2.1 hx
 have ha:=answered_self w g (h.1.cell 0 rfl)
 have c1:w.cell? ⟨g,1,none⟩=some (.bool false):=h.1.cell 1 rfl
 have c2:w.cell? ⟨g,2,none⟩=some v:=h.1.cell 2 rfl
 have HC:=Lib.hid hcl
 clear hcl h
 go_enter Tryz.func38,Tryz.ntmps38
 go_wp2_with fail
 refine ha.mono ?_
 rintro e w1 ⟨rfl,rfl⟩
 clear ha
 go_wp2_with fail
 refine HC.out.mono ?_
 rintro e w1 ⟨u,rfl,hown,hb⟩
 have HH:=Lib.hid (And.intro hown hb)
 clear hown hb
 go_wp2_with fail
 go_ret2
 exact ⟨u,rfl,HH.out.1,HH.out.2⟩
set_option maxRecDepth 100000 in
theorem wbytes_spoilt (w:World) (B g:Nat) (v:Value) (h:WSt w B g v none) :
  Calls Tryz.prog 38 #[.pointer (some ⟨g,0,none⟩)] w fun e w'=>e=.returned (.tuple #[.slice none 0 0,.int .i64 2])∧w=w':=by
 have ha:=answered_self w g (h.1.cell 0 rfl)
 have c1:w.cell? ⟨g,1,none⟩=some (.bool true):=h.1.cell 1 rfl
 clear h
 go_enter Tryz.func38,Tryz.ntmps38
 go_wp2_with fail
 refine ha.mono ?_
 rintro e w1 ⟨rfl,rfl⟩
 clear ha
 go_wp2_with fail
 go_ret2
 exact ⟨rfl,rfl⟩
end Go.Proofs.YtilbbemdinpjcaaGreat.W
namespace Go.Proofs.YtilbbemdinpjcaaGreat.W
open Go.RowKit
def z32:Array Value:=B8 (List.replicate 32 0)
theorem info33:(Tryz.prog.info? 30).map (·.size)=some z32.size:=by kernel_rfl
set_option maxRecDepth 100000 in
theorem tell95_idle (w:World) (p:Option Addr) (fv:Value) (h:Idle w p):Calls Tryz.prog 274 #[.pointer p,fv] w fun e w'=>e=.returned (.agg z32)∧Below w.heap.size w w':=by
 have hb1:Below w.heap.size w (w.alloc (.cells #[.pointer p] 56)):=(Below.refl _ _).alloc (Nat.le_refl _) _
 have hb2:Below w.heap.size w ((w.alloc (.cells #[.pointer p] 56)).alloc (.cells z32 30)):=hb1.alloc hb1.size _
 have hz:Lies ((w.alloc (.cells #[.pointer p] 56)).alloc (.cells z32 30)) (w.heap.size+1) z32 30:=by
  have:=Lies.new (w.alloc (.cells #[.pointer p] 56)) z32 30
  simpa using this
 have ht:=tells_idle _ p (h.below hb2)
 have HT:=Lib.hid ht
 have HZ:=Lib.hid hz
 have HB:=Lib.hid hb2
 clear ht hz hb1 hb2 h
 go_enter_defers Tryz.func274,Tryz.ntmps274
 go_wp2_with fail
 refine HT.out.mono ?_
 rintro e w1 ⟨rfl,rfl⟩
 generalize (w.alloc (.cells #[.pointer p] 56)).alloc (.cells z32 30)=W0 at HZ HB HT ⊢
 go_wp2_with (first
  | (refine wpList_load_row rfl 30 _ rfl (w.heap.size+1) rfl 30 z32 (0,0) _ HZ.out Tryz.underlying30 rfl info33 ?_)
  | (refine wpList_store_row rfl 30 _ _ rfl (w.heap.size+1) z32 rfl rfl 30 z32 HZ.out info33 rfl (B8_one _) ?_))
 refine ⟨_,results_cell_row (p:=4) (ty:=30) (by kernel_rfl) _ _ (w.heap.size+1) 30 z32 (0,0) _ rfl (HZ.out.setRow _) Tryz.underlying30 rfl info33,rfl,below_setRow HB.out _ _ (by omega)⟩
set_option maxRecDepth 100000 in
theorem ask57_idle (w:World) (p:Option Addr) (h:Idle w p):Calls Tryz.prog 228 #[.pointer p] w fun e w'=>e=.returned (.agg z32)∧Below w.heap.size w w':=by
 have hmf:∀ (fn:Fn) (first cap:Array Value) (w:World),(Instr.makeFunc fn first cap).run Tryz.prog w=.ok (.func fn first cap) w:=fun _ _ _ _=>rfl
 have hb1:Below w.heap.size w (w.alloc (.cells #[.pointer p] 56)):=(Below.refl _ _).alloc (Nat.le_refl _) _
 have hb2:Below w.heap.size w ((w.alloc (.cells #[.pointer p] 56)).alloc (.cells z32 30)):=hb1.alloc hb1.size _
 have hz:Lies ((w.alloc (.cells #[.pointer p] 56)).alloc (.cells z32 30)) (w.heap.size+1) z32 30:=by
  have:=Lies.new (w.alloc (.cells #[.pointer p] 56)) z32 30
  simpa using this
 have ht:=tell95_idle _ p (.func (Fn.func 275) #[] #[.pointer (some ⟨w.heap.size,0,none⟩)]) (h.below hb2)
 have HT:=Lib.hid ht
 have HZ:=Lib.hid hz
 have HB:=Lib.hid hb2
 clear ht hz hb1 hb2 h
 go_enter Tryz.func228,Tryz.ntmps228
 go_wp2_with fail
 refine HT.out.mono ?_
 rintro e w1 ⟨rfl,hb⟩
 have hz1:=HZ.out.below hb HZ.out.lt
 have HZ1:=Lib.hid hz1
 have HB1:=Lib.hid (HB.out.trans (hb.mono HB.out.size))
 clear hz1 hb
 go_wp2_with (refine wpList_store_row rfl 30 _ _ rfl (w.heap.size+1) z32 rfl rfl 30 z32 HZ1.out info33 rfl (B8_one _) ?_)
 refine bodyPost_ret (v:=.agg z32) (results_cell_row (p:=2) (ty:=30) (by kernel_rfl) _ _ (w.heap.size+1) 30 z32 (0,0) _ rfl (HZ1.out.setRow _) Tryz.underlying30 rfl info33) rfl ⟨rfl,below_setRow HB1.out _ _ (by omega)⟩
end Go.Proofs.YtilbbemdinpjcaaGreat.W
namespace Go.Proofs.YtilbbemdinpjcaaGreat.W
open Go.RowKit
theorem set_same {cs:Array Value} {j:Nat} {v:Value} (h:cs[j]? = some v):cs.setIfInBounds j v=cs:=by
 apply Array.ext_getElem?
 intro i
 rw [Array.getElem?_setIfInBounds]
 by_cases e:j=i
 ·
  subst e
  have hl:=(Array.getElem?_eq_some_iff.1 h).1
  rw [if_pos rfl,if_pos hl,h]
 ·
  rw [if_neg e]
theorem Lies.same {w:World} {g:Nat} {cs:Array Value} {t:TypeId} (h:Lies w g cs t) (j:Nat) (v:Value) (hv:cs[j]? = some v):Lies (w.setCell ⟨g,j,none⟩ v) g cs t:=by
 have:=h.set j v
 rwa [set_same hv] at this
end Go.Proofs.YtilbbemdinpjcaaGreat.W
namespace Go.Proofs.YtilbbemdinpjcaaGreat.W
open Go.RowKit
attribute [local irreducible] z32
end Go.Proofs.YtilbbemdinpjcaaGreat.W
namespace Go.Proofs.YtilbbemdinpjcaaGreat.W
open Go.RowKit
attribute [-go_sem] loadCellsFrom storeCells
end Go.Proofs.YtilbbemdinpjcaaGreat.W
set_option maxRecDepth 1000000
set_option linter.constructorNameAsVariable false
namespace Go.Proofs.YtilbbemdinpjcaaGreat.W
open Go.ChangeShapes Go.WideShapes Go.ChangeAt Go.RowKit
theorem args_stay {H:Type} {enc:TypeId × Value→H} {W W':World} {t:TypeId} {v:Value} {d:DataW H} {ps:List MemPlace} (hr:Tryz.prog.readableRec t=true) (hrow:t < Tryz.prog.types.size)
  (h:DataW.Trod enc Tryz.prog W 0 (fun _=>true) true t v d ps) (hb:Below W.heap.size W W') (hlt:∀ x ∈ ps,x.block < W.heap.size):DataW.Trod enc Tryz.prog W' 0 (fun b=>decide (b < W.heap.size)) true t v d ps :=
 Below.trod (by kernel_rfl) hr hrow h hb hlt
end Go.Proofs.YtilbbemdinpjcaaGreat.W
namespace Go.Proofs.YtilbbemdinpjcaaGreat.W
open Go.ChangeShapes Go.WideShapes Go.ChangeAt Go.RowKit Go.Deep
structure PutD where
 n0:Int
 n1:Int
 n2:Nat
 hs:List UInt8
 bv:Value
 xs:List UInt8
 s:ByteArray
def PutD.cells (p:PutD):Array Value:=#[.int .i64 p.n0,.int .i64 p.n1,.int .u64 p.n2] ++ B8 p.hs ++ #[p.bv,.string p.s]
structure PutD.Ok (p:PutD) (W:World):Prop where
 hlen:p.hs.length=32
 wlt:p.n2 < 18446744073709551616
 lo:-9223372036854775808≤p.n1
 hi:p.n1 < 9223372036854775808
 slen:p.s.size≤maxLen
 raw:RawIn W p.bv p.xs
 xlen:p.xs.length≤140737488355328
theorem PutD.size {p:PutD} {W:World} (h:p.Ok W):p.cells.size=37:=by
 simp [PutD.cells,B8_size,h.hlen]
theorem PutD.v {p:PutD} {W:World} (h:p.Ok W):PutV p.cells p.n0 p.n1 p.n2 p.hs p.bv p.s:=by
 have h32:=h.hlen
 refine ⟨PutD.size h,?_,?_,?_,h.wlt,?_,h.hlen,?_,?_,?_⟩
 ·
  simp [PutD.cells,Array.getElem?_append]
 ·
  simp [PutD.cells,Array.getElem?_append]
 ·
  simp [PutD.cells,Array.getElem?_append]
 ·
  simp [PutD.cells,B8,h32]
 ·
  simp [PutD.cells,B8,h32]
 ·
  simp [PutD.cells,B8,h32]
 ·
  have:=h.slen;unfold maxLen at this;omega
def PRow (W:World) (g off:Nat) (ps:List PutD):Prop:=∀ i p,ps[i]? = some p→p.Ok W∧∀ j v,p.cells[j]? = some v→W.cell? ⟨g,off+(i * 37+j),none⟩=some v
theorem list_of {α:Type} (z:α) (P:Nat→α→Prop):∀ n,(∀ j,j < n→∃ b,P j b)→∃ l:List α,l.length=n∧∀ j,j < n→P j (l.getD j z)
 | 0,_=>⟨[],rfl,fun j hj=>absurd hj (by omega)⟩
 | n+1,h=>by
   obtain ⟨l,hl,hp⟩:=list_of z P n (fun j hj=>h j (by omega))
   obtain ⟨b,hb⟩:=h n (by omega)
   refine ⟨l ++ [b],by simp [hl],fun j hj => ?_⟩
   by_cases hjn:j < n
   · have:=hp j hjn
     rw [List.getD_eq_getElem?_getD,List.getElem?_append_left (by omega),← List.getD_eq_getElem?_getD]
     exact this
   · obtain rfl:j=n:=by omega
     rw [List.getD_eq_getElem?_getD,List.getElem?_append_right (by omega)]
     simpa [hl] using hb
theorem bounds_byte {z:Int} (h:(Lit.int .u8 z).wf=true):0≤z∧z < 256:=by
 have hmin:IntKind.u8.min=0:=rfl
 have hmax:IntKind.u8.max=255:=rfl
 simp only [Lit.wf,Bool.and_eq_true,decide_eq_true_eq] at h
 omega
theorem byte_of {z:Int} (h:(Lit.int .u8 z).wf=true):∃ b:UInt8,z=(b.toNat:Int):=by
 have hb:=bounds_byte h
 refine ⟨UInt8.ofNat z.toNat,?_⟩
 rw [UInt8.toNat_ofNat_of_lt' (by show z.toNat < 256;omega)]
 omega
theorem word_of {a:Int} (h:(Lit.int .u64 a).wf=true):∃ n:Nat,a=(n:Int)∧n < 18446744073709551616:=by
 have hmin:IntKind.u64.min=0:=rfl
 have hmax:IntKind.u64.max=18446744073709551615:=rfl
 simp only [Lit.wf,Bool.and_eq_true,decide_eq_true_eq] at h
 exact ⟨a.toNat,by omega,by omega⟩
theorem int_of {a:Int} (h:(Lit.int .i64 a).wf=true):-9223372036854775808≤a∧a < 9223372036854775808:=by
 have hmin:IntKind.i64.min=-9223372036854775808:=rfl
 have hmax:IntKind.i64.max=9223372036854775807:=rfl
 simp only [Lit.wf,Bool.and_eq_true,decide_eq_true_eq] at h
 omega
theorem cells5:Tryz.prog.cellsOf 5=1:=by kernel_rfl
theorem cells33:Tryz.prog.cellsOf 30=32:=by kernel_rfl
section
variable {H:Type} {enc:TypeId × Value→H} {W:World}
theorem hash_in {fuel:Nat} {cs:List Value} {x:DataW H × List MemPlace} (hf:DataW.trod enc Tryz.prog W 0 (fun _=>true) true fuel 30 cs=some x) :
  ∃ hs:List UInt8,hs.length=32∧cs=(B8 hs).toList:=by
 obtain ⟨ys,k,_,_,hlen,hyl,hy⟩:=DataW.trod_array Tryz.underlying30 hf
 rw [cells33] at hlen
 have hb:∀ j,j < 32→∃ b:UInt8,cs[j]? = some (.int .u8 b.toNat):=by
  intro j hj
  have h1:=hy j hj
  rw [cells5,Nat.mul_one] at h1
  have hone:(cs.drop j).take 1=[cs[j]'(by omega)]:=by
   rw [List.drop_eq_getElem_cons (by omega)];rfl
  rw [hone,List.getElem?_eq_getElem (by omega)] at h1
  obtain ⟨z,hz,_,hwf⟩:=DataW.trod_int Tryz.underlying5 h1
  obtain ⟨b,hb⟩:=byte_of hwf
  exact ⟨b,by rw [List.getElem?_eq_getElem (by omega),(List.cons.inj hz).1,hb]⟩
 obtain ⟨hs,hl,hh⟩:=list_of (0:UInt8) (fun j b=>cs[j]? = some (.int .u8 b.toNat)) 32 hb
 refine ⟨hs,hl,?_⟩
 apply List.ext_getElem?
 intro j
 by_cases hj:j < 32
 ·
  rw [hh j hj,Array.getElem?_toList,B8_get hs j (by omega)]
 ·
  rw [List.getElem?_eq_none (by omega),List.getElem?_eq_none (by rw [Array.length_toList,B8_size];omega)]
theorem weights_in {P:Program} {e:TypeId} {d:DataW H} {n:Nat} (hn:n ∈ d.weights P e):∀ {l:List (DataW H)},d ∈ l→n ∈ DataW.weightsAll P e l
 | [],h=>by cases h
 | x :: l,h=>by
   unfold DataW.weightsAll
   rcases List.mem_cons.1 h with rfl | h
   · exact List.mem_append_left _ hn
   · exact List.mem_append_right _ (weights_in hn h)
end
end Go.Proofs.YtilbbemdinpjcaaGreat.W
namespace Go.Proofs.YtilbbemdinpjcaaGreat.W
open Go.RowKit
theorem PRow.cell {W:World} {g off:Nat} {ps:List PutD} (h:PRow W g off ps) {i:Nat} {p:PutD} (hi:ps[i]? = some p) {j:Nat} {v:Value} (hv:p.cells[j]? = some v):W.cell? ⟨g,off+i * 37+j,none⟩=some v:=by
 rw [Nat.add_assoc];exact (h i p hi).2 j v hv
theorem PRow.below {B:Nat} {W W':World} {g off:Nat} {ps:List PutD} (h:PRow W g off ps) (hW:W.heap.size≤B) (hb:Below B W W'):PRow W' g off ps:=by
 intro i p hi
 obtain ⟨hok,hc⟩:=h i p hi
 refine ⟨⟨hok.hlen,hok.wlt,hok.lo,hok.hi,hok.slen,?_,hok.xlen⟩,fun j v hj=>(hb.cell (p:=⟨g,off+(i * 37+j),none⟩) (Nat.lt_of_lt_of_le (block_lt (hc j v hj)) hW)).trans (hc j v hj)⟩
 exact hok.raw.below (hb.mono hW)
def sumB (ps:List PutD):Nat→Nat
 | 0=>0
 | n+1=>sumB ps n+(match ps[n]? with | some p=>p.xs.length | none=>0)
theorem PutD.rawv {p:PutD} {W:World} (h:p.Ok W):∃ A c,p.bv=.slice A p.xs.length c:=by
 rcases h.raw with ⟨h1,h2⟩ | ⟨ad,c,h1,_⟩
 ·
  exact ⟨none,0,by rw [h1,h2];rfl⟩
 ·
  exact ⟨_,_,h1⟩
end Go.Proofs.YtilbbemdinpjcaaGreat.W
namespace Go.Proofs.YtilbbemdinpjcaaGreat.W
open Go.RowKit
theorem Only.keep {g:Nat} {w w':World} {o:Option Nat} {k:Nat} {cs:Array Value} {t:TypeId} (h:Only g w w' o) (hl:Lies w k cs t) (hg:k≠g) (ho:o≠some k):Lies w' k cs t :=
 (h.block k hl.lt hg (fun e=>ho e.symm)).trans hl
theorem own_only {g:Nat} {w w':World} {o:Option Nat} {base n:Nat} {e:TypeId} {size:Nat} {u:Value} {xs:List Value} (h:w.ownsRow base e size u n xs) (ho:Only g w w' o) (h1:u.ownBlock≠some g) (h2:∀ k,u.ownBlock=some k→o≠some k) :
  w'.ownsRow base e size u n xs:=by
 refine ⟨h.1,?_⟩
 rcases h.2 with hn | ⟨k,cap,cur,rfl,hb,h3,h4⟩
 ·
  exact .inl hn
 ·
  exact .inr ⟨k,cap,cur,rfl,hb,(ho.block k (Array.getElem?_eq_some_iff.1 h3).1 (fun e=>h1 (by rw [e];rfl)) (fun e=>h2 k rfl e.symm)).trans h3,h4⟩
theorem own_block {w:World} {B n:Nat} {e:TypeId} {size:Nat} {u:Value} {xs:List Value} (h:w.ownsRow B e size u n xs):∀ x,u.ownBlock=some x→B≤x∧x < w.heap.size:=by
 intro x hx
 rcases h.2 with ⟨rfl,_⟩ | ⟨k,cap,cur,rfl,hb,_⟩
 ·
  cases hx
 ·
  obtain rfl:k=x:=by simpa [Value.ownBlock] using hx
  exact ⟨hb,own_lt h rfl⟩
structure Two (B gw gx:Nat) (v vx:Value) (sa sb:Option (List UInt8)) (w:World):Prop where
 a:WSt w B gw v sa
 b:RfS w B gx vx sb
 ne:gw≠gx
 v1:v.ownBlock≠some gx
 v2:vx.ownBlock≠some gw
 v3:∀ k,v.ownBlock=some k→vx.ownBlock≠some k
 v4:∀ x,v.ownBlock=some x→B≤x∧x < w.heap.size
 v5:∀ x,vx.ownBlock=some x→B≤x∧x < w.heap.size
theorem WSt.lies {w:World} {B g:Nat} {v:Value} {st:Option (List UInt8)} (h:WSt w B g v st):g < w.heap.size:=by
 cases st with
 | none=>exact h.1.lt
 | some l=>exact h.1.lt
theorem RfS.lies {w:World} {B g:Nat} {v:Value} {st:Option (List UInt8)} (h:RfS w B g v st):g < w.heap.size:=by
 cases st with
 | none=>exact h.1.lt
 | some l=>exact h.1.lt
theorem WSt.low {w:World} {B g:Nat} {v:Value} {st:Option (List UInt8)} (h:WSt w B g v st):B≤g:=by
 cases st with
 | none=>exact h.2
 | some l=>exact h.2.2.2
theorem RfS.low {w:World} {B g:Nat} {v:Value} {st:Option (List UInt8)} (h:RfS w B g v st):B≤g:=by
 cases st with
 | none=>exact h.2.2
 | some l=>exact h.2.2.2
theorem WSt.only {g':Nat} {w w':World} {o:Option Nat} {B g:Nat} {v:Value} {st:Option (List UInt8)} (h:WSt w B g v st) (ho:Only g' w w' o) (h1:g≠g') (h2:o≠some g) (h3:v.ownBlock≠some g') (h4:∀ k,v.ownBlock=some k→o≠some k):WSt w' B g v st:=by
 cases st with
 | none=>exact ⟨ho.keep h.1 h1 h2,h.2⟩
 | some l=>exact ⟨ho.keep h.1 h1 h2,own_only h.2.1 ho h3 h4,h.2.2⟩
theorem RfS.only {g':Nat} {w w':World} {o:Option Nat} {B g:Nat} {v:Value} {st:Option (List UInt8)} (h:RfS w B g v st) (ho:Only g' w w' o) (h1:g≠g') (h2:o≠some g) (h3:v.ownBlock≠some g') (h4:∀ k,v.ownBlock=some k→o≠some k):RfS w' B g v st:=by
 cases st with
 | none=>exact ⟨ho.keep h.1 h1 h2,h.2⟩
 | some l=>exact ⟨ho.keep h.1 h1 h2,own_only h.2.1 ho h3 h4,h.2.2⟩
theorem Two.below {B gw gx:Nat} {v vx:Value} {sa sb:Option (List UInt8)} {w w':World} (h:Two B gw gx v vx sa sb w) (hb:Below w.heap.size w w'):Two B gw gx v vx sa sb w' :=
 ⟨h.a.below hb,h.b.below hb,h.ne,h.v1,h.v2,h.v3,fun x hx=>⟨(h.v4 x hx).1,Nat.lt_of_lt_of_le (h.v4 x hx).2 hb.size⟩,fun x hx=>⟨(h.v5 x hx).1,Nat.lt_of_lt_of_le (h.v5 x hx).2 hb.size⟩⟩
theorem grown_only {w w':World} {o:Option Nat} (hg:w.grownBy w' o) (K:Nat):Only K w w' o:=⟨hg.os,hg.tape,hg.output,hg.size,fun k hk _ h=>hg.block k hk h⟩
theorem Two.grown {B gw gx:Nat} {v vx:Value} {sa sb:Option (List UInt8)} {w w':World} {o:Option Nat} (h:Two B gw gx v vx sa sb w) (hg:w.grownBy w' o) (h1:o≠some gw) (h2:o≠some gx) (h3:∀ k,v.ownBlock=some k→o≠some k) (h4:∀ k,vx.ownBlock=some k→o≠some k):Two B gw gx v vx sa sb w':=by
 have ho:=grown_only hg w.heap.size
 have ha:=h.a.lies
 have hb:=h.b.lies
 exact ⟨h.a.only ho (by omega) h1 (fun e=>by have:=(h.v4 _ e).2;omega) h3,h.b.only ho (by omega) h2 (fun e=>by have:=(h.v5 _ e).2;omega) h4,h.ne,h.v1,h.v2,h.v3,fun x hx=>⟨(h.v4 x hx).1,Nat.lt_of_lt_of_le (h.v4 x hx).2 hg.size⟩,fun x hx=>⟨(h.v5 x hx).1,Nat.lt_of_lt_of_le (h.v5 x hx).2 hg.size⟩⟩
def Turned (g:Nat) (v:Value) (B:Nat) (w w':World):Prop:=Only g w w' v.ownBlock∧B≤g∧∀ x,v.ownBlock=some x→B≤x∧x < w.heap.size
theorem Turned.below {g:Nat} {v:Value} {w0 w w':World} (h:Turned g v w0.heap.size w w') (hb:Below w0.heap.size w0 w):Below w0.heap.size w0 w' :=
 h.1.below hb h.2.1 (fun x hx=>(h.2.2 x hx).1)
def Newer (w:World) (v v':Value):Prop:=∀ x,v'.ownBlock=some x→v.ownBlock=some x ∨ w.heap.size≤x
theorem newer_of {w w':World} {v v':Value} (h:v'.ownBlock=v.ownBlock ∨ ∃ k,v'.ownBlock=some k∧w.heap.size≤k∧k < w'.heap.size):Newer w v v':=by
 intro x hx
 rcases h with e | ⟨k,e,h4,_⟩
 ·
  exact .inl (e ▸ hx)
 ·
  rw [e] at hx
  have:=Option.some.inj hx
  exact .inr (by omega)
theorem Two.put {B gw gx:Nat} {v vx:Value} {sa sa' sb:Option (List UInt8)} {w w':World} (h:Two B gw gx v vx sa sb w) (hm:MoreO w B gw v sa' w'):∃ v',Two B gw gx v' vx sa' sb w'∧Turned gw v B w w'∧Newer w v v':=by
 obtain ⟨v',h1,h2,h3⟩:=hm
 refine ⟨v',⟨h1,h.b.only h2 (Ne.symm h.ne) h.v1 h.v2 (fun k hk e=>h.v3 k e hk),h.ne,?_,h.v2,?_,?_,fun x hx=>⟨(h.v5 x hx).1,Nat.lt_of_lt_of_le (h.v5 x hx).2 h2.size⟩⟩,⟨h2,h.a.low,h.v4⟩,newer_of h3⟩
 ·
  rcases h3 with e | ⟨k,e,h4,h5⟩
  ·
   rw [e];exact h.v1
  ·
   rw [e];intro e2;have:=Option.some.inj e2;have:=h.b.lies;omega
 ·
  intro k hk
  rcases h3 with e | ⟨k2,e,h4,h5⟩
  ·
   exact h.v3 k (e ▸ hk)
  ·
   intro e2
   have:=(h.v5 k e2).2
   rw [e] at hk
   have:=Option.some.inj hk
   omega
 ·
  intro x hx
  rcases h3 with e | ⟨k,e,h4,h5⟩
  ·
   exact ⟨(h.v4 x (e ▸ hx)).1,Nat.lt_of_lt_of_le (h.v4 x (e ▸ hx)).2 h2.size⟩
  ·
   rw [e] at hx
   have:=Option.some.inj hx
   have:=h.a.low
   have:=h.a.lies
   omega
theorem Two.want {B gw gx:Nat} {v vx:Value} {sa sb sb':Option (List UInt8)} {w w':World} (h:Two B gw gx v vx sa sb w) (hm:RMoreO w B gx vx sb' w'):∃ v',Two B gw gx v v' sa sb' w'∧Turned gx vx B w w'∧Newer w vx v':=by
 obtain ⟨v',h1,h2,h3⟩:=hm
 refine ⟨v',⟨h.a.only h2 h.ne h.v2 h.v1 (fun k hk e=>h.v3 k hk e),h1,h.ne,h.v1,?_,?_,fun x hx=>⟨(h.v4 x hx).1,Nat.lt_of_lt_of_le (h.v4 x hx).2 h2.size⟩,?_⟩,⟨h2,h.b.low,h.v5⟩,newer_of h3⟩
 ·
  rcases h3 with e | ⟨k,e,h4,h5⟩
  ·
   rw [e];exact h.v2
  ·
   rw [e];intro e2;have:=Option.some.inj e2;have:=h.a.lies;omega
 ·
  intro k hk
  rcases h3 with e | ⟨k2,e,h4,h5⟩
  ·
   rw [e];exact h.v3 k hk
  ·
   intro e2
   have:=(h.v4 k hk).2
   rw [e] at e2
   have:=Option.some.inj e2
   omega
 ·
  intro x hx
  rcases h3 with e | ⟨k,e,h4,h5⟩
  ·
   exact ⟨(h.v5 x (e ▸ hx)).1,Nat.lt_of_lt_of_le (h.v5 x (e ▸ hx)).2 h2.size⟩
  ·
   rw [e] at hx
   have:=Option.some.inj hx
   have:=h.b.low
   have:=h.b.lies
   omega
theorem Turned.keep {g:Nat} {v:Value} {B:Nat} {w w':World} {k:Nat} {cs:Array Value} {t:TypeId} (h:Turned g v B w w') (hl:Lies w k cs t) (hg:k≠g) (ho:v.ownBlock≠some k):Lies w' k cs t:=h.1.keep hl hg ho
theorem Turned.own {g:Nat} {v:Value} {B:Nat} {w w':World} {base n:Nat} {u:Value} {xs:List Value} (h:Turned g v B w w') (ho:w.ownsRow base 5 1 u n xs) (hg:u.ownBlock≠some g) (h2:∀ k,u.ownBlock=some k→v.ownBlock≠some k):w'.ownsRow base 5 1 u n xs:=own_only ho h.1 hg h2
def Fits (ps:List PutD) (k:Nat) (st:Option (List UInt8)):Prop:=∀ l,st=some l→l.length≤400 * k+sumB ps k
end Go.Proofs.YtilbbemdinpjcaaGreat.W
