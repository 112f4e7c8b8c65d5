/-
  pack: the chapter's examples, as plain mathematics.
-/
import Derived.Test.YtilbbemdinpjcaaGreatJVq
import Derived.WalkKit
import Derived.ProofKit
import Derived.OpenShut
import Derived.Carry
import Derived.SizedLaws
import Derived.Deep.Slices
import Derived.ChangeSlices
import Derived.Test.YtilbbemdinpjcaaGreatJPo
import Derived.Test.YtilbbemdinpjcaaGreatJPw
import Derived.Test.YtilbbemdinpjcaaGreatJVl
import Derived.Test.YtilbbemdinpjcaaGreatJQo
set_option maxHeartbeats 16000000
namespace Go.Proofs.YtilbbemdinpjcaaGreat.P
set_option maxRecDepth 100000
open Go.ChangeShapes Go.WideShapes Go.ChangeAt Go.RowKit Go.Deep
theorem list_of {α:Type} (z:α) (P:Nat→α→Prop):∀ n,(∀ j,j < n→∃ b,P j b)→∃ l:List α,l.length=n∧∀ j,j < n→P j (l.getD j z)
 | 0,_=>⟨[],rfl,fun j hj=>absurd hj (by omega)⟩
 | n+1,h=>by
   obtain ⟨l,hl,hp⟩:=list_of z P n (fun j hj=>h j (by omega))
   obtain ⟨b,hb⟩:=h n (by omega)
   refine ⟨l ++ [b],by simp [hl],fun j hj => ?_⟩
   by_cases hjn:j < n
   · have:=hp j hjn
     rw [List.getD_eq_getElem?_getD,List.getElem?_append_left (by omega),← List.getD_eq_getElem?_getD]
     exact this
   · obtain rfl:j=n:=by omega
     rw [List.getD_eq_getElem?_getD,List.getElem?_append_right (by omega),hl]
     simpa using hb
theorem byte_of {z:Int} (h:(Lit.int .u8 z).wf=true):∃ b:UInt8,z=(b.toNat:Int):=by
 have hmin:IntKind.u8.min=0:=rfl
 have hmax:IntKind.u8.max=255:=rfl
 simp only [Lit.wf,Bool.and_eq_true,decide_eq_true_eq] at h
 refine ⟨UInt8.ofNat z.toNat,?_⟩
 have:(UInt8.ofNat z.toNat).toNat=z.toNat:=by simp;omega
 rw [this]
 omega
theorem int_of {a:Int} (h:(Lit.int .i64 a).wf=true):-9223372036854775808≤a∧a < 9223372036854775808:=by
 have hmin:IntKind.i64.min=-9223372036854775808:=rfl
 have hmax:IntKind.i64.max=9223372036854775807:=rfl
 simp only [Lit.wf,Bool.and_eq_true,decide_eq_true_eq] at h
 omega
theorem args_stay {H:Type} {enc:TypeId × Value→H} {W W':World} {t:TypeId} {v:Value} {d:DataW H} {ps:List MemPlace} (hr:Tryz.prog.readableRec t=true) (hrow:t < Tryz.prog.types.size)
  (h:DataW.Trod enc Tryz.prog W 0 (fun _=>true) true t v d ps) (hb:Below W.heap.size W W') (hlt:∀ x ∈ ps,x.block < W.heap.size):DataW.Trod enc Tryz.prog W' 0 (fun b=>decide (b < W.heap.size)) true t v d ps :=
 Below.trod (by kernel_rfl) hr hrow h hb hlt
theorem dc26:Tryz.prog.cellsOf 30=32:=by kernel_rfl
theorem dc5:Tryz.prog.cellsOf 5=1:=by kernel_rfl
theorem dc54:Tryz.prog.cellsOf 146=34:=by kernel_rfl
theorem dc24:Tryz.prog.cellsOf 27=2:=by kernel_rfl
theorem dc9:Tryz.prog.cellsOf 9=1:=by kernel_rfl
theorem dc2:Tryz.prog.cellsOf 2=1:=by kernel_rfl
theorem dc22:Tryz.prog.cellsOf 25=1:=by kernel_rfl
theorem txt_of (s:ByteArray):s=txt s.data.toList:=by
 show s=⟨s.data.toList.toArray⟩
 rw [Array.toArray_toList]
section
variable {H:Type} {enc:TypeId × Value→H} {W:World}
theorem hash_in {fuel:Nat} {cs:List Value} {x:DataW H × List MemPlace} (hf:DataW.trod enc Tryz.prog W 0 (fun _=>true) true fuel 30 cs=some x) :
  ∃ m:List UInt8,m.length=32∧cs=(B8 m).toList:=by
 obtain ⟨ys,k,_,_,hlen,hyl,hy⟩:=DataW.trod_array Tryz.underlying30 hf
 rw [dc26] at hlen
 have hcell:∀ j,j < 32→∃ b:UInt8,cs[j]? = some (.int .u8 b.toNat):=by
  intro j hj
  have h1:=hy j hj
  rw [dc5,Nat.mul_one] at h1
  have hone:(cs.drop j).take 1=[cs[j]'(by omega)]:=by
   rw [List.drop_eq_getElem_cons (by omega)];rfl
  rw [hone,List.getElem?_eq_getElem (by omega)] at h1
  obtain ⟨z,hz,_,hwf⟩:=DataW.trod_int Tryz.underlying5 h1
  obtain ⟨b,hb⟩:=byte_of hwf
  refine ⟨b,?_⟩
  rw [← hb,List.getElem?_eq_getElem (by omega),(List.cons.inj hz).1]
 obtain ⟨m,hm,hms⟩:=list_of (0:UInt8) (fun j x=>cs[j]? = some (.int .u8 x.toNat)) 32 hcell
 refine ⟨m,hm,List.ext_getElem? fun j => ?_⟩
 by_cases hj:j < 32
 ·
  rw [hms j hj,Array.getElem?_toList,B8_get m j (by omega)]
 ·
  rw [List.getElem?_eq_none (by omega),List.getElem?_eq_none (by rw [Array.length_toList,B8_size];omega)]
theorem cut34 (l:List Value) (h:l.length=34):l=(l.drop 0).take 32 ++ ((l.drop 32).take 1 ++ (l.drop 33).take 1):=by
 rw [List.drop_zero]
 have h1:(l.drop 33).take 1=l.drop 33:=List.take_of_length_le (by rw [List.length_drop];omega)
 have h2:l.drop 33=(l.drop 32).drop 1:=by rw [List.drop_drop]
 rw [h1,h2,List.take_append_drop,List.take_append_drop]
theorem asset_in {fuel:Nat} {cs:List Value} {x:DataW H × List MemPlace} (hf:DataW.trod enc Tryz.prog W 0 (fun _=>true) true fuel 146 cs=some x) :
  ∃ a:As,cs=(asC a).toList∧AsOk a:=by
 obtain ⟨ys,n,_,hx,hlen,hyl,hg⟩:=DataW.trod_struct Tryz.underlying146 hf
 rw [dc54] at hlen
 have hyl3:ys.length=3:=hyl
 have at_:=fun (j:Nat) (f:Field) (hj:j < 3) hfj=>(hg j f hfj).trans (List.getElem?_eq_getElem (show j < ys.length by omega))
 obtain ⟨hs,hl,e0⟩:=hash_in (at_ 0 _ (by omega) rfl)
 obtain ⟨s,e1,_,hsl⟩:=DataW.trod_string Tryz.underlying9 (at_ 1 _ (by omega) rfl)
 obtain ⟨n2,e2,_,w2⟩:=DataW.trod_int Tryz.underlying2 (at_ 2 _ (by omega) rfl)
 obtain ⟨hlo,hhi⟩:=int_of w2
 have f0:(cs.drop 0).take (Tryz.prog.cellsOf 30)=(B8 hs).toList:=e0
 have f1:(cs.drop 32).take (Tryz.prog.cellsOf 9)=[.string s]:=e1
 have f2:(cs.drop 33).take (Tryz.prog.cellsOf 2)=[.int .i64 n2]:=e2
 rw [dc26] at f0
 rw [dc9] at f1
 rw [dc2] at f2
 refine ⟨⟨(hs,s.data.toList),n2⟩,?_,hl,?_,hlo,hhi⟩
 ·
  rw [cut34 cs hlen,f0,f1,f2]
  show _=(B8 hs ++ (#[Value.string (txt s.data.toList),Value.int .i64 n2]:Array Value)).toList
  rw [← txt_of s]
  simp
 ·
  show s.data.toList.length≤maxLen
  have:s.data.toList.length=s.size:=by simp
  omega
theorem assets_in {fuel:Nat} {cs:List Value} {x:DataW H × List MemPlace} (hf:DataW.trod enc Tryz.prog W 0 (fun _=>true) true fuel 25 cs=some x) :
  ∃ (pa:Option Addr) (l:List As) (c:Nat),cs=[.slice pa l.length c]∧Row W pa l:=by
 rcases open_slice Tryz.underlying25 hf with ⟨hcs,_⟩ | ⟨a,len,cap,m,n,D,Pl,hcs,hle,hl,hm,hmm,hx,hi⟩
 ·
  exact ⟨none,[],0,hcs,⟨Nat.zero_le _,fun a ha=>absurd ha (by simp),fun h=>absurd h (by simp)⟩⟩
 ·
  simp only [if_true] at hmm
  subst hmm
  have each:∀ i,i < len→∃ q:As,AsOk q∧∀ j v,(asC q)[j]? = some v→W.cell? (a.add (i * 34+j))=some v:=by
   intro i hil
   obtain ⟨cs',hc,ht⟩:=hi i (by omega)
   rw [dc54] at hc
   obtain ⟨_,hcl,hat⟩:=World.cells?_some hc
   obtain ⟨q,rfl,hq⟩:=asset_in ht
   refine ⟨q,hq,fun j v hj => ?_⟩
   have hj34:j < 34:=by
    have:=(Array.getElem?_eq_some_iff.1 hj).1
    rwa [asC_size q hq.1] at this
   rw [← Go.Deep.add_add,hat j hj34,Array.getElem?_toList,hj]
  obtain ⟨xs,hpl,hps⟩:=list_of (⟨([],[]),0⟩:As) (fun i q=>AsOk q∧∀ j v,(asC q)[j]? = some v→W.cell? (a.add (i * 34+j))=some v) len each
  subst hpl
  have hget:∀ i q,xs[i]? = some q→AsOk q∧∀ j v,(asC q)[j]? = some v→W.cell? (a.add (i * 34+j))=some v:=fun i q hq=>by
   have h1:=hps i (List.getElem?_eq_some_iff.1 hq).1
   rw [List.getD_eq_getElem?_getD,hq] at h1
   exact h1
  refine ⟨some a,xs,m,hcs,by omega,fun q hq => ?_,fun hpos => ?_⟩
  ·
   obtain ⟨i,hi2⟩:=List.getElem?_of_mem hq
   exact (hget i q hi2).1
  ·
   obtain ⟨b,off,spot⟩:=a
   obtain ⟨hok0,h00⟩:=hget 0 _ (List.getElem?_eq_getElem hpos)
   have h0:=h00 0 _ (asC_get _ hok0.1 0 (by decide))
   have hspot:spot=none:=by simpa [Addr.add] using World.cell?_spot h0
   subst hspot
   refine ⟨b,off,rfl,block_lt_of_cell h0,fun i q hi2 j v hj => ?_⟩
   rw [Array.getElem?_toList] at hj
   have h2:=(hget i q hi2).2 j v hj
   rw [Addr.add_lit] at h2
   rw [show off+i * 34+j=off+(i * 34+j) by omega]
   exact h2
theorem cut2 {l:List Value} (h:l.length=2):l=(l.drop 0).take 1 ++ (l.drop 1).take 1:=by
 match l,h with
 | [a,b],_=>rfl
end
open Go.RowKit Go.Sort Go.Maps Go.ChangeShapes Go.WideShapes Go.ChangeAt Go.Deep
section
variable {H:Type} {enc:TypeId × Value→H} {W:World}
theorem assetsC_in {fuel:Nat} {cs:List Value} {x:DataW H × List MemPlace} (hf:DataW.trod enc Tryz.prog W 0 (fun _=>true) true fuel 25 cs=some x) :
  ∃ (pa:Option Addr) (l:List As) (c:Nat),cs=[.slice pa l.length c]∧Row W pa l∧(pa=none→c=0):=by
 obtain ⟨pa,l,c,e,hr⟩:=assets_in hf
 refine ⟨pa,l,c,e,hr,fun hn => ?_⟩
 rcases open_slice Tryz.underlying25 hf with ⟨hcs,_⟩ | ⟨a,len,cap,m,n,D,Pl,hcs,_⟩
 ·
  rw [e] at hcs
  simp only [List.cons.injEq,Value.slice.injEq,and_true] at hcs
  exact hcs.2.2
 ·
  rw [e,hn] at hcs
  simp at hcs
def Room (v:Va):Prop:=v.pa=none→v.c=0
theorem value_in {fuel:Nat} {cs:List Value} {x:DataW H × List MemPlace} (hf:DataW.trod enc Tryz.prog W 0 (fun _=>true) true fuel 27 cs=some x) :
  ∃ v:Va,cs=(vaC v).toList∧VaOk W v∧Room v:=by
 obtain ⟨ys,m,_,hx,hlen,hyl,hg⟩:=DataW.trod_struct Tryz.underlying27 hf
 rw [dc24] at hlen
 have hyl2:ys.length=2:=hyl
 have at_:=fun (j:Nat) (f:Field) (hj:j < 2) hfj=>(hg j f hfj).trans (List.getElem?_eq_getElem (show j < ys.length by omega))
 obtain ⟨n0,e0,_,w0⟩:=DataW.trod_int Tryz.underlying2 (at_ 0 _ (by omega) rfl)
 obtain ⟨pa,l,c,e1,hr,hc⟩:=assetsC_in (at_ 1 _ (by omega) rfl)
 obtain ⟨hlo,hhi⟩:=int_of w0
 have f0:(cs.drop 0).take (Tryz.prog.cellsOf 2)=[.int .i64 n0]:=e0
 have f1:(cs.drop 1).take (Tryz.prog.cellsOf 25)=[.slice pa l.length c]:=e1
 rw [dc2] at f0
 rw [dc22] at f1
 refine ⟨⟨n0,pa,l,c⟩,?_,⟨hlo,hhi,hr⟩,hc⟩
 have h2:=cut2 (l:=cs) hlen
 rw [f0,f1] at h2
 exact h2
end
end Go.Proofs.YtilbbemdinpjcaaGreat.P
namespace Go.Proofs.YtilbbemdinpjcaaGreat.P
set_option maxRecDepth 100000
open Go.ChangeShapes Go.WideShapes Go.ChangeAt Go.RowKit Go.Deep
section
variable {H:Type} {enc:TypeId × Value→H} {W:World}
theorem weights_in {P:Program} {e:TypeId} {d:DataW H} {n:Nat} (hn:n ∈ d.weights P e):∀ {l:List (DataW H)},d ∈ l→n ∈ DataW.weightsAll P e l
 | [],h=>by cases h
 | x :: l,h=>by
   unfold DataW.weightsAll
   rcases List.mem_cons.1 h with rfl | h
   · exact List.mem_append_left _ hn
   · exact List.mem_append_right _ (weights_in hn h)
theorem cut5 (l:List Value) (h:l.length=5):l=(l.drop 0).take 1 ++ ((l.drop 1).take 1 ++ ((l.drop 2).take 1 ++ ((l.drop 3).take 1 ++ (l.drop 4).take 1))):=by
 match l,h with
 | [a,b,c,d,e],_=>rfl
theorem word_of {a:Int} (h:(Lit.int .u64 a).wf=true):∃ n:Nat,a=(n:Int)∧n < 18446744073709551616:=by
 have hmin:IntKind.u64.min=0:=rfl
 have hmax:IntKind.u64.max=18446744073709551615:=rfl
 simp only [Lit.wf,Bool.and_eq_true,decide_eq_true_eq] at h
 exact ⟨a.toNat,by omega,by omega⟩
theorem pc_node:Tryz.prog.cellsOf 72=5:=by kernel_rfl
theorem pb_node:Tryz.prog.bytesOf 72=48:=by kernel_rfl
theorem pc_kind:Tryz.prog.cellsOf 67=1:=by kernel_rfl
theorem pc_u64:Tryz.prog.cellsOf 69=1:=by kernel_rfl
theorem pc_int:Tryz.prog.cellsOf 3=1:=by kernel_rfl
theorem node_in {fuel:Nat} {cs:List Value} {x:DataW H × List MemPlace} (hf:DataW.trod enc Tryz.prog W 0 (fun _=>true) true fuel 72 cs=some x) (hreach:∀ n ∈ x.1.weights Tryz.prog 72,n≤reachBytes) :
  ∃ n:T.Nd,cs=n.cells.toList∧NdIn n:=by
 obtain ⟨ys,m,_,hx,hlen,hyl,hg⟩:=DataW.trod_struct Tryz.underlying72 hf
 rw [pc_node] at hlen
 have hyl5:ys.length=5:=hyl
 have at_:=fun (j:Nat) (f:Field) (hj:j < 5) hfj=>(hg j f hfj).trans (List.getElem?_eq_getElem (show j < ys.length by omega))
 obtain ⟨n0,e0,_,w0⟩:=DataW.trod_int Tryz.underlying67 (at_ 0 _ (by omega) rfl)
 obtain ⟨n1,e1,_,w1⟩:=DataW.trod_int Tryz.underlying2 (at_ 1 _ (by omega) rfl)
 obtain ⟨n2,e2,_,w2⟩:=DataW.trod_int Tryz.underlying69 (at_ 2 _ (by omega) rfl)
 obtain ⟨s,e3,ed,hsl⟩:=DataW.trod_string Tryz.underlying9 (at_ 3 _ (by omega) rfl)
 obtain ⟨n4,e4,_,w4⟩:=DataW.trod_int Tryz.underlying3 (at_ 4 _ (by omega) rfl)
 obtain ⟨m2,rfl,hm2⟩:=word_of w2
 have hxl:s.size≤140737488355328:=by
  have hw:s.data.toList.length ∈ (ys[3].1).weights Tryz.prog 9:=by
   rw [ed,DataW.weights]
   exact List.mem_cons_self
  have:=hreach _ (by
   rw [hx,DataW.weights,Tryz.underlying72]
   exact DataW.weights_mem_each (j:=3) rfl (by rw [List.getElem?_map,List.getElem?_eq_getElem (by omega)];rfl) _ hw)
  have hr:reachBytes=140737488351232:=rfl
  rw [hr] at this
  have e:s.data.toList.length=s.size:=by simp
  omega
 refine ⟨⟨n0,n1,m2,s,n4⟩,?_,⟨int_of w0,int_of w1,hm2,hxl,int_of w4⟩⟩
 have f0:(cs.drop 0).take (Tryz.prog.cellsOf 67)=[.int .i64 n0]:=e0
 have f1:(cs.drop 1).take (Tryz.prog.cellsOf 2)=[.int .i64 n1]:=e1
 have f2:(cs.drop 2).take (Tryz.prog.cellsOf 69)=[.int .u64 m2]:=e2
 have f3:(cs.drop 3).take (Tryz.prog.cellsOf 9)=[.string s]:=e3
 have f4:(cs.drop 4).take (Tryz.prog.cellsOf 3)=[.int .i64 n4]:=e4
 rw [pc_kind] at f0
 rw [dc2] at f1
 rw [pc_u64] at f2
 rw [dc9] at f3
 rw [pc_int] at f4
 rw [cut5 cs hlen,f0,f1,f2,f3,f4]
 rfl
structure NsIn (W:World) (a:Option Addr) (ns:List T.Nd) (c:Nat):Prop where
 raw:T.TRaw W a ns
 ins:∀ x ∈ ns,NdIn x
 len:ns.length≤140737488355328
 cap:ns.length≤c
 room:a=none→c=0
theorem nodes_in {fuel:Nat} {cs:List Value} {x:DataW H × List MemPlace} (hf:DataW.trod enc Tryz.prog W 0 (fun _=>true) true fuel 22 cs=some x) (hreach:∀ n ∈ x.1.weights Tryz.prog 22,n≤reachBytes) :
  ∃ (a:Option Addr) (ns:List T.Nd) (c:Nat),cs=[.slice a ns.length c]∧NsIn W a ns c:=by
 rcases open_slice Tryz.underlying22 hf with ⟨hcs,_⟩ | ⟨a,len,cap,m,n,D,Pl,hcs,_,hl,hm,hmm,hx,hi⟩
 ·
  exact ⟨none,[],0,hcs,⟨fun h=>absurd h (by simp),fun x hx=>absurd hx (by simp),by simp,by simp,fun _=>rfl⟩⟩
 ·
  simp only [if_true] at hmm
  subst hmm
  have hd:x.1=.slice ((List.range len).map D) ((List.range (m - len)).map fun j=>D (len+j)):=by rw [hx]
  have hr:reachBytes=140737488351232:=rfl
  have hcapr:m * 48≤140737488351232:=by
   have:=hreach ((((List.range len).map D).length+((List.range (m - len)).map fun j=>D (len+j)).length) * 48) (by
    rw [hd,DataW.weights,Tryz.underlying22]
    simp only [pb_node]
    exact List.mem_cons_self)
   simp only [List.length_map,List.length_range] at this
   rw [hr] at this
   have e:len+(m - len)=m:=by omega
   rw [e] at this
   exact this
  have each:∀ i,i < len→∃ q:T.Nd,NdIn q∧∀ j v,q.cells[j]? = some v→W.cell? (a.add (i * 5+j))=some v:=by
   intro i hil
   obtain ⟨cs',hc,ht⟩:=hi i (by omega)
   rw [pc_node] at hc
   obtain ⟨_,hcl,hat⟩:=World.cells?_some hc
   obtain ⟨q,rfl,h1⟩:=node_in ht (fun n hn=>hreach n (by
    rw [hd,DataW.weights,Tryz.underlying22]
    exact List.mem_cons_of_mem _ (List.mem_append_left _ (weights_in hn (List.mem_map.2 ⟨i,List.mem_range.2 hil,rfl⟩)))))
   refine ⟨q,h1,fun j v hj => ?_⟩
   have hj5:j < 5:=by
    have:=(Array.getElem?_eq_some_iff.1 hj).1
    simpa [T.Nd.cells] using this
   rw [← Go.Deep.add_add,hat j hj5,Array.getElem?_toList,hj]
  obtain ⟨xs,hpl,hps⟩:=list_of (⟨0,0,0,⟨#[]⟩,0⟩:T.Nd) (fun i q=>NdIn q∧∀ j v,q.cells[j]? = some v→W.cell? (a.add (i * 5+j))=some v) len each
  subst hpl
  have hget:∀ i q,xs[i]? = some q→NdIn q∧∀ j v,q.cells[j]? = some v→W.cell? (a.add (i * 5+j))=some v:=fun i q hq=>by
   have h1:=hps i (List.getElem?_eq_some_iff.1 hq).1
   rw [List.getD_eq_getElem?_getD,hq] at h1
   exact h1
  refine ⟨some a,xs,m,hcs,⟨fun hpos => ?_,fun x hx => ?_,by omega,hl,fun h=>by cases h⟩⟩
  ·
   obtain ⟨b,off,spot⟩:=a
   have h0:=(hget 0 _ (List.getElem?_eq_getElem hpos)).2 0 _ rfl
   have hspot:spot=none:=by simpa [Addr.add] using World.cell?_spot h0
   subst hspot
   refine ⟨b,off,rfl,block_lt_of_cell h0,fun i hi2 j v hj => ?_⟩
   have h2:=(hget i _ (List.getElem?_eq_getElem hi2)).2 j v hj
   rw [Addr.add_lit] at h2
   rw [show off+i * 5+j=off+(i * 5+j) by omega]
   exact h2
  ·
   obtain ⟨i,hi2⟩:=List.getElem?_of_mem hx
   exact (hget i x hi2).1
end
end Go.Proofs.YtilbbemdinpjcaaGreat.P
namespace Go.Proofs.YtilbbemdinpjcaaGreat.P
set_option maxRecDepth 100000
open Go.ChangeShapes Go.WideShapes Go.ChangeAt Go.RowKit Go.Deep
section
variable {H:Type} {enc:TypeId × Value→H} {W:World}
theorem pc_term:Tryz.prog.cellsOf 24=1:=by kernel_rfl
theorem pc_nodes:Tryz.prog.cellsOf 22=1:=by kernel_rfl
theorem pc_addr:Tryz.prog.cellsOf 32=33:=by kernel_rfl
theorem pc_out:Tryz.prog.cellsOf 35=69:=by kernel_rfl
theorem pc_ref:Tryz.prog.cellsOf 37=33:=by kernel_rfl
theorem pc_en:Tryz.prog.cellsOf 81=102:=by kernel_rfl
theorem pc_datum:Tryz.prog.cellsOf 33=1:=by kernel_rfl
theorem pc_bool:Tryz.prog.cellsOf 4=1:=by kernel_rfl
theorem wt_agg {t:TypeId} {fs:Array Field} (ht:Tryz.prog.underlying t=some (.struct fs)) {ys:List (DataW H × List MemPlace)} {x:DataW H × List MemPlace} {q:List MemPlace} (hx:x=(.agg (ys.map Prod.fst),q)) (j:Nat) (f:Field) (hf:fs[j]? = some f) (hj:j < ys.length) (h:∀ n ∈ x.1.weights Tryz.prog t,n≤reachBytes):∀ n ∈ (ys[j].1).weights Tryz.prog f.type,n≤reachBytes:=fun n hn=>h n (by
 rw [hx,DataW.weights,ht]
 exact DataW.weights_mem_each (j:=j) (by rw [List.getElem?_map,Array.getElem?_toList,hf];rfl) (by rw [List.getElem?_map,List.getElem?_eq_getElem hj];rfl) _ hn)
theorem term_in {fuel:Nat} {cs:List Value} {x:DataW H × List MemPlace} (hf:DataW.trod enc Tryz.prog W 0 (fun _=>true) true fuel 24 cs=some x) (hreach:∀ n ∈ x.1.weights Tryz.prog 24,n≤reachBytes) :
  ∃ (a:Option Addr) (ns:List T.Nd) (c:Nat),cs=[.slice a ns.length c]∧NsIn W a ns c:=by
 obtain ⟨ys,m,_,hx,hlen,hyl,hg⟩:=DataW.trod_struct Tryz.underlying24 hf
 rw [pc_term] at hlen
 have hyl1:ys.length=1:=hyl
 have h0:=(hg 0 _ rfl).trans (List.getElem?_eq_getElem (show 0 < ys.length by omega))
 obtain ⟨a,ns,c,e0,hn⟩:=nodes_in h0 (wt_agg Tryz.underlying24 hx 0 _ rfl (by omega) hreach)
 have e1:(cs.drop 0).take (Tryz.prog.cellsOf 22)=[.slice a ns.length c]:=e0
 rw [pc_nodes,List.drop_zero,List.take_of_length_le (by omega)] at e1
 exact ⟨a,ns,c,e1,hn⟩
theorem cut_two {l:List Value} (a b:Nat) (h:l.length=a+b):l=(l.drop 0).take a ++ (l.drop a).take b:=by
 rw [List.drop_zero,List.take_of_length_le (l:=l.drop a) (by rw [List.length_drop];omega),List.take_append_drop]
theorem ref_in {fuel:Nat} {cs:List Value} {x:DataW H × List MemPlace} (hf:DataW.trod enc Tryz.prog W 0 (fun _=>true) true fuel 37 cs=some x) :
  ∃ r:Rf,cs=(refC r).toList∧RfOk r:=by
 obtain ⟨ys,m,_,hx,hlen,hyl,hg⟩:=DataW.trod_struct Tryz.underlying37 hf
 rw [pc_ref] at hlen
 have hyl2:ys.length=2:=hyl
 have at_:=fun (j:Nat) (f:Field) (hj:j < 2) hfj=>(hg j f hfj).trans (List.getElem?_eq_getElem (show j < ys.length by omega))
 obtain ⟨hs,hl,e0⟩:=hash_in (at_ 0 _ (by omega) rfl)
 obtain ⟨n1,e1,_,w1⟩:=DataW.trod_int Tryz.underlying3 (at_ 1 _ (by omega) rfl)
 obtain ⟨hlo,hhi⟩:=int_of w1
 have f0:(cs.drop 0).take (Tryz.prog.cellsOf 30)=(B8 hs).toList:=e0
 have f1:(cs.drop 32).take (Tryz.prog.cellsOf 3)=[.int .i64 n1]:=e1
 rw [dc26] at f0
 rw [pc_int] at f1
 refine ⟨⟨hs,n1⟩,?_,hl,hlo,hhi⟩
 rw [cut_two 32 1 hlen,f0,f1]
 simp [refC]
theorem addr_in {fuel:Nat} {cs:List Value} {x:DataW H × List MemPlace} (hf:DataW.trod enc Tryz.prog W 0 (fun _=>true) true fuel 32 cs=some x) :
  ∃ (b:Bool) (ah:List UInt8),cs=(adC b ah).toList∧ah.length=32:=by
 obtain ⟨ys,m,_,hx,hlen,hyl,hg⟩:=DataW.trod_struct Tryz.underlying32 hf
 rw [pc_addr] at hlen
 have hyl2:ys.length=2:=hyl
 have at_:=fun (j:Nat) (f:Field) (hj:j < 2) hfj=>(hg j f hfj).trans (List.getElem?_eq_getElem (show j < ys.length by omega))
 obtain ⟨b,e0,_⟩:=DataW.trod_bool Tryz.underlying4 (at_ 0 _ (by omega) rfl)
 obtain ⟨hs,hl,e1⟩:=hash_in (at_ 1 _ (by omega) rfl)
 have f0:(cs.drop 0).take (Tryz.prog.cellsOf 4)=[.bool b]:=e0
 have f1:(cs.drop 1).take (Tryz.prog.cellsOf 30)=(B8 hs).toList:=e1
 rw [pc_bool] at f0
 rw [dc26] at f1
 refine ⟨b,hs,?_,hl⟩
 rw [cut_two 1 32 hlen,f0,f1]
 simp [adC]
theorem cut_out {l:List Value} (h:l.length=69):l=(l.drop 0).take 33 ++ ((l.drop 33).take 2 ++ ((l.drop 35).take 1 ++ ((l.drop 36).take 32 ++ (l.drop 68).take 1))):=by
 have h5:(l.drop 68).take 1=(l.drop 36).drop 32:=by rw [List.drop_drop,List.take_of_length_le (by rw [List.length_drop];omega)]
 have h4:l.drop 36=(l.drop 35).drop 1:=by rw [List.drop_drop]
 have h3:l.drop 35=(l.drop 33).drop 2:=by rw [List.drop_drop]
 rw [h5,List.take_append_drop,h4,List.take_append_drop,h3,List.take_append_drop,List.drop_zero,List.take_append_drop]
theorem out_in {fuel:Nat} {cs:List Value} {x:DataW H × List MemPlace} (hf:DataW.trod enc Tryz.prog W 0 (fun _=>true) true fuel 35 cs=some x) (hreach:∀ n ∈ x.1.weights Tryz.prog 35,n≤reachBytes) :
  ∃ o:Ot,cs=(otC o).toList∧OtRaw W o∧(∀ y ∈ o.ns,NdIn y)∧I64 o.kind∧Room o.v∧(o.tp=none→o.tc=0):=by
 obtain ⟨ys,m,_,hx,hlen,hyl,hg⟩:=DataW.trod_struct Tryz.underlying35 hf
 rw [pc_out] at hlen
 have hyl5:ys.length=5:=hyl
 have at_:=fun (j:Nat) (f:Field) (hj:j < 5) hfj=>(hg j f hfj).trans (List.getElem?_eq_getElem (show j < ys.length by omega))
 obtain ⟨b,ah,e0,hah⟩:=addr_in (at_ 0 _ (by omega) rfl)
 obtain ⟨v,e1,hv,hrm⟩:=value_in (at_ 1 _ (by omega) rfl)
 obtain ⟨kd,e2,_,w2⟩:=DataW.trod_int Tryz.underlying33 (at_ 2 _ (by omega) rfl)
 obtain ⟨dh,hdh,e3⟩:=hash_in (at_ 3 _ (by omega) rfl)
 obtain ⟨a,ns,c,e4,hn⟩:=term_in (at_ 4 _ (by omega) rfl) (wt_agg Tryz.underlying35 hx 4 _ rfl (by omega) hreach)
 have f0:(cs.drop 0).take (Tryz.prog.cellsOf 32)=(adC b ah).toList:=e0
 have f1:(cs.drop 33).take (Tryz.prog.cellsOf 27)=(vaC v).toList:=e1
 have f2:(cs.drop 35).take (Tryz.prog.cellsOf 33)=[.int .i64 kd]:=e2
 have f3:(cs.drop 36).take (Tryz.prog.cellsOf 30)=(B8 dh).toList:=e3
 have f4:(cs.drop 68).take (Tryz.prog.cellsOf 24)=[.slice a ns.length c]:=e4
 rw [pc_addr] at f0
 rw [dc24] at f1
 rw [pc_datum] at f2
 rw [dc26] at f3
 rw [pc_term] at f4
 refine ⟨⟨b,ah,v,kd,dh,a,ns,c⟩,?_,⟨hah,hv,hdh,hn.raw,fun y hy=>(hn.ins y hy).txt,hn.len,fun y hy=>by have:=(hn.ins y hy).kids.2;omega,hn.cap⟩,hn.ins,int_of w2,hrm,hn.room⟩
 rw [cut_out hlen,f0,f1,f2,f3,f4]
 simp [otC,adC,vaC,vC]
structure EnIn (e:En):Prop where
 ins:∀ y ∈ e.o.ns,NdIn y
 kind:I64 e.o.kind
 room:Room e.o.v
 troom:e.o.tp=none→e.o.tc=0
theorem entry_in {fuel:Nat} {cs:List Value} {x:DataW H × List MemPlace} (hf:DataW.trod enc Tryz.prog W 0 (fun _=>true) true fuel 81 cs=some x) (hreach:∀ n ∈ x.1.weights Tryz.prog 81,n≤reachBytes) :
  ∃ e:En,cs=(enC e).toList∧EnRaw W e∧EnIn e:=by
 obtain ⟨ys,m,_,hx,hlen,hyl,hg⟩:=DataW.trod_struct Tryz.underlying81 hf
 rw [pc_en] at hlen
 have hyl2:ys.length=2:=hyl
 have at_:=fun (j:Nat) (f:Field) (hj:j < 2) hfj=>(hg j f hfj).trans (List.getElem?_eq_getElem (show j < ys.length by omega))
 obtain ⟨r,e0,hr⟩:=ref_in (at_ 0 _ (by omega) rfl)
 obtain ⟨o,e1,ho,h1,h2,h3,h4⟩:=out_in (at_ 1 _ (by omega) rfl) (wt_agg Tryz.underlying81 hx 1 _ rfl (by omega) hreach)
 have f0:(cs.drop 0).take (Tryz.prog.cellsOf 37)=(refC r).toList:=e0
 have f1:(cs.drop 33).take (Tryz.prog.cellsOf 35)=(otC o).toList:=e1
 rw [pc_ref] at f0
 rw [pc_out] at f1
 refine ⟨⟨r,o⟩,?_,⟨hr,ho⟩,⟨h1,h2,h3,h4⟩⟩
 rw [cut_two 33 69 hlen,f0,f1]
 simp [enC]
theorem entries_in {fuel:Nat} {cs:List Value} {x:DataW H × List MemPlace} (hf:DataW.trod enc Tryz.prog W 0 (fun _=>true) true fuel 38 cs=some x) (hreach:∀ n ∈ x.1.weights Tryz.prog 38,n≤reachBytes) :
  ∃ (pa:Option Addr) (es:List En) (c:Nat),cs=[.slice pa es.length c]∧RowER W pa es∧(∀ e ∈ es,EnIn e)∧es.length≤c∧(pa=none→c=0):=by
 rcases open_slice Tryz.underlying38 hf with ⟨hcs,_⟩ | ⟨a,len,cap,m,n,D,Pl,hcs,hle,hl,hm,hmm,hx,hi⟩
 ·
  exact ⟨none,[],0,hcs,⟨Nat.zero_le _,fun h=>absurd h (by simp)⟩,fun e he=>by simp at he,Nat.le_refl _,fun _=>rfl⟩
 ·
  simp only [if_true] at hmm
  subst hmm
  have hd:x.1=.slice ((List.range len).map D) ((List.range (m - len)).map fun j=>D (len+j)):=by rw [hx]
  have each:∀ i,i < len→∃ q:En,(EnRaw W q∧EnIn q)∧∀ j v,(enC q)[j]? = some v→W.cell? (a.add (i * 102+j))=some v:=by
   intro i hil
   obtain ⟨cs',hc,ht⟩:=hi i (by omega)
   rw [pc_en] at hc
   obtain ⟨_,hcl,hat⟩:=World.cells?_some hc
   obtain ⟨q,rfl,hq,hin⟩:=entry_in ht (fun n hn=>hreach n (by
    rw [hd,DataW.weights,Tryz.underlying38]
    exact List.mem_cons_of_mem _ (List.mem_append_left _ (weights_in hn (List.mem_map.2 ⟨i,List.mem_range.2 hil,rfl⟩)))))
   refine ⟨q,⟨hq,hin⟩,fun j v hj => ?_⟩
   have hj2:j < 102:=by
    have:=(Array.getElem?_eq_some_iff.1 hj).1
    unfold enC at this
    rw [Array.size_append,refC_size _ hq.r.1,otC_size _ hq.o.ah hq.o.dh] at this
    exact this
   rw [← Go.Deep.add_add,hat j hj2,Array.getElem?_toList,hj]
  obtain ⟨xs,hpl,hps⟩:=list_of (⟨⟨[],0⟩,⟨false,[],⟨0,none,[],0⟩,0,[],none,[],0⟩⟩:En) (fun i q=>(EnRaw W q∧EnIn q)∧∀ j v,(enC q)[j]? = some v→W.cell? (a.add (i * 102+j))=some v) len each
  subst hpl
  have hget:∀ i q,xs[i]? = some q→(EnRaw W q∧EnIn q)∧∀ j v,(enC q)[j]? = some v→W.cell? (a.add (i * 102+j))=some v:=fun i q hq=>by
   have h1:=hps i (List.getElem?_eq_some_iff.1 hq).1
   rw [List.getD_eq_getElem?_getD,hq] at h1
   exact h1
  refine ⟨some a,xs,m,hcs,⟨by omega,fun hpos => ?_⟩,fun q hq => ?_,hl,fun e=>by cases e⟩
  ·
   obtain ⟨b,off,spot⟩:=a
   obtain ⟨⟨hok0,_⟩,h00⟩:=hget 0 _ (List.getElem?_eq_getElem hpos)
   have h0:=h00 0 _ (show (enC xs[0])[0]? = some (.int .u8 (xs[0].r.tx.getD 0 0).toNat) by unfold enC;rw [Array.getElem?_append_left (by rw [refC_size _ hok0.r.1];omega)];exact refC_get _ hok0.r.1 0 (by omega))
   have hspot:spot=none:=by simpa [Addr.add] using World.cell?_spot h0
   subst hspot
   refine ⟨b,off,rfl,block_lt_of_cell h0,fun i q hi2=>⟨fun j v hj => ?_,(hget i q hi2).1.1⟩⟩
   rw [Array.getElem?_toList] at hj
   have h2:=(hget i q hi2).2 j v hj
   rw [Addr.add_lit] at h2
   rw [show off+i * 102+j=off+(i * 102+j) by omega]
   exact h2
  ·
   obtain ⟨i,hi2⟩:=List.getElem?_of_mem hq
   exact (hget i q hi2).1.2
end
end Go.Proofs.YtilbbemdinpjcaaGreat.P
namespace Go.Proofs.YtilbbemdinpjcaaGreat.P
set_option maxRecDepth 100000
open Go.RowKit Go.Sort
theorem keyed_ref:Tryz.prog.keyTypeAt 5 37=true:=by kernel_rfl
theorem formed_ref (r:Rf) (h:r.tx.length=32):(Value.agg (refC r)).formed Tryz.prog 37=true:=by
 obtain ⟨p,x⟩:=r
 obtain ⟨a0,a1,a2,a3,a4,a5,a6,a7,a8,a9,a10,a11,a12,a13,a14,a15,a16,a17,a18,a19,a20,a21,a22,a23,a24,a25,a26,a27,a28,a29,a30,a31,rfl⟩:=list32 p h
 kernel_rfl
theorem lit_int (d:Nat) (x:Int) (h1:-9223372036854775808≤x) (h2:x < 9223372036854775808):Tryz.prog.keyLits (d+1) 3 [.int .i64 x]=some [Lit.int .i64 x]:=by
 have hmin:IntKind.i64.min=-9223372036854775808:=rfl
 have hmax:IntKind.i64.max=9223372036854775807:=rfl
 have hw:(Lit.int .i64 x).wf=true:=by
  simp only [Lit.wf,Bool.and_eq_true,decide_eq_true_eq]
  omega
 unfold Program.keyLits
 simp [Tryz.underlying3,hw]
theorem lits_ref (d:Nat) (r:Rf) (h:RfOk r):Tryz.prog.keyLits (d+3) 37 (refC r).toList=some ((r.tx.map fun b=>Lit.int .u8 b.toNat) ++ [Lit.int .i64 r.place]):=by
 have hl:(B8 r.tx).toList.length=32:=by rw [Array.length_toList,B8_size,h.1]
 have e:(refC r).toList=(B8 r.tx).toList ++ [.int .i64 r.place]:=by simp [refC]
 rw [e]
 unfold Program.keyLits
 simp only [Tryz.underlying37,pc_ref,List.length_append,hl,List.length_cons,List.length_nil]
 rw [if_pos ⟨trivial,by kernel_rfl⟩]
 simp only [List.mapM_cons,List.mapM_nil,dc26,pc_int,List.drop_zero,List.take_left' hl,List.drop_left' hl]
 rw [litsH d r.tx h.1]
 simp [lit_int (d+1) r.place h.2.1 h.2.2]
theorem litR_inj {a b:Rf} (h:(a.tx.map fun b=>Lit.int .u8 b.toNat) ++ [Lit.int .i64 a.place]=(b.tx.map fun b=>Lit.int .u8 b.toNat) ++ [Lit.int .i64 b.place]):a=b:=by
 obtain ⟨h1,h2⟩:=List.append_inj' h rfl
 obtain ⟨ta,pa⟩:=a
 obtain ⟨tb,pb⟩:=b
 simp only at h1 h2
 have e1:ta=tb:=map_u8_inj h1
 have e2:pa=pb:=by simpa using h2
 rw [e1,e2]
instance:DecidableEq Rf:=fun a b=>decidable_of_iff (a.tx=b.tx∧a.place=b.place) ⟨fun ⟨h,k⟩=>by cases a;cases b;simp only at h k;rw [h,k],fun h=>by rw [h];exact ⟨rfl,rfl⟩⟩
theorem eq_ref (w:World) (a b:Rf) (ha:RfOk a) (hb:RfOk b):(binOp .eql 37 (.agg (refC a)) (.agg (refC b))).run Tryz.prog w=.ok (.bool (decide (a=b))) w:=by
 obtain ⟨r,hr,hi⟩:=run_equalIn_deep 9995 5 37 keyed_ref w 5 5 (.agg (refC a)) (.agg (refC b)) _ _ (formed_ref a ha.1) (formed_ref b hb.1) (lits_ref 2 a ha) (lits_ref 2 b hb)
 have e:r=decide (a=b):=by
  rw [Bool.eq_iff_iff,decide_eq_true_iff,hi]
  exact ⟨litR_inj,fun e=>by rw [e]⟩
 subst e
 have hr2:(Op.equalIn 10000 37 (.agg (refC a)) (.agg (refC b))).run Tryz.prog w=.ok (decide (a=b)) w:=hr
 have he:(Op.equal 37 (.agg (refC a)) (.agg (refC b))).run Tryz.prog w=.ok (decide (a=b)) w:=hr2
 simp [binOp,go_sem,he]
end Go.Proofs.YtilbbemdinpjcaaGreat.P
namespace Go.Proofs.YtilbbemdinpjcaaGreat.P
set_option maxRecDepth 100000
open Go.RowKit Go.Sort
def exN:List T.Nd:=[⟨4,0,0,⟨#[]⟩,2⟩,⟨1,1,0,⟨#[]⟩,0⟩,⟨2,0,0,⟨#[97,98]⟩,0⟩]
def exC:Array Value:=#[.int .i64 4,.int .i64 0,.int .u64 0,.string ⟨#[]⟩,.int .i64 2,.int .i64 1,.int .i64 1,.int .u64 0,.string ⟨#[]⟩,.int .i64 0,.int .i64 2,.int .i64 0,.int .u64 0,.string ⟨#[97,98]⟩,.int .i64 0]
theorem ex_at {w:World} {g:Nat} (h:Lies w g exC 72):T.TAt w (some ⟨g,0,none⟩) exN:=by
 refine ⟨fun _=>⟨g,0,rfl,h.lt,fun j hj i v hv => ?_⟩,by decide,by decide⟩
 rw [Nat.zero_add]
 refine h.cell (j * 5+i) ?_
 have hi:i < 5:=by
  have:=(Array.getElem?_eq_some_iff.1 hv).1
  simpa [T.Nd.cells] using this
 have hj3:j < 3:=hj
 have key:exC[j * 5+i]? = (exN[j]).cells[i]? := by
  match j,hj3,i,hi with
  | 0,_,0,_=>rfl
  | 0,_,1,_=>rfl
  | 0,_,2,_=>rfl
  | 0,_,3,_=>rfl
  | 0,_,4,_=>rfl
  | 1,_,0,_=>rfl
  | 1,_,1,_=>rfl
  | 1,_,2,_=>rfl
  | 1,_,3,_=>rfl
  | 1,_,4,_=>rfl
  | 2,_,0,_=>rfl
  | 2,_,1,_=>rfl
  | 2,_,2,_=>rfl
  | 2,_,3,_=>rfl
  | 2,_,4,_=>rfl
 rw [key]
 exact hv
theorem list_any (w:World):Calls Tryz.prog 48 #[] w fun e w'=>∃ g,e=.returned (.agg #[.slice (some ⟨g,0,none⟩) 3 3])∧T.TAt w' (some ⟨g,0,none⟩) exN∧w.heap.size≤g∧g < w'.heap.size∧Below w.heap.size w w':=by
 obtain ⟨hA,hb⟩:=box_one w (.slice none 0 0) 24
 go_enter Tryz.func48,Tryz.ntmps48
 go_upto_region 1 with fail
 generalize w.alloc (.cells #[.slice none 0 0] 24)=W0 at hA hb ⊢
 obtain ⟨r,hr⟩:∃ r,r=w.heap.size:=⟨_,rfl⟩
 rw [← hr] at hA ⊢
 have HR:=Hj hr
 clear hr
 have hL:=Lies.new W0 exC 72
 have hb1:Below W0.heap.size W0 (W0.alloc (.cells exC 72)):=(Below.refl _ _).alloc (Nat.le_refl _) _
 have hA1:=hA.below hb1 hA.lt
 unfold exC at hL hb1 hA1
 have c0:=hA1.cell 0 (v:=.slice none 0 0) rfl
 have f0:=hA1.free 0
 have HA:=Hj (Aj hA1 (Aj hL (Aj hb hb1)))
 have hS:=Hj (hA1.set 0 (.slice (some ⟨W0.heap.size,0,none⟩) 3 3))
 have HL:=Hj hA.lt
 clear hA1 hL hb hb1 hA
 go_wp2_with fail
 refine bodyPost_ret (v:=.agg #[.slice (some ⟨W0.heap.size,0,none⟩) 3 3]) (results_cell_row (p:=0) (ty:=24) (by kernel_rfl) _ _ r 24 #[.slice (some ⟨W0.heap.size,0,none⟩) 3 3] (0,0) _ rfl hS.out Tryz.underlying24 rfl (by kernel_rfl)) rfl ?_
 have hne:W0.heap.size≠r:=by have:=HL.out;omega
 have hl:=(heap_setCell_other (W0.alloc (.cells #[.int .i64 4,.int .i64 0,.int .u64 0,.string ⟨#[]⟩,.int .i64 2,.int .i64 1,.int .i64 1,.int .u64 0,.string ⟨#[]⟩,.int .i64 0,.int .i64 2,.int .i64 0,.int .u64 0,.string ⟨#[97,98]⟩,.int .i64 0] 72)) ⟨r,0,none⟩ W0.heap.size (.slice (some ⟨W0.heap.size,0,none⟩) 3 3) hne).trans HA.out.2.1
 refine ⟨W0.heap.size,rfl,ex_at hl,HA.out.2.2.1.size,Lies.lt (cs:=exC) (t:=72) hl,?_⟩
 exact below_setCell (HA.out.2.2.1.trans (HA.out.2.2.2.mono HA.out.2.2.1.size)) ⟨r,0,none⟩ _ (by rw [HR.out];exact Nat.le_refl _)
end Go.Proofs.YtilbbemdinpjcaaGreat.P
namespace Go.Proofs.YtilbbemdinpjcaaGreat.P
set_option maxRecDepth 100000
open Go.RowKit Go.Sort
def exB:List UInt8:=[4,0,2,1,0,0,0,0,0,0,0,1,2,0,2,97,98]
theorem ex_right:T.rightB exN=true:=by kernel_rfl
theorem ex_put:termS (some []) exN=some exB:=by decide
theorem ex_get:decT exB 100 1 [] (some 0)=some (exN,17):=by rfl
def exO:Ot:=⟨false,zeroH,⟨5,none,[],0⟩,0,zeroH,none,[],0⟩
theorem ex_long:sz (if rightOB exO then outS (some []) exO else none)=44:=by decide
theorem ex_ok (w:World):OtOk w exO:=⟨rfl,⟨by decide,by decide,Nat.zero_le _,fun a ha=>(by cases ha),fun h=>absurd h (by decide)⟩,rfl,⟨fun h=>absurd h (by decide),by decide,fun x hx=>(by cases hx)⟩,Nat.le_refl _⟩
end Go.Proofs.YtilbbemdinpjcaaGreat.P
