/-
  pack: what things put to a writer, as plain data, and how much that is.
-/
import Derived.Test.YtilbbemdinpjcaaGreatJPi
import Derived.Test.YtilbbemdinpjcaaGreatJVq
import Derived.Test.YtilbbemdinpjcaaGreatJWWantSt
set_option maxHeartbeats 16000000
namespace Go.Proofs.YtilbbemdinpjcaaGreat.P
set_option maxRecDepth 100000
open Go.RowKit Go.Sort
structure EnRaw (w:World) (e:En):Prop where
 r:RfOk e.r
 o:OtRaw w e.o
theorem EnRaw.below {w w':World} {e:En} {B:Nat} (h:EnRaw w e) (hb:Below B w w') (hB:w.heap.size≤B):EnRaw w' e:=⟨h.r,h.o.below hb hB⟩
def HasER (w:World) (g off:Nat) (es:List En):Prop:=∀ (i:Nat) (e:En),es[i]? = some e→w.rangeAt g (off+i * 102) (enC e).toList∧EnRaw w e
theorem HasER.below {B:Nat} {w w':World} {g off:Nat} {es:List En} (h:HasER w g off es) (hb:Below B w w') (hg:g < B) (hB:w.heap.size≤B):HasER w' g off es :=
 fun i e hi=>⟨fun j v hj=>(hb.cell (p:=⟨g,off+i * 102+j,none⟩) hg).trans ((h i e hi).1 j v hj),(h i e hi).2.below hb hB⟩
def RowER (w:World) (pa:Option Addr) (es:List En):Prop:=es.length≤maxLen∧(0 < es.length→∃ g off,pa=some ⟨g,off,none⟩∧g < w.heap.size∧HasER w g off es)
def cntE (es:List En):Nat:=(es.map fun e=>1+cntO e.o).sum
theorem cntE_take {es:List En} {k:Nat} {e:En} (h:es[k]? = some e):cntE (es.take (k+1))=cntE (es.take k)+(1+cntO e.o):=by
 unfold cntE
 rw [List.take_add_one,h,List.map_append,List.sum_append]
 simp
theorem cntE_mem:∀ {es:List En} {e:En},e ∈ es→cntO e.o≤cntE es
 | d :: es,e,h=>by
   have e1:cntE (d :: es)=1+cntO d.o+cntE es:=by simp [cntE]
   rw [e1]
   rcases List.mem_cons.1 h with rfl | h
   · omega
   · have:=cntE_mem h
     omega
theorem RowER.small {w:World} {pa:Option Addr} {es:List En} (h:RowER w pa es) (hc:cntE es≤1000000):RowE w pa es:=⟨h.1,fun h0=>by
 obtain ⟨g,off,h1,h2,h3⟩:=h.2 h0
 exact ⟨g,off,h1,h2,fun i e hi=>⟨(h3 i e hi).1,(h3 i e hi).2.r,(h3 i e hi).2.o.small (Nat.le_trans (cntE_mem (List.mem_of_getElem? hi)) hc)⟩⟩⟩
theorem enC_outR {e:En} (h:e.r.tx.length=32) (j:Nat) (v:Value) (hv:(otC e.o).toList[j]? = some v):(enC e).toList[33+j]? = some v:=by
 have hl:(refC e.r).toList.length=33:=by rw [Array.length_toList,refC_size _ h]
 unfold enC
 rw [Array.toList_append,List.getElem?_append_right (by omega),hl,Nat.add_sub_cancel_left]
 exact hv
theorem entriesOf_any (w:World) (pa:Option Addr) (es:List En) (c lim:Nat) (hlim:lim≤1000000) (h:RowER w pa es) :
  Calls Tryz.prog 40 #[.slice pa es.length c,.int .i64 (lim:Int)] w fun e w'=>CntRes (cntE es) lim 800000000000000000 e∧Below w.heap.size w w':=by
 obtain ⟨N,hN⟩:∃ N,N=es.length:=⟨_,rfl⟩
 have hli:(N:Int)≤9223372036854775807:=by have:=h.1;unfold maxLen at this;omega
 have hlm:(lim:Int)≤1000000:=by omega
 rw [← hN]
 have H:=Hj (Aj h (Aj hlim hN))
 clear h hlim hN
 go_enter Tryz.func40,Tryz.ntmps40
 go_wp2_with fail
 go_loopw [5,6] (fun s i W=>∃ (k n:Nat),k≤N∧s=.int .i64 n∧i=.int .i64 k∧Below w.heap.size w W∧(n:Int)≤800000000000000000∧((n:Int)≤(lim:Int)→n=cntE (es.take k))) (fun _ i _=>N - (intOf i).toNat)
 case atStart=>exact ⟨0,0,Nat.zero_le _,rfl,rfl,Below.refl _ _,by omega,fun _=>rfl⟩
 case round =>
  obtain ⟨k,n,hk,rfl,rfl,hb,hn0,hcn⟩:=hrel
  by_cases hlt:k < N
  ·
   have m1:(k:Int) < (N:Int):=by omega
   have m0:(0:Int)≤(k:Int):=by omega
   by_cases hn:(n:Int)≤(lim:Int)
   ·
    have hNl:=H.out.2.2
    obtain ⟨g,off,hpa,hg,hh⟩:=H.out.1.2 (by omega)
    subst hpa
    obtain ⟨e,hke⟩:∃ e,es[k]? = some e:=⟨es[k]'(by omega),List.getElem?_eq_getElem _⟩
    have hE:=hh.below hb hg (Nat.le_refl _) k e hke
    obtain ⟨ov,hov⟩:∃ v,v=otC e.o:=⟨_,rfl⟩
    have hos:ov.size=69:=by rw [hov];exact otC_size _ hE.2.o.ah hE.2.o.dh
    have hrg:wr.rangeAt g (off+k * 102+33) ov.toList:=fun j v hj=>by
     rw [Nat.add_assoc]
     exact hE.1 (33+j) v (enC_outR hE.2.r.1 j v (by rw [← hov];exact hj))
    have hinf:(Tryz.prog.info? 35).map (·.size)=some ov.toList.length:=by rw [Array.length_toList,hos];exact info_output
    have hcall:Calls Tryz.prog 45 #[.agg ov,.int .i64 (lim:Int)] wr fun x w'=>CntRes (cntO e.o) lim 700000000000000001 x∧Below wr.heap.size wr w':=by rw [hov];exact outputOf_any wr e.o lim H.out.2.1 hE.2.o
    have HC:=Hj (Aj hcall (Aj hrg hinf))
    have HR:=Hj (Aj hb (Aj hlt (Aj hke (Aj (hcn hn) hn))))
    have hnl:(n:Int)≤1000000:=by omega
    clear hNl hke hE hov hos hrg hinf hcall hg hh hb hlt hk hcn hn0
    go_wp2_with (refine wpList_load_mid rfl 35 _ rfl g (off+k * 102+33) rfl ov.toList _ HC.out.2.1 Tryz.underlying35 rfl HC.out.2.2 ?_)
    refine HC.out.1.mono ?_
    rintro x w2 ⟨⟨m,rfl,hm0,hm⟩,hb2⟩
    have hw:IntKind.i64.wrap ((n:Int)+1+(m:Int))=(n:Int)+1+(m:Int):=by rw [IntKind.wrap_i64];omega
    have hbd:((n+1+m:Nat):Int)≤800000000000000000:=by omega
    have HB2:=Hj (Aj (HR.out.1.trans (hb2.mono HR.out.1.size)) (Aj hm hbd))
    clear hb2 hm hm0 hbd
    go_wp2_with fail
    have e1:(k:Int)+1=((k+1:Nat):Int):=by omega
    have e2:(n:Int)+1+(m:Int)=((n+1+m:Nat):Int):=by omega
    rw [e1,e2]
    refine ⟨⟨k+1,n+1+m,HR.out.2.1,rfl,rfl,HB2.out.1,HB2.out.2.2,fun h => ?_⟩,?_⟩
    ·
     rw [cntE_take HR.out.2.2.1,← HR.out.2.2.2.1,← HB2.out.2.1 (by omega)]
     omega
    ·
     have h:=HR.out.2.1
     show N - (k+1) < N - k
     omega
   ·
    have HB:=Hj (Aj hb (Aj hn0 hn))
    clear hb hlt hk hcn hn0
    go_wp2_with fail
    go_ret
    exact ⟨⟨n,rfl,HB.out.2.1,fun h=>absurd h (by have:=HB.out.2.2;omega)⟩,HB.out.1⟩
  ·
   have m1:¬ (k:Int) < (N:Int):=by omega
   have hkl:es.take k=es:=List.take_of_length_le (by have:=H.out.2.2;omega)
   rw [hkl] at hcn
   have HB:=Hj (Aj hb (Aj hn0 hcn))
   clear hb hlt hk hcn hn0 hkl
   go_wp2_with fail
   go_ret
   exact ⟨⟨n,rfl,HB.out.2.1,HB.out.2.2⟩,HB.out.1⟩
end Go.Proofs.YtilbbemdinpjcaaGreat.P
namespace Go.Proofs.YtilbbemdinpjcaaGreat.P
set_option maxRecDepth 100000
open Go.RowKit Go.Sort
def cntT (l:List To):Nat:=(l.map fun a=>1+a.nm.2.length / 16).sum
theorem cntT_take {l:List To} {k:Nat} {a:To} (h:l[k]? = some a):cntT (l.take (k+1))=cntT (l.take k)+(1+a.nm.2.length / 16):=by
 unfold cntT
 rw [List.take_add_one,h,List.map_append,List.sum_append]
 simp
theorem totalsX_any (w:World) (pa:Option Addr) (l:List To) (c:Nat) (lim:Int) (h:RowT w pa l) (hlim:lim≤1000000) :
  Calls Tryz.prog 44 #[.slice pa l.length c,.int .i64 lim] w fun e w'=>CntRes (cntT l) lim 600000000000000000 e∧Below w.heap.size w w':=by
 have hli:(l.length:Int)≤9223372036854775807:=by have:=h.1;unfold maxLen at this;omega
 have H:=Hj (Aj h hlim)
 clear h hlim
 go_enter Tryz.func44,Tryz.ntmps44
 go_wp2_with fail
 go_loopw [5,6] (fun s i W=>∃ (k n:Nat),k≤l.length∧s=.int .i64 n∧i=.int .i64 k∧Below w.heap.size w W∧n=cntT (l.take k)∧(n:Int)≤600000000000000000) (fun _ i _=>l.length - (intOf i).toNat)
 case atStart=>exact ⟨0,0,Nat.zero_le _,rfl,rfl,Below.refl _ _,rfl,by omega⟩
 case round =>
  obtain ⟨k,n,hk,rfl,rfl,hb,hcn,hn0⟩:=hrel
  by_cases hlt:k < l.length
  ·
   have m1:(k:Int) < (l.length:Int):=by omega
   have m0:(0:Int)≤(k:Int):=by omega
   by_cases hn:(n:Int)≤lim
   ·
    obtain ⟨g,off,rfl,hg,hh⟩:=H.out.1.2.2 (by omega)
    obtain ⟨a,ha⟩:∃ a,a=l[k]:=⟨_,rfl⟩
    have hka:l[k]? = some a:=by rw [ha,List.getElem?_eq_getElem hlt]
    have oka:=H.out.1.2.1 a (List.mem_of_getElem? hka)
    have c32:=(hh.below hb hg) k a hka 32 (.string (txt a.nm.2)) (by rw [Array.getElem?_toList];exact toC_txt a oka.1)
    have hts:=txt_size a.nm.2
    have ht:=oka.2
    have hl:=H.out.2
    have hnx:n+(1+(txt a.nm.2).size / 16)=cntT (l.take (k+1)):=by rw [cntT_take hka,← hcn,hts]
    generalize txt a.nm.2=tv at c32 hts hnx
    have hti:(tv.size:Int)≤9223372036854775807:=by unfold maxLen at ht;omega
    obtain ⟨z,hz⟩:∃ z,z=tv.size / 16:=⟨_,rfl⟩
    have hzl:z≤576460752303423488:=by omega
    have hdiv:Int.tdiv (tv.size:Int) 16=(z:Int):=by rw [hz];rfl
    have hw1:IntKind.i64.wrap ((n:Int)+1)=(n:Int)+1:=by rw [IntKind.wrap_i64];omega
    have hwz:IntKind.i64.wrap (z:Int)=(z:Int):=by rw [IntKind.wrap_i64];omega
    have hw2:IntKind.i64.wrap ((n:Int)+1+(z:Int))=(n:Int)+1+(z:Int):=by rw [IntKind.wrap_i64];omega
    rw [← hz] at hnx
    have hnl:((n+(1+z):Nat):Int)≤600000000000000000:=by omega
    have HR:=Hj (Aj hb (Aj hlt (Aj hnx hnl)))
    clear ha hka oka hg hh hb hlt hk hts ht hcn hl hz hzl hnx hn0 hnl
    go_wp2_with fail
    have e1:(k:Int)+1=((k+1:Nat):Int):=by omega
    have e2:(n:Int)+1+(z:Int)=((n+(1+z):Nat):Int):=by omega
    rw [e1,e2]
    refine ⟨⟨k+1,n+(1+z),HR.out.2.1,rfl,rfl,HR.out.1,HR.out.2.2.1,HR.out.2.2.2⟩,?_⟩
    have h:=HR.out.2.1
    show l.length - (k+1) < l.length - k
    omega
   ·
    have HB:=Hj (Aj hb (Aj hn0 hn))
    clear hb hlt hk hcn hn0
    go_wp2_with fail
    go_ret
    exact ⟨⟨n,rfl,HB.out.2.1,fun h=>absurd h (by have:=HB.out.2.2;omega)⟩,HB.out.1⟩
  ·
   have m1:¬ (k:Int) < (l.length:Int):=by omega
   have hkl:k=l.length:=by omega
   subst hkl
   rw [List.take_length] at hcn
   have HB:=Hj (Aj hb (Aj hn0 hcn))
   clear hb hlt hk hcn hn0
   go_wp2_with fail
   go_ret
   exact ⟨⟨n,rfl,HB.out.2.1,fun _=>HB.out.2.2⟩,HB.out.1⟩
end Go.Proofs.YtilbbemdinpjcaaGreat.P
namespace Go.Proofs.YtilbbemdinpjcaaGreat.P
set_option maxRecDepth 100000
open Go.RowKit W
def Lk (g:Nat) (w:World) (v:Value) (w':World) (v':Value):Prop:=W.Only g w w' v.ownBlock∧(v'.ownBlock=v.ownBlock ∨ ∃ k,v'.ownBlock=some k∧w.heap.size≤k∧k < w'.heap.size)
theorem Lk.refl (g:Nat) (w:World) (v:Value):Lk g w v w v:=⟨W.Only.refl _ _ _,.inl rfl⟩
theorem Lk.trans {g:Nat} {w w1 w2:World} {v v1 v2:Value} (h:Lk g w v w1 v1) (k:Lk g w1 v1 w2 v2):Lk g w v w2 v2:=by
 refine ⟨W.Only.trans h.1 k.1 (h.2.imp id fun ⟨x,e,h,_⟩=>⟨x,e,h⟩),?_⟩
 rcases k.2 with e | ⟨x,e,hx,hy⟩
 ·
  rcases h.2 with e1 | ⟨x,e1,hx,hy⟩
  ·
   exact .inl (e.trans e1)
  ·
   exact .inr ⟨x,e.trans e1,hx,Nat.lt_of_lt_of_le hy k.1.size⟩
 ·
  exact .inr ⟨x,e,Nat.le_trans h.1.size hx,hy⟩
theorem Lk.of_below {g:Nat} {w w':World} {v:Value} (hb:Below w.heap.size w w'):Lk g w v w' v:=⟨(W.only_below hb).weak _,.inl rfl⟩
theorem Lk.below {g:Nat} {w w1 w2:World} {v v1:Value} (h:Lk g w v w1 v1) (hb:Below w1.heap.size w1 w2):Lk g w v w2 v1:=h.trans (Lk.of_below hb)
theorem Lk.block {g:Nat} {w w':World} {v v':Value} (h:Lk g w v w' v') {k:Nat} (hk:k < w.heap.size) (h1:k≠g) (h2:v.ownBlock≠some k):w'.heap[k]? = w.heap[k]? := h.1.block k hk h1 fun e=>h2 e.symm
theorem Lk.cell {g:Nat} {w w':World} {v v':Value} (h:Lk g w v w' v') {k o:Nat} (hk:k < w.heap.size) (h1:k≠g) (h2:v.ownBlock≠some k):w'.cell? ⟨k,o,none⟩=w.cell? ⟨k,o,none⟩:=by
 simp only [World.cell?]
 rw [h.block hk h1 h2]
theorem Lk.lies {g:Nat} {w w':World} {v v':Value} (h:Lk g w v w' v') {k:Nat} {cs:Array Value} {t:TypeId} (hl:Lies w k cs t) (h1:k≠g) (h2:v.ownBlock≠some k):Lies w' k cs t:=(h.block hl.lt h1 h2).trans hl
def Stays (g:Nat) (w:World) (v:Value) (P:World→Prop):Prop:=∀ W u,Lk g w v W u→P W
theorem Stays.on {g:Nat} {w w1:World} {v v1:Value} {P:World→Prop} (h:Stays g w v P) (k:Lk g w v w1 v1):Stays g w1 v1 P:=fun W u hu=>h W u (k.trans hu)
theorem Stays.now {g:Nat} {w:World} {v:Value} {P:World→Prop} (h:Stays g w v P):P w:=h w v (Lk.refl _ _ _)
theorem Stays.imp {g:Nat} {w:World} {v:Value} {P Q:World→Prop} (h:Stays g w v P) (k:∀ W,P W→Q W):Stays g w v Q:=fun W u hu=>k W (h W u hu)
theorem Lk.low {g B:Nat} {w w':World} {v v':Value} (h:Lk g w v w' v') (hg:B≤g) (hv:∀ x,v.ownBlock=some x→B≤x) (hB:B≤w.heap.size):Below B w w' :=
 ⟨h.1.os,h.1.tape,h.1.output,h.1.size,fun k hk=>h.block (Nat.lt_of_lt_of_le hk hB) (by omega) fun e=>by have:=hv _ e;omega⟩
structure WrO (S:World→Nat→Nat→Value→Option (List UInt8)→Prop) (w:World) (B g:Nat) (v:Value) (st:Option (List UInt8)):Prop where
 s:S w B g v st
 own:∀ x,v.ownBlock=some x→B≤x∧x < w.heap.size
 ne:v.ownBlock≠some g
 lt:g < w.heap.size
 le:B≤g
theorem WrO.below {S:World→Nat→Nat→Value→Option (List UInt8)→Prop} {w w':World} {B g:Nat} {v:Value} {st:Option (List UInt8)} (h:WrO S w B g v st) (hb:Below w.heap.size w w') (hs:S w' B g v st):WrO S w' B g v st :=
 ⟨hs,fun x e=>⟨(h.own x e).1,Nat.lt_of_lt_of_le (h.own x e).2 hb.size⟩,h.ne,Nat.lt_of_lt_of_le h.lt hb.size,h.le⟩
theorem WrO.on {S:World→Nat→Nat→Value→Option (List UInt8)→Prop} {w w':World} {B g:Nat} {v v':Value} {st st':Option (List UInt8)} (h:WrO S w B g v st) (hs:S w' B g v' st') (k:Lk g w v w' v'):WrO S w' B g v' st':=by
 refine ⟨hs,fun x e => ?_,fun e => ?_,Nat.lt_of_lt_of_le h.lt k.1.size,h.le⟩
 ·
  rcases k.2 with e1 | ⟨y,e1,h1,h2⟩
  ·
   rw [e1] at e
   exact ⟨(h.own x e).1,Nat.lt_of_lt_of_le (h.own x e).2 k.1.size⟩
  ·
   rw [e1] at e
   obtain rfl:=Option.some.inj e
   exact ⟨by have:=h.lt;have:=h.le;omega,h2⟩
 ·
  rcases k.2 with e1 | ⟨y,e1,h1,h2⟩
  ·
   exact h.ne (e1.symm.trans e)
  ·
   rw [e1] at e
   have:=Option.some.inj e
   have:=h.lt
   omega
def PutR (S:World→Nat→Nat→Value→Option (List UInt8)→Prop) (w:World) (B g:Nat) (v:Value) (st:Option (List UInt8)) (e:Ending) (w':World):Prop :=
 e=.returned (.tuple #[])∧∃ v',WrO S w' B g v' st∧Lk g w v w' v'
theorem putW {e:Ending} {w w':World} {B g:Nat} {v:Value} {st st':Option (List UInt8)} (h:WrO W.WSt w B g v st) (k:e=.returned (.tuple #[])∧W.MoreO w B g v st' w'):PutR W.WSt w B g v st' e w':=by
 obtain ⟨he,v',h1,h2⟩:=k
 exact ⟨he,v',h.on h1 h2,h2⟩
theorem putF {e:Ending} {w w':World} {B g:Nat} {v:Value} {st st':Option (List UInt8)} (h:WrO W.RfS w B g v st) (k:e=.returned (.tuple #[])∧W.RMoreO w B g v st' w'):PutR W.RfS w B g v st' e w':=by
 obtain ⟨he,v',h1,h2⟩:=k
 exact ⟨he,v',h.on h1 h2,h2⟩
def sz:Option (List UInt8)→Nat
 | none=>0
 | some l=>l.length
theorem sz_le0 {st:Option (List UInt8)} {n:Nat} (h:sz st≤n):∀ l,st=some l→l.length≤n:=fun l e=>by subst e;exact h
theorem sz_N (st:Option (List UInt8)) (m s:Nat):sz (W.stepN st m s)≤sz st+s:=by
 cases st with
 | none=>exact Nat.zero_le _
 | some l =>
   simp only [W.stepN,Option.bind_some]
   split
   · simp [sz,W.beN_length]
   · exact Nat.zero_le _
theorem sz_B (st:Option (List UInt8)) (xs:List UInt8):sz (W.stepB st xs)≤sz st+xs.length:=by
 cases st with
 | none=>exact Nat.zero_le _
 | some l=>simp [W.stepB,sz]
theorem sz_T (st:Option (List UInt8)) (s:ByteArray):sz (W.stepText st s)≤sz st+(2+s.size):=by
 unfold W.stepText
 split
 ·
  refine Nat.le_trans (sz_B _ _) ?_
  rw [List.length_append,W.beN_length,Array.length_toList]
  exact Nat.le_refl _
 ·
  exact Nat.zero_le _
theorem PutR.after {S:World→Nat→Nat→Value→Option (List UInt8)→Prop} {w w1 w':World} {B g:Nat} {v:Value} {st:Option (List UInt8)} {e:Ending} (hb:Below w.heap.size w w1) (h:PutR S w1 B g v st e w'):PutR S w B g v st e w':=by
 obtain ⟨he,v',h1,h2⟩:=h
 exact ⟨he,v',h1,(Lk.of_below hb).trans h2⟩
theorem PutR.on {S:World→Nat→Nat→Value→Option (List UInt8)→Prop} {w w1 w':World} {B g:Nat} {v v1:Value} {st:Option (List UInt8)} {e:Ending} (hk:Lk g w v w1 v1) (h:PutR S w1 B g v1 st e w'):PutR S w B g v st e w':=by
 obtain ⟨he,v',h1,h2⟩:=h
 exact ⟨he,v',h1,hk.trans h2⟩
theorem PutR.end_ {S:World→Nat→Nat→Value→Option (List UInt8)→Prop} {w w':World} {B g:Nat} {v v':Value} {st:Option (List UInt8)} (h1:WrO S w' B g v' st) (hk:Lk g w v w' v'):PutR S w B g v st (.returned (.tuple #[])) w':=⟨rfl,v',h1,hk⟩
theorem WrO.belowW {w w':World} {B g:Nat} {v:Value} {st:Option (List UInt8)} (h:WrO W.WSt w B g v st) (hb:Below w.heap.size w w'):WrO W.WSt w' B g v st:=h.below hb (h.s.below hb)
structure Off (w:World) (g:Nat) (v:Value) (p:Nat):Prop where
 lt:p < w.heap.size
 ne:p≠g
 own:v.ownBlock≠some p
theorem Off.on {w w':World} {g:Nat} {v v':Value} {p:Nat} (h:Off w g v p) (k:Lk g w v w' v'):Off w' g v' p :=
 ⟨Nat.lt_of_lt_of_le h.lt k.1.size,h.ne,fun e=>by
  rcases k.2 with e1 | ⟨y,e1,h1,h2⟩
  ·
   exact h.own (e1.symm.trans e)
  ·
   rw [e1] at e
   have:=Option.some.inj e
   have:=h.lt
   omega⟩
theorem WrO.off {S:World→Nat→Nat→Value→Option (List UInt8)→Prop} {w w':World} {B g:Nat} {v:Value} {st:Option (List UInt8)} (h:WrO S w B g v st) {p:Nat} (hp:w.heap.size≤p) (hw:p < w'.heap.size):Off w' g v p :=
 ⟨hw,by have:=h.lt;omega,fun e=>by have:=(h.own p e).2;omega⟩
theorem wU8 (w:World) {B g:Nat} {v:Value} {st:Option (List UInt8)} (n:Int) (h:WrO W.WSt w B g v st) (hx:sz st≤900000):Calls Tryz.prog 58 #[.pointer (some ⟨g,0,none⟩),.int .i64 n] w (PutR W.WSt w B g v (W.stepN st (W.low64 n) 1)) :=
 (W.u8_st w B g v st n (W.low64 n) h.s (by have:=h.lt;have:=h.le;omega) (sz_le0 (by omega)) (W.low64_eq n)).mono fun _ _ k=>putW h k
theorem wU16 (w:World) {B g:Nat} {v:Value} {st:Option (List UInt8)} (n:Int) (h:WrO W.WSt w B g v st) (hx:sz st≤900000):Calls Tryz.prog 236 #[.pointer (some ⟨g,0,none⟩),.int .i64 n] w (PutR W.WSt w B g v (W.stepN st (W.low64 n) 2)) :=
 (W.u16_st w B g v st n (W.low64 n) h.s (by have:=h.lt;have:=h.le;omega) (sz_le0 (by omega)) (W.low64_eq n)).mono fun _ _ k=>putW h k
theorem wU32 (w:World) {B g:Nat} {v:Value} {st:Option (List UInt8)} (n:Int) (h:WrO W.WSt w B g v st) (hx:sz st≤900000):Calls Tryz.prog 239 #[.pointer (some ⟨g,0,none⟩),.int .i64 n] w (PutR W.WSt w B g v (W.stepN st (W.low64 n) 4)) :=
 (W.u32_st w B g v st n (W.low64 n) h.s (by have:=h.lt;have:=h.le;omega) (sz_le0 (by omega)) (W.low64_eq n)).mono fun _ _ k=>putW h k
theorem wI64 (w:World) {B g:Nat} {v:Value} {st:Option (List UInt8)} (n:Int) (h:WrO W.WSt w B g v st) (hx:sz st≤900000):Calls Tryz.prog 238 #[.pointer (some ⟨g,0,none⟩),.int .i64 n] w (PutR W.WSt w B g v (W.stepN st (W.low64 n) 8)) :=
 (W.i64_st w B g v st n (W.low64 n) h.s (by have:=h.lt;have:=h.le;omega) (sz_le0 (by omega)) (W.low64_eq n)).mono fun _ _ k=>putW h k
theorem wU64 (w:World) {B g:Nat} {v:Value} {st:Option (List UInt8)} (n:Nat) (hn:n < 18446744073709551616) (h:WrO W.WSt w B g v st) (hx:sz st≤900000):Calls Tryz.prog 240 #[.pointer (some ⟨g,0,none⟩),.int .u64 n] w (PutR W.WSt w B g v (W.stepN st n 8)) :=
 (W.u64_st w B g v st n h.s (by have:=h.lt;have:=h.le;omega) (sz_le0 (by omega)) hn).mono fun _ _ k=>putW h k
theorem wHash (w:World) {B g:Nat} {v:Value} {st:Option (List UInt8)} (xs:List UInt8) (hl:xs.length=32) (h:WrO W.WSt w B g v st) (hx:sz st≤900000):Calls Tryz.prog 212 #[.pointer (some ⟨g,0,none⟩),.agg (B8 xs)] w (PutR W.WSt w B g v (W.stepB st xs)) :=
 (W.hash_st w B g v st xs h.s hl (by have:=h.lt;have:=h.le;omega) (sz_le0 (by omega))).mono fun _ _ k=>putW h k
theorem wFlag (w:World) {B g:Nat} {v:Value} {st:Option (List UInt8)} (b:Bool) (h:WrO W.WSt w B g v st) (hx:sz st≤900000):Calls Tryz.prog 266 #[.pointer (some ⟨g,0,none⟩),.bool b] w (PutR W.WSt w B g v (W.stepB st [if b then 1 else 0])) :=
 (W.flag_st w B g v st b h.s (by have:=h.lt;have:=h.le;omega) (sz_le0 (by omega))).mono fun _ _ k=>putW h k
theorem wText (w:World) {B g:Nat} {v:Value} {st:Option (List UInt8)} (s:ByteArray) (hs:s.size≤140737488355328) (h:WrO W.WSt w B g v st) (hx:sz st≤900000):Calls Tryz.prog 237 #[.pointer (some ⟨g,0,none⟩),.string s] w (PutR W.WSt w B g v (W.stepText st s)) :=
 (W.text_of w B g v st s h.s (by have:=h.lt;have:=h.le;omega) (sz_le0 hx) (by omega)).mono fun _ _ k=>putW h k
theorem wSpoil (w:World) {B g:Nat} {v:Value} {st:Option (List UInt8)} (h:WrO W.WSt w B g v st):Calls Tryz.prog 193 #[.pointer (some ⟨g,0,none⟩)] w (PutR W.WSt w B g v none) :=
 (W.spoil_st w B g v st h.s).mono fun _ _ k=>putW h k
def I64 (n:Int):Prop:=-9223372036854775808≤n∧n < 9223372036854775808
def ndT (st:Option (List UInt8)) (n:T.Nd):Option (List UInt8) :=
 if n.kind=1 then W.stepN st (W.low64 n.num) 8
 else if n.kind=2 then W.stepText st n.txt
 else if n.kind=3 then W.stepN st n.bits 8
 else if n.kind=5 then W.stepN (W.stepN st (W.low64 n.num) 4) (W.low64 n.kids) 2
 else W.stepN st (W.low64 n.kids) 2
def ndS (st:Option (List UInt8)) (n:T.Nd):Option (List UInt8):=ndT (W.stepN st (W.low64 n.kind) 1) n
def termS (st:Option (List UInt8)) (xs:List T.Nd):Option (List UInt8):=xs.foldl ndS st
theorem sz_ndT (st:Option (List UInt8)) (n:T.Nd):sz (ndT st n)≤sz st+(10+n.txt.size):=by
 unfold ndT
 split
 ·
  have:=sz_N st (W.low64 n.num) 8;omega
 ·
  split
  ·
   have:=sz_T st n.txt;omega
  ·
   split
   ·
    have:=sz_N st n.bits 8;omega
   ·
    split
    ·
     have:=sz_N st (W.low64 n.num) 4
     have:=sz_N (W.stepN st (W.low64 n.num) 4) (W.low64 n.kids) 2
     omega
    ·
     have:=sz_N st (W.low64 n.kids) 2;omega
theorem sz_nd (st:Option (List UInt8)) (n:T.Nd):sz (ndS st n)≤sz st+(11+n.txt.size):=by
 have h0:=sz_N st (W.low64 n.kind) 1
 have h1:=sz_ndT (W.stepN st (W.low64 n.kind) 1) n
 unfold ndS
 omega
theorem sz_nd16 (st:Option (List UInt8)) (n:T.Nd):sz (ndS st n)≤sz st+26 * (1+n.txt.size / 16):=by have:=sz_nd st n;omega
theorem sz_term:∀ (xs:List T.Nd) (st:Option (List UInt8)),sz (termS st xs)≤sz st+26 * T.cost xs
 | [],st=>by simp [termS,T.cost]
 | x :: xs,st=>by
   have h1:=sz_term xs (ndS st x)
   have h2:=sz_nd16 st x
   simp only [T.cost]
   show sz (termS (ndS st x) xs)≤_
   omega
theorem termS_take {xs:List T.Nd} {k:Nat} (h:k < xs.length) (st:Option (List UInt8)):termS st (xs.take (k+1))=ndS (termS st (xs.take k)) xs[k]:=by
 unfold termS
 rw [List.take_succ_eq_append_getElem h,List.foldl_append]
 rfl
structure NdIn (x:T.Nd):Prop where
 kind:I64 x.kind
 num:I64 x.num
 bits:x.bits < 18446744073709551616
 txt:x.txt.size≤140737488355328
 kids:I64 x.kids
end Go.Proofs.YtilbbemdinpjcaaGreat.P
namespace Go.Proofs.YtilbbemdinpjcaaGreat.P
set_option maxRecDepth 100000
open Go.RowKit Go.Sort
def cntD (s m:List En) (n:Nat):Nat:=1+cntE s+cntE m+n
theorem RowER.below {B:Nat} {w w':World} {pa:Option Addr} {es:List En} (h:RowER w pa es) (hb:Below B w w') (hB:w.heap.size≤B):RowER w' pa es :=
 ⟨h.1,fun h0=>by
  obtain ⟨g,off,h1,h2,h3⟩:=h.2 h0
  exact ⟨g,off,h1,Nat.lt_of_lt_of_le h2 hb.size,h3.below hb (Nat.lt_of_lt_of_le h2 hB) hB⟩⟩
theorem diffOf_any (w:World) (p1 p2 p3:Option Addr) (s m:List En) (n c1 c2 c3:Nat) (fe fo:Int) (lim:Nat) (hlim:lim≤1000000) (h1:RowER w p1 s) (h2:RowER w p2 m) (h3:n≤140737488355328) :
  Calls Tryz.prog 46 #[.agg #[.slice p1 s.length c1,.slice p2 m.length c2,.int .i64 fe,.int .i64 fo,.slice p3 n c3],.int .i64 (lim:Int)] w fun e w'=>CntRes (cntD s m n) lim 3000000000000000000 e∧Below w.heap.size w w':=by
 obtain ⟨ov,hov⟩:∃ v:Array Value,v=#[.slice p1 s.length c1,.slice p2 m.length c2,.int .i64 fe,.int .i64 fo,.slice p3 n c3]:=⟨_,rfl⟩
 have hL:Lies (w.alloc (.cells ov 40)) w.heap.size ov 40:=Lies.new _ _ _
 have hb0:Below w.heap.size w (w.alloc (.cells ov 40)):=(Below.refl _ _).alloc (Nat.le_refl _) _
 generalize hW:w.alloc (.cells ov 40)=W0 at hL hb0
 have HS:Hid (∀ V,Below W0.heap.size W0 V→V.cell? ⟨w.heap.size,0,none⟩=some (.slice p1 s.length c1)∧V.cell? ⟨w.heap.size,1,none⟩=some (.slice p2 m.length c2)∧V.cell? ⟨w.heap.size,4,none⟩=some (.slice p3 n c3)):=Hj fun V hV=>by
  have hl:=hL.below hV hL.lt
  rw [hov] at hl
  exact ⟨hl.cell 0 rfl,hl.cell 1 rfl,hl.cell 4 rfl⟩
 have K1:Hid (∀ V,Below W0.heap.size W0 V→Calls Tryz.prog 40 #[.slice p1 s.length c1,.int .i64 (lim:Int)] V fun e w'=>CntRes (cntE s) lim 800000000000000000 e∧Below V.heap.size V w'):=Hj fun V hV=>entriesOf_any V p1 s c1 lim hlim ((h1.below hb0 (Nat.le_refl _)).below hV (Nat.le_refl _))
 have K2:Hid (∀ V,Below W0.heap.size W0 V→Calls Tryz.prog 40 #[.slice p2 m.length c2,.int .i64 (lim:Int)] V fun e w'=>CntRes (cntE m) lim 800000000000000000 e∧Below V.heap.size V w'):=Hj fun V hV=>entriesOf_any V p2 m c2 lim hlim ((h2.below hb0 (Nat.le_refl _)).below hV (Nat.le_refl _))
 have hnn:(n:Int)≤1000000000000000000:=by omega
 have HB:=Hj (Aj hb0 (Aj hlim hnn))
 have HW:=hW
 rw [← hov]
 clear hL hb0 hlim hW h1 h2 h3 hnn hov
 go_enter Tryz.func46,Tryz.ntmps46
 go_upto_region 1 with fail
 clear HW
 obtain ⟨g,hg⟩:∃ g,g=w.heap.size:=⟨_,rfl⟩
 rw [← hg] at HS ⊢
 clear hg
 refine wp_region_held (S:=Below W0.heap.size W0) (by kernel_rfl) ?_
 change wpAnyH _ _ _ _ _ 15 _ _ (World.drew W0)
 have hcur:Below W0.heap.size W0 W0.drew:=(Below.refl _ _).drew
 refine tk 0 (.pointer (some ⟨g,0,none⟩)) 5 rfl rfl hcur ?_
 refine tk 1 (.slice p1 s.length c1) 6 rfl rfl hcur ?_ (by intro w' hS';have x0:=(HS.out w' hS').1;unfold execOp;simp [go_sem,x0])
 refine tk 2 (.int .i64 (lim:Int)) 7 rfl rfl hcur ?_
 refine tk 5 (.pointer (some ⟨g,1,none⟩)) 10 rfl rfl hcur ?_
 refine tk 6 (.slice p2 m.length c2) 11 rfl rfl hcur ?_ (by intro w' hS';have x0:=(HS.out w' hS').2.1;unfold execOp;simp [go_sem,x0])
 refine tk 7 (.int .i64 (lim:Int)) 12 rfl rfl hcur ?_
 refine tk 10 (.pointer (some ⟨g,4,none⟩)) 15 rfl rfl hcur ?_
 refine tk 11 (.slice p3 n c3) 16 rfl rfl hcur ?_ (by intro w' hS';have x0:=(HS.out w' hS').2.2;unfold execOp;simp [go_sem,x0])
 refine tk 12 (.int .i64 (n:Int)) 17 rfl rfl hcur ?_ (by intro w' hS';unfold execOp;simp [go_sem])
 generalize W0.drew=V0 at hcur ⊢
 refine held_one (i:=3) (by kernel_rfl) _ rfl (wpOp_callG rfl (by rfl) 8 rfl 40 #[.slice p1 s.length c1,.int .i64 (lim:Int)] (by unfold execOp;simp [go_sem]) (fun v w'=>∃ n:Nat,v=.int .i64 (n:Int)∧(n:Int)≤800000000000000000∧((n:Int)≤(lim:Int)→n=cntE s)∧Below V0.heap.size V0 w') ((K1.out V0 hcur).mono fun e w' k=>by obtain ⟨⟨n,h1,h2,h3⟩,h4⟩:=k;exact ⟨_,h1,n,rfl,h2,h3,h4⟩) ?_)
 rintro _ U1 ⟨x,rfl,hn1,hn2,hn⟩
 have hcur:=hcur.trans (hn.mono hcur.size)
 clear hn
 refine ⟨hcur,?_⟩
 simp only [Sj]
 have hw0:IntKind.i64.wrap (1+(x:Int))=1+(x:Int):=by rw [IntKind.wrap_i64];omega
 refine tk 4 (.int .i64 (1+(x:Int))) 9 rfl rfl hcur ?_ (by intro w' hS';unfold execOp;simp [go_sem,hw0])
 refine held_one (i:=8) (by kernel_rfl) _ rfl (wpOp_callG rfl (by rfl) 13 rfl 40 #[.slice p2 m.length c2,.int .i64 (lim:Int)] (by unfold execOp;simp [go_sem]) (fun v w'=>∃ n:Nat,v=.int .i64 (n:Int)∧(n:Int)≤800000000000000000∧((n:Int)≤(lim:Int)→n=cntE m)∧Below U1.heap.size U1 w') ((K2.out U1 hcur).mono fun e w' k=>by obtain ⟨⟨n,h1,h2,h3⟩,h4⟩:=k;exact ⟨_,h1,n,rfl,h2,h3,h4⟩) ?_)
 rintro _ U2 ⟨r,rfl,hr1,hr2,hn⟩
 have hcur:=hcur.trans (hn.mono hcur.size)
 clear hn
 refine ⟨hcur,?_⟩
 simp only [Sj]
 have hnn:=HB.out.2.2
 have hw1:IntKind.i64.wrap (1+(x:Int)+(r:Int))=1+(x:Int)+(r:Int):=by rw [IntKind.wrap_i64];omega
 have hw2:IntKind.i64.wrap (1+(x:Int)+(r:Int)+(n:Int))=1+(x:Int)+(r:Int)+(n:Int):=by rw [IntKind.wrap_i64];omega
 refine tk 9 (.int .i64 (1+(x:Int)+(r:Int))) 14 rfl rfl hcur ?_ (by intro w' hS';unfold execOp;simp [go_sem,hw1])
 refine tk 13 (.int .i64 (1+(x:Int)+(r:Int)+(n:Int))) 18 rfl rfl hcur ?_ (by intro w' hS';unfold execOp;simp [go_sem,hw2])
 refine tk 14 (.int .i64 (1+(x:Int)+(r:Int)+(n:Int))) 4 rfl rfl hcur ?_
 refine held_done (by kernel_rfl) ?_
 have HN:=Hj (Aj hn1 (Aj hn2 (Aj hr1 (Aj hr2 (Aj hnn (HB.out.1.trans (hcur.mono HB.out.1.size)))))))
 clear hw0 hw1 hw2 hn1 hn2 hr1 hr2 hcur hnn
 go_wp2_with fail
 go_ret
 refine ⟨⟨1+x+r+n,ret_i (by simp),?_,?_⟩,HN.out.2.2.2.2.2⟩
 ·
  have h1:=HN.out.1;have h2:=HN.out.2.2.1;have h3:=HN.out.2.2.2.2.1;omega
 ·
  intro hh
  have h1:=HN.out.2.1 (by omega)
  have h2:=HN.out.2.2.2.1 (by omega)
  unfold cntD
  omega
end Go.Proofs.YtilbbemdinpjcaaGreat.P
namespace Go.Proofs.YtilbbemdinpjcaaGreat.P
set_option maxRecDepth 100000
open Go.RowKit
def asS (st:Option (List UInt8)) (a:As):Option (List UInt8):=W.stepN (W.stepText (W.stepB st a.nm.1) (txt a.nm.2)) (W.low64 a.amt) 8
def asListS (st:Option (List UInt8)) (l:List As):Option (List UInt8):=l.foldl asS (W.stepN st (W.low64 l.length) 2)
def valS (st:Option (List UInt8)) (v:Va):Option (List UInt8):=asListS (W.stepN st (W.low64 v.coin) 8) v.l
def toS (st:Option (List UInt8)) (a:To):Option (List UInt8):=W.stepN (W.stepN (W.stepText (W.stepB st a.nm.1) (txt a.nm.2)) (W.low64 (hiS a.w)) 8) (loN a.w) 8
def totS (st:Option (List UInt8)) (l:List To):Option (List UInt8):=l.foldl toS (W.stepN st (W.low64 l.length) 4)
def outS (st:Option (List UInt8)) (o:Ot):Option (List UInt8) :=
 if o.kind=1 then W.stepB (W.stepN (valS (W.stepB (W.stepB st [if o.prog then 1 else 0]) o.ah) o.v) (W.low64 o.kind) 1) o.dh
 else if o.kind=2 then termS (W.stepN (valS (W.stepB (W.stepB st [if o.prog then 1 else 0]) o.ah) o.v) (W.low64 o.kind) 1) o.ns
 else W.stepN (valS (W.stepB (W.stepB st [if o.prog then 1 else 0]) o.ah) o.v) (W.low64 o.kind) 1
def refS (st:Option (List UInt8)) (r:Rf):Option (List UInt8):=W.stepN (W.stepB st r.tx) (W.low64 r.place) 2
def enS (st:Option (List UInt8)) (e:En):Option (List UInt8):=outS (refS st e.r) e.o
def ensS (st:Option (List UInt8)) (es:List En):Option (List UInt8):=es.foldl enS (W.stepN st (W.low64 es.length) 4)
theorem foldl_take {α β:Type} (f:β→α→β) (b:β) (l:List α) (k:Nat) (x:α) (h:l[k]? = some x):(l.take (k+1)).foldl f b=f ((l.take k).foldl f b) x:=by
 obtain ⟨hk,rfl⟩:=List.getElem?_eq_some_iff.1 h
 rw [List.take_succ_eq_append_getElem hk,List.foldl_append]
 rfl
theorem sz_as (st:Option (List UInt8)) (a:As) (h:a.nm.1.length=32):sz (asS st a)≤sz st+57 * (1+a.nm.2.length / 16):=by
 have h1:=sz_B st a.nm.1
 have h2:=sz_T (W.stepB st a.nm.1) (txt a.nm.2)
 have h3:=sz_N (W.stepText (W.stepB st a.nm.1) (txt a.nm.2)) (W.low64 a.amt) 8
 rw [txt_size] at h2
 unfold asS
 omega
theorem sz_asF:∀ (l:List As) (st:Option (List UInt8)),(∀ a ∈ l,a.nm.1.length=32)→sz (l.foldl asS st)≤sz st+57 * cntA l
 | [],st,_=>by simp [cntA]
 | x :: xs,st,h=>by
   have h1:=sz_asF xs (asS st x) (fun a ha=>h a (List.mem_cons_of_mem _ ha))
   have h2:=sz_as st x (h x List.mem_cons_self)
   have e:cntA (x :: xs)=(1+x.nm.2.length / 16)+cntA xs:=by simp [cntA]
   rw [e]
   show sz (xs.foldl asS (asS st x))≤_
   omega
theorem sz_asL (l:List As) (st:Option (List UInt8)) (h:∀ a ∈ l,a.nm.1.length=32):sz (asListS st l)≤sz st+(2+57 * cntA l):=by
 have h1:=sz_asF l (W.stepN st (W.low64 l.length) 2) h
 have h2:=sz_N st (W.low64 l.length) 2
 unfold asListS
 omega
theorem sz_val (v:Va) (st:Option (List UInt8)) (h:∀ a ∈ v.l,a.nm.1.length=32):sz (valS st v)≤sz st+57 * cntV v:=by
 have h1:=sz_asL v.l (W.stepN st (W.low64 v.coin) 8) h
 have h2:=sz_N st (W.low64 v.coin) 8
 unfold valS cntV
 omega
theorem sz_to (st:Option (List UInt8)) (a:To) (h:a.nm.1.length=32):sz (toS st a)≤sz st+65 * (1+a.nm.2.length / 16):=by
 have h1:=sz_B st a.nm.1
 have h2:=sz_T (W.stepB st a.nm.1) (txt a.nm.2)
 have h3:=sz_N (W.stepText (W.stepB st a.nm.1) (txt a.nm.2)) (W.low64 (hiS a.w)) 8
 have h4:=sz_N (W.stepN (W.stepText (W.stepB st a.nm.1) (txt a.nm.2)) (W.low64 (hiS a.w)) 8) (loN a.w) 8
 rw [txt_size] at h2
 unfold toS
 omega
theorem sz_toF:∀ (l:List To) (st:Option (List UInt8)),(∀ a ∈ l,a.nm.1.length=32)→sz (l.foldl toS st)≤sz st+65 * cntT l
 | [],st,_=>by simp [cntT]
 | x :: xs,st,h=>by
   have h1:=sz_toF xs (toS st x) (fun a ha=>h a (List.mem_cons_of_mem _ ha))
   have h2:=sz_to st x (h x List.mem_cons_self)
   have e:cntT (x :: xs)=(1+x.nm.2.length / 16)+cntT xs:=by simp [cntT]
   rw [e]
   show sz (xs.foldl toS (toS st x))≤_
   omega
theorem sz_tot (l:List To) (st:Option (List UInt8)) (h:∀ a ∈ l,a.nm.1.length=32):sz (totS st l)≤sz st+(4+65 * cntT l):=by
 have h1:=sz_toF l (W.stepN st (W.low64 l.length) 4) h
 have h2:=sz_N st (W.low64 l.length) 4
 unfold totS
 omega
theorem sz_ref (st:Option (List UInt8)) (r:Rf) (h:r.tx.length=32):sz (refS st r)≤sz st+34:=by
 have h1:=sz_B st r.tx
 have h2:=sz_N (W.stepB st r.tx) (W.low64 r.place) 2
 unfold refS
 omega
theorem sz_outH (st:Option (List UInt8)) (o:Ot) (h1:o.ah.length=32) (h3:∀ a ∈ o.v.l,a.nm.1.length=32) :
  sz (W.stepN (valS (W.stepB (W.stepB st [if o.prog then 1 else 0]) o.ah) o.v) (W.low64 o.kind) 1)≤sz st+(34+57 * cntV o.v):=by
 have k1:=sz_B st [if o.prog then 1 else 0]
 have k2:=sz_B (W.stepB st [if o.prog then 1 else 0]) o.ah
 have k3:=sz_val o.v (W.stepB (W.stepB st [if o.prog then 1 else 0]) o.ah) h3
 have k4:=sz_N (valS (W.stepB (W.stepB st [if o.prog then 1 else 0]) o.ah) o.v) (W.low64 o.kind) 1
 rw [List.length_singleton] at k1
 omega
theorem sz_out (st:Option (List UInt8)) (o:Ot) (h1:o.ah.length=32) (h2:o.dh.length=32) (h3:∀ a ∈ o.v.l,a.nm.1.length=32):sz (outS st o)≤sz st+123 * cntO o:=by
 have k:=sz_outH st o h1 h3
 have hc:1≤cntV o.v:=by unfold cntV;omega
 have hO:cntO o=cntV o.v+T.cost o.ns:=rfl
 unfold outS
 split
 ·
  have:=sz_B (W.stepN (valS (W.stepB (W.stepB st [if o.prog then 1 else 0]) o.ah) o.v) (W.low64 o.kind) 1) o.dh;omega
 ·
  split
  ·
   have:=sz_term o.ns (W.stepN (valS (W.stepB (W.stepB st [if o.prog then 1 else 0]) o.ah) o.v) (W.low64 o.kind) 1);omega
  ·
   omega
theorem sz_en (st:Option (List UInt8)) (e:En) (h0:e.r.tx.length=32) (h1:e.o.ah.length=32) (h2:e.o.dh.length=32) (h3:∀ a ∈ e.o.v.l,a.nm.1.length=32):sz (enS st e)≤sz st+123 * (1+cntO e.o):=by
 have k1:=sz_ref st e.r h0
 have k2:=sz_out (refS st e.r) e.o h1 h2 h3
 unfold enS
 omega
structure EnH (e:En):Prop where
 tx:e.r.tx.length=32
 ah:e.o.ah.length=32
 dh:e.o.dh.length=32
 pol:∀ a ∈ e.o.v.l,a.nm.1.length=32
theorem sz_enF:∀ (l:List En) (st:Option (List UInt8)),(∀ a ∈ l,EnH a)→sz (l.foldl enS st)≤sz st+123 * cntE l
 | [],st,_=>by simp [cntE]
 | x :: xs,st,h=>by
   have h1:=sz_enF xs (enS st x) (fun a ha=>h a (List.mem_cons_of_mem _ ha))
   have hx:=h x List.mem_cons_self
   have h2:=sz_en st x hx.tx hx.ah hx.dh hx.pol
   have e:cntE (x :: xs)=(1+cntO x.o)+cntE xs:=by simp [cntE]
   rw [e]
   show sz (xs.foldl enS (enS st x))≤_
   omega
theorem sz_ens (l:List En) (st:Option (List UInt8)) (h:∀ a ∈ l,EnH a):sz (ensS st l)≤sz st+(4+123 * cntE l):=by
 have h1:=sz_enF l (W.stepN st (W.low64 l.length) 4) h
 have h2:=sz_N st (W.low64 l.length) 4
 unfold ensS
 omega
end Go.Proofs.YtilbbemdinpjcaaGreat.P
