/-
  pack: what was got, put again, is the bytes that were read. Plain mathematics.
-/
import Derived.Test.YtilbbemdinpjcaaGreatJYj
import Derived.Test.YtilbbemdinpjcaaGreatJWRNew
namespace Go.Proofs.YtilbbemdinpjcaaGreat.P
set_option maxRecDepth 100000
open Go.RowKit Go.Sort
structure Th where
 tp:Option Addr
 ns:List T.Nd
 tc:Nat
 pa:Option Addr
 l:List As
 c:Nat
 v:Va
 pt:Option Addr
 t:List To
 ct:Nat
 o:Ot
 r:Rf
 pe:Option Addr
 es:List En
 ce:Nat
 d:Df
structure ThV where
 ns:List T.Nd
 l:List As
 coin:Int
 vl:List As
 t:List To
 o:OutV
 r:Rf
 es:List (Rf × OutV)
 d:DfV
def thV (x:Th):ThV:=⟨x.ns,x.l,x.v.coin,x.v.l,x.t,outV x.o,x.r,x.es.map enV,diV x.d⟩
def thL (x:Th):List Value:=.slice x.tp x.ns.length x.tc :: .slice x.pa x.l.length x.c :: .int .i64 x.v.coin :: .slice x.v.pa x.v.l.length x.v.c :: .slice x.pt x.t.length x.ct :: ((otC x.o).toList ++ ((refC x.r).toList ++ (.slice x.pe x.es.length x.ce :: (dfC x.d).toList)))
def thC (x:Th):Array Value:=(thL x).toArray
def otZ:Ot:=⟨false,List.replicate 32 0,⟨0,none,[],0⟩,0,List.replicate 32 0,none,[],0⟩
def dfZ:Df:=⟨none,[],0,none,[],0,0,0,none,[],0⟩
def thZ:Th:=⟨none,[],0,none,[],0,⟨0,none,[],0⟩,none,[],0,otZ,rfZ,none,[],0,dfZ⟩
theorem thZ_cells:Tryz.zeroCells42=thC thZ:=by kernel_rfl
theorem otZ_cells:Tryz.zeroCells35=otC otZ:=by kernel_rfl
theorem info_thing:(Tryz.prog.info? 42).map (·.size)=some 113:=by kernel_rfl
theorem thC_size (x:Th) (h1:x.o.ah.length=32) (h2:x.o.dh.length=32) (h3:x.r.tx.length=32):(thC x).size=113:=by
 have e1:(otC x.o).toList.length=69:=by rw [Array.length_toList,otC_size _ h1 h2]
 have e2:(refC x.r).toList.length=33:=by rw [Array.length_toList,refC_size _ h3]
 have e3:(dfC x.d).toList.length=5:=rfl
 simp only [thC,thL,List.size_toArray,List.length_cons,List.length_append,e1,e2,e3]
theorem thC_one (x:Th):(thC x).all (·.oneCell')=true:=by
 have e1:=otG_one x.o
 have e2:(refC x.r).all (·.oneCell')=true:=by
  unfold refC
  rw [Array.all_append,B8_one]
  simp [Value.oneCell']
 have e3:=dfG_one x.d
 rw [← Array.all_toList] at e1 e2 e3
 unfold thC thL
 rw [List.all_toArray]
 simp only [List.all_cons,List.all_append,e1,e2,e3]
 simp [Value.oneCell']
structure ThAt (W:World) (p:Nat) (x:Th):Prop where
 t:W.cell? ⟨p,0,none⟩=some (.slice x.tp x.ns.length x.tc)
 a:W.cell? ⟨p,1,none⟩=some (.slice x.pa x.l.length x.c)
 c:W.cell? ⟨p,2,none⟩=some (.int .i64 x.v.coin)
 v:W.cell? ⟨p,3,none⟩=some (.slice x.v.pa x.v.l.length x.v.c)
 tot:W.cell? ⟨p,4,none⟩=some (.slice x.pt x.t.length x.ct)
 o:W.rangeAt p 5 (otC x.o).toList
 r:W.rangeAt p 74 (refC x.r).toList
 e:W.cell? ⟨p,107,none⟩=some (.slice x.pe x.es.length x.ce)
 d:W.rangeAt p 108 (dfC x.d).toList
theorem thAt_of {W:World} {p:Nat} {x:Th} {t:TypeId} (h:Lies W p (thC x) t) (h1:x.o.ah.length=32) (h2:x.o.dh.length=32) (h3:x.r.tx.length=32):ThAt W p x:=by
 have e1:(otC x.o).toList.length=69:=by rw [Array.length_toList,otC_size _ h1 h2]
 have e2:(refC x.r).toList.length=33:=by rw [Array.length_toList,refC_size _ h3]
 have hr:W.rangeAt p 0 (thL x):=by
  have:=range_lies h
  simpa [thC] using this
 have hr5:W.rangeAt p (0+5) ((otC x.o).toList ++ ((refC x.r).toList ++ (.slice x.pe x.es.length x.ce :: (dfC x.d).toList))):=range_right (X:=[.slice x.tp x.ns.length x.tc,.slice x.pa x.l.length x.c,.int .i64 x.v.coin,.slice x.v.pa x.v.l.length x.v.c,.slice x.pt x.t.length x.ct]) hr
 have hr74:=range_right hr5
 rw [e1] at hr74
 have hr107:=range_right hr74
 rw [e2] at hr107
 have hr108:=range_right (X:=[.slice x.pe x.es.length x.ce]) (Y:=(dfC x.d).toList) hr107
 exact ⟨by simpa using hr 0 _ rfl,by simpa using hr 1 _ rfl,by simpa using hr 2 _ rfl,by simpa using hr 3 _ rfl,by simpa using hr 4 _ rfl,by simpa using range_left hr5,by simpa using range_left hr74,by simpa using hr107 0 _ rfl,by simpa using hr108⟩
structure ThOk (W:World) (x:Th):Prop where
 t:T.TAt W x.tp x.ns
 a:Row W x.pa x.l
 v:VaOk W x.v
 tot:RowT W x.pt x.t
 o:OtOk W x.o
 r:RfOk x.r
 e:RowE W x.pe x.es
 d:DfOk W x.d
theorem ThOk.below {W W':World} {x:Th} (h:ThOk W x) (hb:Below W.heap.size W W'):ThOk W' x :=
 ⟨h.t.below hb (Nat.le_refl _),h.a.below hb (Nat.le_refl _),⟨h.v.1,h.v.2.1,h.v.2.2.below hb (Nat.le_refl _)⟩,h.tot.below hb (Nat.le_refl _),h.o.below hb (Nat.le_refl _),h.r,h.e.below hb (Nat.le_refl _),h.d.below hb (Nat.le_refl _)⟩
structure ThIn (V:World) (B:Nat) (x:Th):Prop where
 t:T.OwnT V B (.slice x.tp x.ns.length x.tc) x.ns
 tl:x.ns.length≤100
 ti:∀ y ∈ x.ns,NdIn y
 a:OwnAs V B (.slice x.pa x.l.length x.c) x.l
 al:x.l.length≤maxLen
 ao:∀ y,y ∈ x.l→AsOk y
 v:OwnAs V B (.slice x.v.pa x.v.l.length x.v.c) x.v.l
 vl:x.v.l.length≤maxLen
 vo:∀ y,y ∈ x.v.l→AsOk y
 vc:I64 x.v.coin
 tot:OwnTo V B (.slice x.pt x.t.length x.ct) x.t
 totl:x.t.length≤maxLen
 toto:∀ y,y ∈ x.t→ToOk y
 o:OutIn V B x.o
 r:RfOk x.r
 e:OwnEs V B (.slice x.pe x.es.length x.ce) x.es
 d:DfIn V B x.d
theorem own_only {V V':World} {g B:Nat} {ty:TypeId} {sz n:Nat} {v:Value} {l:List Value} (h:V.ownsRow B ty sz v n l) (ho:W.Only g V V' none) (hg:g < B):V'.ownsRow B ty sz v n l :=
 W.own_only h ho (fun e=>by have:=(W.own_block h _ e).1;omega) (fun _ _=>by simp)
theorem DfIn.only {V V':World} {g B:Nat} {d:Df} (h:DfIn V B d) (ho:W.Only g V V' none) (hg:g < B):DfIn V' B d:=⟨h.1.only ho hg,h.2.1.only ho hg,own_only h.2.2.1 ho hg,h.2.2.2⟩
theorem ThIn.only {V V':World} {g B:Nat} {x:Th} (h:ThIn V B x) (ho:W.Only g V V' none) (hg:g < B):ThIn V' B x :=
 ⟨ownT_only h.t ho hg,h.tl,h.ti,own_only h.a ho hg,h.al,h.ao,own_only h.v ho hg,h.vl,h.vo,h.vc,own_only h.tot ho hg,h.totl,h.toto,h.o.only ho hg,h.r,h.e.only ho hg,h.d.only ho hg⟩
theorem ThIn.below {V V':World} {B:Nat} {x:Th} (h:ThIn V B x) (hb:Below V.heap.size V V'):ThIn V' B x :=
 ⟨h.t.kept hb,h.tl,h.ti,ownsRow_below h.a hb,h.al,h.ao,ownsRow_below h.v hb,h.vl,h.vo,h.vc,ownsRow_below h.tot hb,h.totl,h.toto,h.o.below hb,h.r,h.e.below hb,h.d.below hb⟩
theorem ThIn.weak {V:World} {B B':Nat} {x:Th} (h:ThIn V B x) (hb:B'≤B):ThIn V B' x :=
 ⟨ownT_weak h.t hb,h.tl,h.ti,ownsRow_weak h.a hb,h.al,h.ao,ownsRow_weak h.v hb,h.vl,h.vo,h.vc,ownsRow_weak h.tot hb,h.totl,h.toto,h.o.weak hb,h.r,h.e.weak hb,h.d.weak hb⟩
theorem ThIn.row {V:World} {B q:Nat} {x:Th} (h:ThIn V B x) (hq:q < B) (cs:Array Value):ThIn (V.setRow q cs) B x:=h.only (only_rowsG q V cs) hq
theorem ThIn.ok {V:World} {B:Nat} {x:Th} (h:ThIn V B x):ThOk V x:=by
 obtain ⟨p1,c1,e1,r1⟩:=OwnAs.row h.a h.ao h.al
 obtain ⟨p2,c2,e2,r2⟩:=OwnAs.row h.v h.vo h.vl
 obtain ⟨p3,c3,e3,r3⟩:=OwnTo.row h.tot h.toto h.totl
 injection e1 with e1 _ _
 injection e2 with e2 _ _
 injection e3 with e3 _ _
 exact ⟨(h.t.tat (by have:=h.tl;omega) (fun y hy=>by have:=(h.ti y hy).kids.2;omega)).1,by rw [e1];exact r1,⟨h.vc.1,h.vc.2,by rw [e2];exact r2⟩,by rw [e3];exact r3,h.o.ok,h.r,h.e.at.2,h.d.ok⟩
theorem outZ_in (V:World) (B:Nat):OutIn V B otZ:=⟨rfl,rfl,World.ownsRow_nil _ _ _ _,World.ownsRow_nil _ _ _ _,by decide,(fun x hx=>(by cases hx)),(fun x hx=>(by cases hx)),by decide,by decide⟩
theorem esZ_in (V:World) (B:Nat):OwnEs V B (.slice none 0 0) []:=⟨World.ownsRow_nil _ _ _ _,(fun x hx=>(by cases hx))⟩
theorem dfZ_in (V:World) (B:Nat):DfIn V B dfZ:=⟨esZ_in V B,esZ_in V B,World.ownsRow_nil _ _ _ _,by unfold I64;decide,by unfold I64;decide,(fun x hx=>(by cases hx)),Nat.zero_le _⟩
theorem thZ_in (V:World) (B:Nat):ThIn V B thZ :=
 ⟨World.ownsRow_nil _ _ _ _,by decide,(fun x hx=>(by cases hx)),World.ownsRow_nil _ _ _ _,Nat.zero_le _,(fun x hx=>(by cases hx)),World.ownsRow_nil _ _ _ _,Nat.zero_le _,(fun x hx=>(by cases hx)),by unfold I64;decide,World.ownsRow_nil _ _ _ _,Nat.zero_le _,(fun x hx=>(by cases hx)),outZ_in V B,⟨rfl,by decide,by decide⟩,esZ_in V B,dfZ_in V B⟩
def setsL (T:Array Value) (o:Nat):List Value→Array Value
 | []=>T
 | v :: vs=>setsL (T.setIfInBounds o v) (o+1) vs
theorem lies_setsL {g:Nat} {t:TypeId}:∀ (vs:List Value) (cs:Array Value) (o:Nat) (w:World),Lies w g cs t→Lies (w.setCells g o vs) g (setsL cs o vs) t
 | [],_,_,_,h=>h
 | v :: vs,cs,o,w,h=>by
   rw [World.setCells]
   exact lies_setsL vs _ (o+1) _ (h.set o v)
theorem sets_mid:∀ (vs X Y Z:List Value),Y.length=vs.length→setsL (X ++ Y ++ Z).toArray X.length vs=(X ++ vs ++ Z).toArray
 | [],X,[],Z,_=>rfl
 | v :: vs,X,y :: Y,Z,h=>by
   have h1:(X ++ y :: Y ++ Z).toArray.setIfInBounds X.length v=((X ++ [v]) ++ Y ++ Z).toArray:=by
    simp
   rw [setsL,h1,show X.length+1=(X ++ [v]).length by simp,sets_mid vs (X ++ [v]) Y Z (by simpa using h)]
   simp
 | [],X,y :: Y,Z,h=>by cases h
 | v :: vs,X,[],Z,h=>by cases h
theorem th_put {U:World} {q:Nat} (off:Nat) (vs:List Value) (x:Th) (X Y Z:List Value) (hL:Lies U q (thC thZ) 42) (e1:thL thZ=X ++ Y ++ Z) (e2:thL x=X ++ vs ++ Z) (hl:Y.length=vs.length) (ho:X.length=off):Lies (U.setCells q off vs) q (thC x) 42∧W.Only q U (U.setCells q off vs) none:=by
 refine ⟨?_,only_cells q vs off U⟩
 have h:=lies_setsL vs _ off U hL
 unfold thC at h ⊢
 rw [e1,← ho,sets_mid vs X Y Z hl,← e2,ho] at h
 exact h
theorem sc_mid {U:World} {q:Nat} {cs:Array Value} {t:TypeId} (hL:Lies U q cs t) (off:Nat) (vs:Array Value) (hs:off+vs.size≤cs.size) (h1:vs.all (·.oneCell')=true):(storeCells ⟨q,off,none⟩ vs.toList 0).run Tryz.prog U=.ok () (U.setCells q off vs.toList):=by
 have:=run_storeCells_cells (P:=Tryz.prog) q off vs.toList 0 U (fun j hj=>by
  rw [Array.length_toList] at hj
  rw [Nat.add_zero,hL.cell (off+j) (v:=cs[off+j]'(by omega)) (Array.getElem?_eq_getElem _)]
  rfl) (fun j _=>hL.free _) (fun v hv=>(Array.all_eq_true_iff_forall_mem.1 h1) v (by simpa using hv))
 simpa using this
end Go.Proofs.YtilbbemdinpjcaaGreat.P
namespace Go.Proofs.YtilbbemdinpjcaaGreat.P
set_option maxRecDepth 100000
open Go.RowKit Go.Sort
theorem low_nat (n:Nat) (h:n < 18446744073709551616):W.low64 (n:Int)=n:=by
 unfold W.low64
 omega
end Go.Proofs.YtilbbemdinpjcaaGreat.P
