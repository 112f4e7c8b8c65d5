/-
  An asset as it lies in memory; what it is called; whether its amount is above 0.
-/
import Derived.Test.YtilbbemdinpjcaaGreatProg
import Derived.IntWalk
import Derived.Laws.Externs
import Derived.Lib.BytesEntry
import Derived.Laws.IdiomStrings
import Derived.Lib.Hide
import Derived.Laws.Cover1
import Derived.WalkSmall
import Derived.Deep.RegionHeld3
import Derived.Below
import Derived.Laws.Rows
import Derived.Deep.MidRow
import Derived.Lib.QuietBelow
import Derived.Deep.Cut
import Derived.Deep.CutRange
import Derived.BigQuiet
set_option maxHeartbeats 16000000
namespace Go.Proofs.YtilbbemdinpjcaaGreat
def cmpB:List UInt8→List UInt8→Int
 | [],[]=>0
 | [],_ :: _=>-1
 | _ :: _,[]=>1
 | a :: al,b :: bl=>if a < b then -1 else if b < a then 1 else cmpB al bl
theorem u8_tri (a b:UInt8):a < b ∨ a=b ∨ b < a:=by
 rcases Nat.lt_trichotomy a.toNat b.toNat with h | h | h
 ·
  exact .inl (UInt8.lt_iff_toNat_lt.2 h)
 ·
  exact .inr (.inl (UInt8.toNat_inj.1 h))
 ·
  exact .inr (.inr (UInt8.lt_iff_toNat_lt.2 h))
theorem u8_irrefl (a:UInt8):¬ a < a:=fun h=>Nat.lt_irrefl _ (UInt8.lt_iff_toNat_lt.1 h)
theorem u8_asymm {a b:UInt8} (h:a < b):¬ b < a:=fun k=>Nat.lt_asymm (UInt8.lt_iff_toNat_lt.1 h) (UInt8.lt_iff_toNat_lt.1 k)
theorem u8_trans {a b c:UInt8} (h:a < b) (k:b < c):a < c:=UInt8.lt_iff_toNat_lt.2 (Nat.lt_trans (UInt8.lt_iff_toNat_lt.1 h) (UInt8.lt_iff_toNat_lt.1 k))
theorem cmpB_self:∀ a:List UInt8,cmpB a a=0
 | []=>rfl
 | a :: al=>by simp [cmpB,cmpB_self al]
theorem cmpB_eq:∀ {a b:List UInt8},cmpB a b=0→a=b
 | [],[],_=>rfl
 | [],_ :: _,h=>by simp [cmpB] at h
 | _ :: _,[],h=>by simp [cmpB] at h
 | a :: al,b :: bl,h=>by
   unfold cmpB at h
   rcases u8_tri a b with k | rfl | k
   · simp [k] at h
   · simp at h
     rw [cmpB_eq h]
   · simp [k,u8_asymm k] at h
theorem cmpB_trans:∀ {a b c:List UInt8},cmpB a b < 0→cmpB b c < 0→cmpB a c < 0
 | [],[],_,h,_=>by simp [cmpB] at h
 | [],_ :: _,[],_,h=>by simp [cmpB] at h
 | [],_ :: _,_ :: _,_,_=>by simp [cmpB]
 | _ :: _,[],_,h,_=>by simp [cmpB] at h
 | _ :: _,_ :: _,[],_,h=>by simp [cmpB] at h
 | a :: al,b :: bl,c :: cl,h,k=>by
   unfold cmpB at h k ⊢
   rcases u8_tri a b with p | rfl | p
   · rcases u8_tri b c with q | rfl | q
     · simp [u8_trans p q]
     · simp [p]
     · simp [q,u8_asymm q] at k
   · rcases u8_tri a c with q | rfl | q
     · simp [q]
     · simp at h k ⊢
       exact cmpB_trans h k
     · simp [q,u8_asymm q] at k
   · simp [p,u8_asymm p] at h
abbrev Nm:=List UInt8 × List UInt8
def cN (a b:Nm):Int:=if cmpB a.1 b.1=0 then cmpB a.2 b.2 else cmpB a.1 b.1
theorem cN_self (a:Nm):cN a a=0:=by simp [cN,cmpB_self]
theorem cN_trans {a b c:Nm} (h:cN a b < 0) (k:cN b c < 0):cN a c < 0:=by
 unfold cN at h k ⊢
 by_cases e1:cmpB a.1 b.1=0
 ·
  have ea:=cmpB_eq e1
  rw [if_pos e1] at h
  rw [ea]
  by_cases e2:cmpB b.1 c.1=0
  ·
   rw [if_pos e2] at k ⊢
   exact cmpB_trans h k
  ·
   rw [if_neg e2] at k ⊢
   exact k
 ·
  rw [if_neg e1] at h
  by_cases e2:cmpB b.1 c.1=0
  ·
   have eb:=cmpB_eq e2
   rw [← eb,if_neg e1]
   exact h
  ·
   rw [if_neg e2] at k
   have h3:=cmpB_trans h k
   rw [if_neg (by omega)]
   exact h3
theorem cN_irrefl (a:Nm):¬ cN a a < 0:=by rw [cN_self];omega
abbrev Ct:=Nm × BitVec 128
def sumAt:List Ct→Nm→BitVec 128
 | [],_=>0
 | p :: l,n=>(if p.1=n then p.2 else 0)+sumAt l n
theorem sumAt_append (l m:List Ct) (n:Nm):sumAt (l ++ m) n=sumAt l n+sumAt m n:=by
 induction l with
 | nil=>simp [sumAt]
 | cons p l ih=>simp only [List.cons_append,sumAt,ih,BitVec.add_assoc]
theorem sumAt_none {l:List Ct} {n:Nm} (h:∀ p ∈ l,p.1≠n):sumAt l n=0:=by
 induction l with
 | nil=>rfl
 | cons p l ih =>
   simp only [sumAt]
   rw [if_neg (h p (by simp)),ih fun q hq=>h q (by simp [hq])]
   simp
structure IsTot (f:Nm→BitVec 128) (l:List Ct):Prop where
 rise:l.Pairwise fun p q=>cN p.1 q.1 < 0
 says:∀ p,p ∈ l→p.2=f p.1∧p.2≠0
 all:∀ n,f n≠0→(n,f n) ∈ l
theorem IsTot.mem {f:Nm→BitVec 128} {l:List Ct} (h:IsTot f l) (p:Ct):p ∈ l ↔ p.2=f p.1∧f p.1≠0:=by
 constructor
 ·
  intro hp
  have:=h.says p hp
  exact ⟨this.1,by rw [← this.1];exact this.2⟩
 ·
  rintro ⟨h1,h2⟩
  have:=h.all p.1 h2
  rw [← h1] at this
  exact this
theorem rise_eq:∀ {l m:List Ct},l.Pairwise (fun p q=>cN p.1 q.1 < 0)→m.Pairwise (fun p q=>cN p.1 q.1 < 0)→(∀ p,p ∈ l ↔ p ∈ m)→l=m
 | [],[],_,_,_=>rfl
 | [],q :: m,_,_,h=>absurd ((h q).2 (by simp)) (by simp)
 | p :: l,[],_,_,h=>absurd ((h p).1 (by simp)) (by simp)
 | p :: l,q :: m,hl,hm,h=>by
   obtain ⟨l1,l2⟩:=List.pairwise_cons.1 hl
   obtain ⟨m1,m2⟩:=List.pairwise_cons.1 hm
   have hpq:p=q:=by
    rcases List.mem_cons.1 ((h p).1 (by simp)) with e | hp
    · exact e
    · rcases List.mem_cons.1 ((h q).2 (by simp)) with e | hq
      · exact e.symm
      · have a:=m1 p hp
        have b:=l1 q hq
        have c:=cN_trans a b
        exact absurd c (cN_irrefl _)
   subst hpq
   have:l=m:=rise_eq l2 m2 fun r=>by
    constructor
    · intro hr
      rcases List.mem_cons.1 ((h r).1 (by simp [hr])) with e | k
      · subst e;exact absurd (l1 r hr) (cN_irrefl _)
      · exact k
    · intro hr
      rcases List.mem_cons.1 ((h r).2 (by simp [hr])) with e | k
      · subst e;exact absurd (m1 r hr) (cN_irrefl _)
      · exact k
   rw [this]
theorem IsTot.eq {f:Nm→BitVec 128} {l m:List Ct} (hl:IsTot f l) (hm:IsTot f m):l=m:=rise_eq hl.rise hm.rise fun p=>(hl.mem p).trans (hm.mem p).symm
theorem IsTot.congr {f g:Nm→BitVec 128} {l:List Ct} (h:IsTot f l) (e:∀ n,f n=g n):IsTot g l:=by
 have:f=g:=funext e
 rwa [← this]
theorem sum_rise:∀ {l:List Ct},l.Pairwise (fun p q=>cN p.1 q.1 < 0)→∀ p ∈ l,sumAt l p.1=p.2
 | [],_,p,h=>absurd h (by simp)
 | q :: l,hl,p,h=>by
   obtain ⟨l1,l2⟩:=List.pairwise_cons.1 hl
   rcases List.mem_cons.1 h with rfl | hp
   · simp only [sumAt,if_pos]
     rw [sumAt_none fun r hr e=>by have:=l1 r hr;rw [e] at this;exact cN_irrefl _ this]
     simp
   · simp only [sumAt]
     rw [if_neg (fun e=>by have:=l1 p hp;rw [e] at this;exact cN_irrefl _ this),sum_rise l2 p hp]
     simp
theorem IsTot.sum {f:Nm→BitVec 128} {l:List Ct} (h:IsTot f l) (n:Nm):sumAt l n=f n:=by
 by_cases e:f n=0
 ·
  rw [e]
  exact sumAt_none fun p hp hn=>by
   have:=(h.mem p).1 hp
   rw [hn] at this
   exact this.2 e
 ·
  exact sum_rise h.rise _ (h.all n e)
end Go.Proofs.YtilbbemdinpjcaaGreat
namespace Go.Proofs.YtilbbemdinpjcaaGreat
def hiS (x:BitVec 128):Int:=IntKind.i64.wrap ((x.toNat / 18446744073709551616:Nat):Int)
def loN (x:BitVec 128):Nat:=x.toNat % 18446744073709551616
def wv (x:BitVec 128):Value:=.agg #[.int .i64 (hiS x),.int .u64 (loN x)]
theorem loN_lt (x:BitVec 128):loN x < 18446744073709551616:=Nat.mod_lt _ (by decide)
theorem hiS_lo (x:BitVec 128):-9223372036854775808≤hiS x∧hiS x < 9223372036854775808:=by
 unfold hiS
 rw [IntKind.wrap_i64]
 omega
theorem p128:(2:Nat) ^ 128=18446744073709551616 * 18446744073709551616:=by decide
theorem half_lt (x:BitVec 128):x.toNat / 18446744073709551616 < 18446744073709551616:=by
 have:=x.isLt
 rw [p128] at this
 exact (Nat.div_lt_iff_lt_mul (by decide)).2 this
theorem w_inj {x y:BitVec 128} (h:hiS x=hiS y) (l:loN x=loN y):x=y:=by
 apply BitVec.eq_of_toNat_eq
 have hx:=half_lt x
 have hy:=half_lt y
 unfold hiS at h
 rw [IntKind.wrap_i64,IntKind.wrap_i64] at h
 unfold loN at l
 have e:x.toNat / 18446744073709551616=y.toNat / 18446744073709551616:=by
  generalize x.toNat / 18446744073709551616=a at *
  generalize y.toNat / 18446744073709551616=b at *
  omega
 rw [← Nat.div_add_mod x.toNat 18446744073709551616,← Nat.div_add_mod y.toNat 18446744073709551616,e,l]
def wide (n:Int):BitVec 128:=BitVec.ofInt 128 n
end Go.Proofs.YtilbbemdinpjcaaGreat
namespace Go.Proofs.YtilbbemdinpjcaaGreat
set_option maxRecDepth 100000
open Go.RowKit
def B8 (l:List UInt8):Array Value:=(l.map fun b=>Value.int .u8 b.toNat).toArray
theorem B8_size (l:List UInt8):(B8 l).size=l.length:=by simp [B8]
theorem B8_get (l:List UInt8) (i:Nat) (h:i < l.length):(B8 l)[i]? = some (.int .u8 (l.getD i 0).toNat):=by simp [B8,h]
theorem B8_one (l:List UInt8):(B8 l).all (·.oneCell')=true:=by
 rw [Array.all_eq_true_iff_forall_mem];intro v hv;simp [B8] at hv;obtain ⟨_,_,rfl⟩:=hv;rfl
def txt (l:List UInt8):ByteArray:=⟨l.toArray⟩
theorem txt_list (l:List UInt8):(txt l).toList=l:=by
 rw [ByteArray.toList_eq]
 rfl
theorem less_is:∀ x y:List UInt8,(if Op.bytesLess x y=true then (-1:Int) else if (x == y)=true then 0 else 1)=cmpB x y
 | [],[]=>rfl
 | [],_ :: _=>rfl
 | _ :: _,[]=>rfl
 | a :: al,b :: bl=>by
   have ih:=less_is al bl
   unfold Op.bytesLess cmpB
   rcases u8_tri a b with k | rfl | k
   · simp [k]
   · simp only [u8_irrefl,if_false]
     rw [← ih]
     simp
   · have hne:a≠b:=fun e=>by subst e;exact u8_irrefl a k
     simp [k,u8_asymm k,hne]
theorem ret_i {a b:Int} (h:a=b):Ending.returned (.int .i64 a)=.returned (.int .i64 b):=by rw [h]
theorem cmpnanS_any (x:ByteArray) (w:World):Calls Tryz.prog 286 #[.string x] w fun e w'=>e=.returned (.bool false)∧w=w':=by
 go_enter Tryz.func286,Tryz.ntmps286
 go_wp2
 go_ret
 exact ⟨rfl,rfl⟩
theorem compareS_any (w:World) (x y:List UInt8):Calls Tryz.prog 261 #[.string (txt x),.string (txt y)] w fun e w'=>e=.returned (.int .i64 (cmpB x y))∧w=w':=by
 obtain ⟨m,hm⟩:∃ m,m=cmpB x y:=⟨_,rfl⟩
 rw [← hm]
 rw [← less_is] at hm
 have hx:=txt_list x
 have hy:=txt_list y
 generalize txt x=X at hx ⊢
 generalize txt y=Y at hy ⊢
 subst hx hy
 have c1:=cmpnanS_any X w
 have c2:=cmpnanS_any Y w
 have HM:=Lib.hid hm
 clear hm
 go_enter Tryz.func261,Tryz.ntmps261
 go_wp2_with fail
 refine c1.mono ?_
 rintro e w' ⟨rfl,rfl⟩
 go_wp2_with fail
 refine c2.mono ?_
 rintro e w' ⟨rfl,rfl⟩
 clear c1 c2
 go_wp2_with fail
 all_goals (go_ret;have hm:=HM.out;exact ⟨ret_i (by rw [hm];simp_all),rfl⟩)
def firstNZ:List Int→Int
 | []=>0
 | x :: l=>if x=0 then firstNZ l else x
theorem firstNZ_at:∀ (xs:List Int) (k:Nat),(∀ j,j < k→xs.getD j 0=0)→k < xs.length→xs.getD k 0≠0→firstNZ xs=xs.getD k 0
 | [],k,_,h,_=>by simp at h
 | x :: l,0,_,_,h=>by simp at h ⊢;simp [firstNZ,h]
 | x :: l,k+1,h0,h1,h2=>by
   have hx:x=0:=by have:=h0 0 (by omega);simpa using this
   have ih:=firstNZ_at l k (fun j hj=>by have:=h0 (j+1) (by omega);simpa using this) (by simpa using h1) (by simpa using h2)
   unfold firstNZ
   rw [if_pos hx,ih]
   simp
theorem firstNZ_none:∀ (xs:List Int),(∀ j,j < xs.length→xs.getD j 0=0)→firstNZ xs=0
 | [],_=>rfl
 | x :: l,h=>by
   have hx:x=0:=by have:=h 0 (by simp);simpa using this
   unfold firstNZ
   rw [if_pos hx,firstNZ_none l fun j hj=>by have:=h (j+1) (by simp;omega);simpa using this]
theorem or_any (xs:List Int) (g c:Nat) (w:World) (hc:∀ j,j < xs.length→w.cell? ⟨g,j,none⟩=some (.int .i64 (xs.getD j 0))) (hl:xs.length≤100) :
  Calls Tryz.prog 76 #[.slice (some ⟨g,0,none⟩) xs.length c] w fun e w'=>e=.returned (.int .i64 (firstNZ xs))∧w=w':=by
 have HC:=Lib.hid hc
 clear hc
 go_enter Tryz.func76,Tryz.ntmps76
 go_wp2_with fail
 go_loop [8] (fun i=>∃ k:Nat,k≤xs.length∧i=.int .i64 k∧∀ j,j < k→xs.getD j 0=0) (fun i=>xs.length - (intOf i).toNat)
 case atStart=>exact ⟨0,Nat.zero_le _,rfl,fun j hj=>by omega⟩
 case round =>
  obtain ⟨k,hk,rfl,hz⟩:=hrel
  have HZ:=Lib.hid hz
  clear hz
  by_cases hlt:k < xs.length
  ·
   have cc:=HC.out k hlt
   obtain ⟨x,hx⟩:∃ x,x=xs.getD k 0:=⟨_,rfl⟩
   rw [← hx] at cc
   have HX:=Lib.hid hx
   clear hx
   by_cases h0:x=0
   ·
    subst h0
    go_wp2_with fail
    go_round
    case rel=>exact ⟨k+1,by omega,by go_num,fun j hj=>by
     by_cases e:j=k
     ·
      rw [e];exact HX.out.symm
     ·
      exact HZ.out j (by omega)⟩
    case measure=>simp [intOf];omega
   ·
    have hb:(x != 0)=true:=by rw [bne_iff_ne];exact h0
    go_wp2_with fail
    go_ret
    have hx:=HX.out
    exact ⟨ret_i (by rw [firstNZ_at xs k HZ.out hlt (by rw [← hx];exact h0),hx]),rfl⟩
  ·
   have hkl:k=xs.length:=by omega
   subst hkl
   have hd:decide (xs.length < xs.length)=false:=by simp
   go_wp2_with fail
   go_ret
   exact ⟨ret_i (firstNZ_none xs HZ.out).symm,rfl⟩
theorem cmp_find (a b:List UInt8):(match (List.range (min a.length b.length)).find? fun i=>a.getD i 0 != b.getD i 0 with
 | some i=>if a.getD i 0 < b.getD i 0 then (-1:Int) else 1
 | none=>if a.length < b.length then -1 else if a.length > b.length then 1 else 0)=cmpB a b:=by
 induction a generalizing b with
 | nil=>cases b <;> simp [cmpB]
 | cons x al ih =>
   cases b with
   | nil=>simp [cmpB]
   | cons y bl =>
     have hm:min (x :: al).length (y :: bl).length=min al.length bl.length+1:=by simp
     rw [hm,List.range_succ_eq_map]
     unfold cmpB
     rw [List.find?_cons]
     rcases u8_tri x y with k | rfl | k
     · have hne:(x != y)=true:=by rw [bne_iff_ne];intro e;subst e;exact u8_irrefl x k
       simp [hne,k]
     · have ih':=ih bl
       simp only [List.getD_cons_zero,bne_self_eq_false,u8_irrefl,if_false]
       rw [List.find?_map,← ih']
       have e:((fun i=>(x :: al).getD i 0 != (x :: bl).getD i 0) ∘ Nat.succ)=fun i=>al.getD i 0 != bl.getD i 0:=by
        funext i
        simp
       rw [e]
       cases hf:List.find? (fun i=>al.getD i 0 != bl.getD i 0) (List.range (min al.length bl.length)) with
       | none=>simp [Nat.add_lt_add_iff_right]
       | some i=>simp
     · have hne:(x != y)=true:=by rw [bne_iff_ne];intro e;subst e;exact u8_irrefl x k
       simp [hne,k,u8_asymm k]
theorem cmp_is (a b:List UInt8):Extern.BytealgCompare.cmp (txt a) (txt b)=cmpB a b:=by
 rw [← cmp_find]
 have hs:∀ l:List UInt8,(txt l).size=l.length:=fun l=>by show l.toArray.size=_;simp
 have hg:∀ (l:List UInt8) (i:Nat),(txt l)[i]! = l.getD i 0:=fun l i=>by
  by_cases h:i < l.length
  ·
   rw [getElem!_pos (txt l) i (by rw [hs];exact h)]
   show l.toArray[i]=_
   simp [h]
  ·
   rw [getElem!_neg (txt l) i (by rw [hs];exact h)]
   simp [h]
   rfl
 unfold Extern.BytealgCompare.cmp
 simp only [hs,hg]
 cases List.find? (fun i=>a.getD i 0 != b.getD i 0) (List.range (min a.length b.length)) <;> rfl
def Src (w:World) (g off:Nat) (xs:List UInt8):Prop:=∀ j,j < xs.length→w.cell? ⟨g,off+j,none⟩=some (.int .u8 (xs.getD j 0).toNat)
theorem run_bytes {P:Program} (w:World) (g off c:Nat) (l:List UInt8) (h:Src w g off l):(Extern.Bytes.bytesOf (.slice (some ⟨g,off,none⟩) l.length c)).run P w=.ok (txt l) w:=by
 have hl:=Lib.run_loadBytesX (P:=P) w (l.map fun b=>(b.toNat:Int)) ⟨g,off,none⟩ .empty (fun j x hj=>by
  have hjl:j < l.length:=by simpa using (List.getElem?_eq_some_iff.1 hj).1
  have e:(⟨g,off,none⟩:Addr).add j=⟨g,off+j,none⟩:=by unfold Addr.add;split <;> simp_all
  rw [e,h j hjl]
  simp [hjl] at hj
  simp [hjl,hj])
 rw [List.length_map] at hl
 simp only [Extern.Bytes.bytesOf]
 rw [hl]
 congr 1
 apply ByteArray.ext
 have e:(fun n:Int=>UInt8.ofNat n.toNat) ∘ (fun b:UInt8=>(b.toNat:Int))=id:=by
  funext b
  simp
 show (#[]:Array UInt8) ++ _=l.toArray
 simp [Lib.bytesOf,e]
theorem bytealg_run (w:World) (g1 o1 c1 g2 o2 c2:Nat) (a b:List UInt8) (h1:Src w g1 o1 a) (h2:Src w g2 o2 b) :
  (callFunc 143 #[.slice (some ⟨g1,o1,none⟩) a.length c1,.slice (some ⟨g2,o2,none⟩) b.length c2]).run Tryz.prog w=.ok (.value (.int .i64 (cmpB a b))) w:=by
 rw [run_callFunc_extern Tryz.func143 (by kernel_rfl) (by kernel_rfl) (by kernel_rfl) (e:=Extern.BytealgCompare.compare) (by kernel_rfl)]
 change (Sem.run Tryz.prog (do
  let x ← Extern.Bytes.bytesOf (.slice (some ⟨g1,o1,none⟩) a.length c1)
  let y ← Extern.Bytes.bytesOf (.slice (some ⟨g2,o2,none⟩) b.length c2)
  pure (goInt (Extern.BytealgCompare.cmp x y))) w).andThen _=_
 simp only [Sem.run_bind,run_bytes w g1 o1 c1 a h1,run_bytes w g2 o2 c2 b h2,Result.andThen_ok,Sem.run_pure,cmp_is]
 rfl
theorem bytes_any (w:World) (g1 o1 c1 g2 o2 c2:Nat) (a b:List UInt8) (h1:Src w g1 o1 a) (h2:Src w g2 o2 b) :
  Calls Tryz.prog 77 #[.slice (some ⟨g1,o1,none⟩) a.length c1,.slice (some ⟨g2,o2,none⟩) b.length c2] w fun e w'=>e=.returned (.int .i64 (cmpB a b))∧w=w':=by
 have hrun:=bytealg_run w g1 o1 c1 g2 o2 c2 a b h1 h2
 clear h1 h2
 generalize cmpB a b=m at hrun ⊢
 go_enter Tryz.func77,Tryz.ntmps77
 go_wp2
 go_ret
 exact ⟨rfl,rfl⟩
end Go.Proofs.YtilbbemdinpjcaaGreat
namespace Go.Proofs.YtilbbemdinpjcaaGreat
theorem Aj {a b:Prop} (x:a) (y:b):a∧b:=⟨x,y⟩
theorem Hj {p:Prop} (h:p):RowKit.Hid p:=Lib.hid h
theorem Sj:(∀ (a:Act) (d:Tmp) (v:Value),a.put (some d) v={ a with tmps := a.tmps.setIfInBounds d v })∧(∀ (a:Act) (v:Value),a.put none v=a)∧(∀ (l:List Value) (i:Nat) (a:Value),l.toArray.setIfInBounds i a=(l.set i a).toArray)∧(∀ (a b:Value) (l:List Value),(a :: l).set 0 b=b :: l)∧∀ (a b:Value) (l:List Value) (i:Nat),(a :: l).set (i+1) b=a :: l.set i b:=⟨fun _ _ _=>rfl,fun _ _=>rfl,fun l i a=>by simp,fun _ _ _=>rfl,fun _ _ _ _=>rfl⟩
set_option maxRecDepth 100000
open Go.RowKit Go.Sort
def Lies (w:World) (g:Nat) (cs:Array Value) (t:TypeId):Prop:=w.heap[g]? = some (.cells cs t (0,0))
theorem Lies.cell {w:World} {g:Nat} {cs:Array Value} {t:TypeId} (h:Lies w g cs t) (j:Nat) {v:Value} (hv:cs[j]? = some v):w.cell? ⟨g,j,none⟩=some v :=
 (cell_of_row w g j cs t (0,0) h).trans hv
theorem Lies.free {w:World} {g:Nat} {cs:Array Value} {t:TypeId} (h:Lies w g cs t) (j:Nat):w.frozen? ⟨g,j,none⟩=false:=frozen_of_row w g j cs t h
theorem Lies.alloc {w:World} {g:Nat} {cs:Array Value} {t:TypeId} (h:Lies w g cs t) (o:Obj):Lies (w.alloc o) g cs t :=
 (Below.heap_alloc w o g (Array.getElem?_eq_some_iff.1 h).1).trans h
theorem Lies.lt {w:World} {g:Nat} {cs:Array Value} {t:TypeId} (h:Lies w g cs t):g < w.heap.size:=(Array.getElem?_eq_some_iff.1 h).1
theorem Lies.set {w:World} {g:Nat} {cs:Array Value} {t:TypeId} (h:Lies w g cs t) (j:Nat) (v:Value):Lies (w.setCell ⟨g,j,none⟩ v) g (cs.setIfInBounds j v) t :=
 heap_setCell_same w g j cs t v h
theorem Lies.other {w:World} {g:Nat} {cs:Array Value} {t:TypeId} (h:Lies w g cs t) (a:Addr) (v:Value) (hne:g≠a.block):Lies (w.setCell a v) g cs t :=
 (heap_setCell_other w a g v hne).trans h
theorem Lies.below {B:Nat} {w w':World} {g:Nat} {cs:Array Value} {t:TypeId} (h:Lies w g cs t) (hb:Below B w w') (hg:g < B):Lies w' g cs t:=(hb.block g hg).trans h
theorem Lies.new (w:World) (cs:Array Value) (t:TypeId):Lies (w.alloc (.cells cs t)) w.heap.size cs t:=heap_alloc_new w _
theorem Lies.setRow {w:World} {g:Nat} {cs:Array Value} {t:TypeId} (h:Lies w g cs t) (cs':Array Value):Lies (w.setRow g cs') g cs' t:=setRow_heap w g cs cs' t _ h
theorem Lies.setRowOther {w:World} {g:Nat} {cs:Array Value} {t:TypeId} (h:Lies w g cs t) (k:Nat) (cs':Array Value) (hne:g≠k):Lies (w.setRow k cs') g cs t:=(setRow_other w k g cs' hne).trans h
theorem below_setRow {B:Nat} {a w:World} (h:Below B a w) (g:Nat) (cs:Array Value) (hg:B≤g):Below B a (w.setRow g cs) :=
 h.trans ⟨rfl,rfl,rfl,by simp,fun k hk=>setRow_other w g k cs (by omega)⟩
theorem size_set (w:World) (a:Addr) (v:Value):(w.setCell a v).heap.size=w.heap.size:=by simp [World.setCell]
theorem Src.below {B:Nat} {w w':World} {g off:Nat} {xs:List UInt8} (h:Src w g off xs) (hb:Below B w w') (hg:g < B):Src w' g off xs:=fun j hj =>
 (hb.cell (p:=⟨g,off+j,none⟩) hg).trans (h j hj)
def nmC (n:Nm):Array Value:=B8 n.1 ++ #[.string (txt n.2)]
theorem nmC_size (n:Nm) (h:n.1.length=32):(nmC n).size=33:=by simp [nmC,B8_size,h]
theorem nmC_get (n:Nm) (h:n.1.length=32) (j:Nat) (hj:j < 32):(nmC n)[j]? = some (.int .u8 (n.1.getD j 0).toNat):=by
 unfold nmC
 rw [Array.getElem?_append_left (by rw [B8_size];omega)]
 exact B8_get _ _ (by omega)
theorem nmC_txt (n:Nm) (h:n.1.length=32):(nmC n)[32]? = some (.string (txt n.2)):=by
 unfold nmC
 rw [Array.getElem?_append_right (by rw [B8_size];omega),B8_size,h]
 rfl
theorem nmC_one (n:Nm):(nmC n).all (·.oneCell')=true:=by
 unfold nmC
 rw [Array.all_append,B8_one]
 simp [Value.oneCell']
theorem src_nm {w:World} {g:Nat} {n:Nm} (h:n.1.length=32) (hl:Lies w g (nmC n) 255):Src w g 0 n.1:=fun j hj=>by
 rw [Nat.zero_add]
 exact hl.cell j (nmC_get n h j (by omega))
theorem cN_nz (a b:Nm):firstNZ [cmpB a.1 b.1,cmpB a.2 b.2]=cN a b:=by
 unfold cN
 simp only [firstNZ]
 split
 ·
  split
  ·
   rename_i h;exact h.symm
  ·
   rfl
 ·
  rfl
theorem order_gro (w:World) (a b:Nm) (ha:a.1.length=32) (hb:b.1.length=32) :
 Calls Tryz.prog 205 #[.agg (nmC a),.agg (nmC b)] w fun e w'=>e=.returned (.int .i64 (cN a b))∧Below w.heap.size w w'∧w.drawn≤w'.drawn:=by
 obtain ⟨va,hva⟩:∃ v,v=nmC a:=⟨_,rfl⟩
 obtain ⟨vb,hvb⟩:∃ v,v=nmC b:=⟨_,rfl⟩
 rw [← hva,← hvb]
 have HA:=Lib.hid (And.intro hva (And.intro hvb (And.intro ha hb)))
 clear hva hvb ha hb
 go_enter Tryz.func205,Tryz.ntmps205
 go_upto_region 1 with fail
 have hl1:Lies ((w.alloc (.cells va 255)).alloc (.cells vb 255)) w.heap.size va 255:=(Lies.new _ _ _).alloc _
 have hl2:Lies ((w.alloc (.cells va 255)).alloc (.cells vb 255)) (w.heap.size+1) vb 255:=by
  have:=Lies.new (w.alloc (.cells va 255)) vb 255
  simpa using this
 have hb0:Below w.heap.size w ((w.alloc (.cells va 255)).alloc (.cells vb 255)):=((Below.refl _ _).alloc (Nat.le_refl _) _).alloc (by simp) _
 have HD0:Hid (w.drawn≤((w.alloc (.cells va 255)).alloc (.cells vb 255)).drawn):=Lib.hid (Nat.le_refl _)
 generalize (w.alloc (.cells va 255)).alloc (.cells vb 255)=W0 at hl1 hl2 hb0 HD0 ⊢
 obtain ⟨g1,hg1⟩:∃ g,g=w.heap.size:=⟨_,rfl⟩
 obtain ⟨g2,hg2⟩:∃ g,g=w.heap.size+1:=⟨_,rfl⟩
 rw [← hg2] at hl2 ⊢
 rw [← hg1] at hl1 ⊢
 have hkk:∀ V,Below W0.heap.size W0 V→V.cell? ⟨g1,32,none⟩=some (.string (txt a.2))∧V.cell? ⟨g2,32,none⟩=some (.string (txt b.2)):=fun V hV=>by
  have h1:=hl1.below hV hl1.lt
  have h2:=hl2.below hV hl2.lt
  rw [HA.out.1] at h1
  rw [HA.out.2.1] at h2
  exact ⟨h1.cell 32 (nmC_txt a HA.out.2.2.1),h2.cell 32 (nmC_txt b HA.out.2.2.2)⟩
 have hcmp:∀ V,Below W0.heap.size W0 V→Calls Tryz.prog 77 #[.slice (some ⟨g1,0,none⟩) 32 32,.slice (some ⟨g2,0,none⟩) 32 32] V fun e w'=>e=.returned (.int .i64 (cmpB a.1 b.1))∧V=w':=fun V hV=>by
  have h1:=hl1.below hV hl1.lt
  have h2:=hl2.below hV hl2.lt
  rw [HA.out.1] at h1
  rw [HA.out.2.1] at h2
  have:=bytes_any V g1 0 32 g2 0 32 a.1 b.1 (src_nm HA.out.2.2.1 h1) (src_nm HA.out.2.2.2 h2)
  rw [HA.out.2.2.1,HA.out.2.2.2] at this
  exact this
 have hs0:=hkk _ ((Below.refl _ _).drew)
 have hstr:=fun V=>compareS_any V a.2 b.2
 obtain ⟨x,hx⟩:∃ x,x=cmpB a.1 b.1:=⟨_,rfl⟩
 obtain ⟨y,hy⟩:∃ y,y=cmpB a.2 b.2:=⟨_,rfl⟩
 have hor:∀ V:World,V.cell? ⟨W0.heap.size,0,none⟩=some (.int .i64 x)→V.cell? ⟨W0.heap.size,1,none⟩=some (.int .i64 y)→Calls Tryz.prog 76 #[.slice (some ⟨W0.heap.size,0,none⟩) 2 2] V fun e w'=>e=.returned (.int .i64 (cN a b))∧V=w':=fun V h1 h2=>by
  have:=or_any [x,y] W0.heap.size 2 V (fun j hj=>by
   have:j=0 ∨ j=1:=by simp at hj;omega
   rcases this with rfl | rfl
   ·
    exact h1
   ·
    exact h2) (by simp)
  rw [hx,hy,cN_nz] at this
  exact this
 rw [← hx] at hcmp
 rw [← hy] at hstr
 generalize txt a.2=ta at hs0 hkk hstr ⊢
 generalize txt b.2=tb at hs0 hkk hstr ⊢
 obtain ⟨z,hz⟩:∃ z,z=cN a b:=⟨_,rfl⟩
 rw [← hz] at hor
 have HZ:=Lib.hid hz.symm
 clear hz
 have HK:=Lib.hid hkk
 have HC:=Lib.hid hcmp
 have HT:=Lib.hid hstr
 have HO:=Lib.hid hor
 have HB:=Lib.hid (show ∀ V,Below W0.heap.size W0 V→Below w.heap.size w V from fun V hV=>hb0.trans (hV.mono hb0.size))
 have d0:Below W0.heap.size W0 W0.drew:=(Below.refl _ _).drew
 clear hl1 hl2 hkk hcmp hstr hor hx hy hb0 hg1 hg2 HA
 have d1:∀ c:Array Value,Below W0.heap.size W0 (W0.drew.alloc (.cells c 3)):=fun c=>d0.alloc (Nat.le_refl _) _
 have s1:=HK.out _ (d1 #[.int .i64 x,.int .i64 y])
 have h0:=(Lies.new W0.drew #[.int .i64 x,.int .i64 y] 3).cell 0 (v:=.int .i64 x) rfl
 have h1:=(Lies.new W0.drew #[.int .i64 x,.int .i64 y] 3).cell 1 (v:=.int .i64 y) rfl
 go_region_held3 (fun V=>V.cell? ⟨g1,32,none⟩=some (.string ta)∧V.cell? ⟨g2,32,none⟩=some (.string tb))
  (first | exact hs0 | exact s1)
  (first
   | (with_reducible refine (HC.out _ d0).mono ?_;rintro e w5 ⟨rfl,rfl⟩)
   | (with_reducible refine (HT.out _).mono ?_;rintro e w5 ⟨rfl,rfl⟩)
   | (with_reducible refine (HO.out _ h0 h1).mono ?_;rintro e w5 ⟨rfl,rfl⟩))
 go_wp2_with fail
 go_ret
 exact ⟨ret_i HZ.out.symm,HB.out _ (((Below.refl _ _).alloc (Nat.le_refl _) _).drew),Nat.le_trans HD0.out (Nat.le_succ _)⟩
theorem order_any (w:World) (a b:Nm) (ha:a.1.length=32) (hb:b.1.length=32) :
  Calls Tryz.prog 205 #[.agg (nmC a),.agg (nmC b)] w fun e w'=>e=.returned (.int .i64 (cN a b))∧Below w.heap.size w w' :=
 (order_gro w a b ha hb).mono fun _ _ h=>⟨h.1,h.2.1⟩
end Go.Proofs.YtilbbemdinpjcaaGreat
namespace Go.Proofs.YtilbbemdinpjcaaGreat
set_option maxRecDepth 100000
open Go.RowKit Go.Sort
theorem list32 (h:List UInt8) (hh:h.length=32):∃ a0 a1 a2 a3 a4 a5 a6 a7 a8 a9 a10 a11 a12 a13 a14 a15 a16 a17 a18 a19 a20 a21 a22 a23 a24 a25 a26 a27 a28 a29 a30 a31:UInt8,h=[a0,a1,a2,a3,a4,a5,a6,a7,a8,a9,a10,a11,a12,a13,a14,a15,a16,a17,a18,a19,a20,a21,a22,a23,a24,a25,a26,a27,a28,a29,a30,a31]:=by
 obtain ⟨a0,h,rfl⟩:∃ a t,h=a :: t:=by cases h with | nil=>simp at hh | cons a t=>exact ⟨a,t,rfl⟩
 obtain ⟨a1,h,rfl⟩:∃ a t,h=a :: t:=by cases h with | nil=>simp at hh | cons a t=>exact ⟨a,t,rfl⟩
 obtain ⟨a2,h,rfl⟩:∃ a t,h=a :: t:=by cases h with | nil=>simp at hh | cons a t=>exact ⟨a,t,rfl⟩
 obtain ⟨a3,h,rfl⟩:∃ a t,h=a :: t:=by cases h with | nil=>simp at hh | cons a t=>exact ⟨a,t,rfl⟩
 obtain ⟨a4,h,rfl⟩:∃ a t,h=a :: t:=by cases h with | nil=>simp at hh | cons a t=>exact ⟨a,t,rfl⟩
 obtain ⟨a5,h,rfl⟩:∃ a t,h=a :: t:=by cases h with | nil=>simp at hh | cons a t=>exact ⟨a,t,rfl⟩
 obtain ⟨a6,h,rfl⟩:∃ a t,h=a :: t:=by cases h with | nil=>simp at hh | cons a t=>exact ⟨a,t,rfl⟩
 obtain ⟨a7,h,rfl⟩:∃ a t,h=a :: t:=by cases h with | nil=>simp at hh | cons a t=>exact ⟨a,t,rfl⟩
 obtain ⟨a8,h,rfl⟩:∃ a t,h=a :: t:=by cases h with | nil=>simp at hh | cons a t=>exact ⟨a,t,rfl⟩
 obtain ⟨a9,h,rfl⟩:∃ a t,h=a :: t:=by cases h with | nil=>simp at hh | cons a t=>exact ⟨a,t,rfl⟩
 obtain ⟨a10,h,rfl⟩:∃ a t,h=a :: t:=by cases h with | nil=>simp at hh | cons a t=>exact ⟨a,t,rfl⟩
 obtain ⟨a11,h,rfl⟩:∃ a t,h=a :: t:=by cases h with | nil=>simp at hh | cons a t=>exact ⟨a,t,rfl⟩
 obtain ⟨a12,h,rfl⟩:∃ a t,h=a :: t:=by cases h with | nil=>simp at hh | cons a t=>exact ⟨a,t,rfl⟩
 obtain ⟨a13,h,rfl⟩:∃ a t,h=a :: t:=by cases h with | nil=>simp at hh | cons a t=>exact ⟨a,t,rfl⟩
 obtain ⟨a14,h,rfl⟩:∃ a t,h=a :: t:=by cases h with | nil=>simp at hh | cons a t=>exact ⟨a,t,rfl⟩
 obtain ⟨a15,h,rfl⟩:∃ a t,h=a :: t:=by cases h with | nil=>simp at hh | cons a t=>exact ⟨a,t,rfl⟩
 obtain ⟨a16,h,rfl⟩:∃ a t,h=a :: t:=by cases h with | nil=>simp at hh | cons a t=>exact ⟨a,t,rfl⟩
 obtain ⟨a17,h,rfl⟩:∃ a t,h=a :: t:=by cases h with | nil=>simp at hh | cons a t=>exact ⟨a,t,rfl⟩
 obtain ⟨a18,h,rfl⟩:∃ a t,h=a :: t:=by cases h with | nil=>simp at hh | cons a t=>exact ⟨a,t,rfl⟩
 obtain ⟨a19,h,rfl⟩:∃ a t,h=a :: t:=by cases h with | nil=>simp at hh | cons a t=>exact ⟨a,t,rfl⟩
 obtain ⟨a20,h,rfl⟩:∃ a t,h=a :: t:=by cases h with | nil=>simp at hh | cons a t=>exact ⟨a,t,rfl⟩
 obtain ⟨a21,h,rfl⟩:∃ a t,h=a :: t:=by cases h with | nil=>simp at hh | cons a t=>exact ⟨a,t,rfl⟩
 obtain ⟨a22,h,rfl⟩:∃ a t,h=a :: t:=by cases h with | nil=>simp at hh | cons a t=>exact ⟨a,t,rfl⟩
 obtain ⟨a23,h,rfl⟩:∃ a t,h=a :: t:=by cases h with | nil=>simp at hh | cons a t=>exact ⟨a,t,rfl⟩
 obtain ⟨a24,h,rfl⟩:∃ a t,h=a :: t:=by cases h with | nil=>simp at hh | cons a t=>exact ⟨a,t,rfl⟩
 obtain ⟨a25,h,rfl⟩:∃ a t,h=a :: t:=by cases h with | nil=>simp at hh | cons a t=>exact ⟨a,t,rfl⟩
 obtain ⟨a26,h,rfl⟩:∃ a t,h=a :: t:=by cases h with | nil=>simp at hh | cons a t=>exact ⟨a,t,rfl⟩
 obtain ⟨a27,h,rfl⟩:∃ a t,h=a :: t:=by cases h with | nil=>simp at hh | cons a t=>exact ⟨a,t,rfl⟩
 obtain ⟨a28,h,rfl⟩:∃ a t,h=a :: t:=by cases h with | nil=>simp at hh | cons a t=>exact ⟨a,t,rfl⟩
 obtain ⟨a29,h,rfl⟩:∃ a t,h=a :: t:=by cases h with | nil=>simp at hh | cons a t=>exact ⟨a,t,rfl⟩
 obtain ⟨a30,h,rfl⟩:∃ a t,h=a :: t:=by cases h with | nil=>simp at hh | cons a t=>exact ⟨a,t,rfl⟩
 obtain ⟨a31,h,rfl⟩:∃ a t,h=a :: t:=by cases h with | nil=>simp at hh | cons a t=>exact ⟨a,t,rfl⟩
 have:h=[]:=by simpa using hh
 subst this
 exact ⟨_,_,_,_,_,_,_,_,_,_,_,_,_,_,_,_,_,_,_,_,_,_,_,_,_,_,_,_,_,_,_,_,rfl⟩
structure As where
 nm:Nm
 amt:Int
def asC (a:As):Array Value:=B8 a.nm.1 ++ #[.string (txt a.nm.2),.int .i64 a.amt]
def AsOk (a:As):Prop:=a.nm.1.length=32∧a.nm.2.length≤maxLen∧-9223372036854775808≤a.amt∧a.amt < 9223372036854775808
theorem asC_size (a:As) (h:a.nm.1.length=32):(asC a).size=34:=by simp [asC,B8_size,h]
theorem asC_one (a:As):(asC a).all (·.oneCell')=true:=by
 unfold asC
 rw [Array.all_append,B8_one]
 simp [Value.oneCell']
theorem asC_get (a:As) (h:a.nm.1.length=32) (j:Nat) (hj:j < 32):(asC a)[j]? = some (.int .u8 (a.nm.1.getD j 0).toNat):=by
 unfold asC
 rw [Array.getElem?_append_left (by rw [B8_size];omega)]
 exact B8_get _ _ (by omega)
theorem asC_txt (a:As) (h:a.nm.1.length=32):(asC a)[32]? = some (.string (txt a.nm.2)):=by
 unfold asC
 rw [Array.getElem?_append_right (by rw [B8_size];omega),B8_size,h]
 rfl
theorem asC_amt (a:As) (h:a.nm.1.length=32):(asC a)[33]? = some (.int .i64 a.amt):=by
 unfold asC
 rw [Array.getElem?_append_right (by rw [B8_size];omega),B8_size,h]
 rfl
theorem built_called (p:List UInt8) (hp:p.length=32) (t:ByteArray):Tryz.prog.built 255 [(0,.agg (B8 p)),(1,.string t)]=some (B8 p ++ #[.string t]):=by
 obtain ⟨a0,a1,a2,a3,a4,a5,a6,a7,a8,a9,a10,a11,a12,a13,a14,a15,a16,a17,a18,a19,a20,a21,a22,a23,a24,a25,a26,a27,a28,a29,a30,a31,rfl⟩:=list32 p hp
 kernel_rfl
def z33:Array Value:=(Array.replicate 32 (.int .u8 0)).push (.string ⟨#[]⟩)
theorem info_called:(Tryz.prog.info? 255).map (·.size)=some 33:=by kernel_rfl
theorem info_hash:(Tryz.prog.info? 30).map (·.size)=some 32:=by kernel_rfl
theorem info_asset:(Tryz.prog.info? 146).map (·.size)=some 34:=by kernel_rfl
theorem pol_range {w:World} {g off:Nat} {p:List UInt8} (h:Src w g off p):w.rangeAt g off (B8 p).toList:=fun j v hv=>by
 have hj:j < p.length:=by
  have:=(List.getElem?_eq_some_iff.1 hv).1
  rwa [Array.length_toList,B8_size] at this
 rw [Array.getElem?_toList,B8_get _ j hj] at hv
 rw [h j hj]
 exact hv
attribute [-go_sem] Instr.build
theorem callAsset_any (w:World) (a:As) (ha:a.nm.1.length=32) :
  Calls Tryz.prog 131 #[.agg (asC a)] w fun e w'=>e=.returned (.agg (nmC a.nm))∧Below w.heap.size w w':=by
 obtain ⟨va,hva⟩:∃ v,v=asC a:=⟨_,rfl⟩
 obtain ⟨z,hz⟩:∃ z,z=z33:=⟨_,rfl⟩
 rw [← hva]
 have HA:=Lib.hid (And.intro hva (And.intro ha hz))
 clear hva ha
 go_enter Tryz.func131,Tryz.ntmps131
 go_upto_region 1 with fail
 rw [show (#[Value.int .u8 0,.int .u8 0,.int .u8 0,.int .u8 0,.int .u8 0,.int .u8 0,.int .u8 0,.int .u8 0,.int .u8 0,.int .u8 0,.int .u8 0,.int .u8 0,.int .u8 0,.int .u8 0,.int .u8 0,.int .u8 0,.int .u8 0,.int .u8 0,.int .u8 0,.int .u8 0,.int .u8 0,.int .u8 0,.int .u8 0,.int .u8 0,.int .u8 0,.int .u8 0,.int .u8 0,.int .u8 0,.int .u8 0,.int .u8 0,.int .u8 0,.int .u8 0,.string ⟨#[]⟩]:Array Value)=z from by rw [hz];kernel_rfl]
 have hl1:Lies ((w.alloc (.cells va 146)).alloc (.cells z 255)) w.heap.size va 146:=(Lies.new _ _ _).alloc _
 have hl2:Lies ((w.alloc (.cells va 146)).alloc (.cells z 255)) (w.heap.size+1) z 255:=by
  have:=Lies.new (w.alloc (.cells va 146)) z 255
  simpa using this
 have hb0:Below w.heap.size w ((w.alloc (.cells va 146)).alloc (.cells z 255)):=((Below.refl _ _).alloc (Nat.le_refl _) _).alloc (by simp) _
 generalize (w.alloc (.cells va 146)).alloc (.cells z 255)=W0 at hl1 hl2 hb0 ⊢
 rw [HA.out.1] at hl1
 have hp:Src W0 w.heap.size 0 a.nm.1:=fun j hj=>by
  rw [Nat.zero_add]
  exact hl1.cell j (asC_get a HA.out.2.1 j (by rw [← HA.out.2.1];exact hj))
 have c32:=hl1.cell 32 (asC_txt a HA.out.2.1)
 have HP:=Lib.hid (And.intro (pol_range hp) (And.intro hl2 hb0))
 have hnm:nmC a.nm=B8 a.nm.1 ++ #[.string (txt a.nm.2)]:=rfl
 have hsz:(B8 a.nm.1).size=32:=by rw [B8_size];exact HA.out.2.1
 have HN:=Lib.hid (And.intro hnm (And.intro hsz (nmC_size a.nm HA.out.2.1)))
 obtain ⟨pv,hpv⟩:∃ v,v=B8 a.nm.1:=⟨_,rfl⟩
 obtain ⟨tv,htv⟩:∃ v,v=txt a.nm.2:=⟨_,rfl⟩
 obtain ⟨nv,hnv⟩:∃ v,v=nmC a.nm:=⟨_,rfl⟩
 have hbl:∀ W,(Instr.build 255 #[(0,.agg pv),(1,.string tv)]).run Tryz.prog W=.ok (.agg nv) W:=fun W=>by
  rw [hpv,htv,hnv]
  exact run_build W 255 _ _ (built_called a.nm.1 HA.out.2.1 (txt a.nm.2))
 rw [← hpv] at HP HN
 rw [← htv] at c32
 rw [← hnv] at HN
 have HV:=Lib.hid (And.intro hpv hnv)
 clear hl1 hl2 hb0 hp hz hnm hsz hpv htv hnv
 go_wp2_with (first
  | (refine wpList_load_mid rfl 30 _ rfl w.heap.size 0 rfl pv.toList _ HP.out.1 Tryz.underlying30 rfl (by rw [Array.length_toList,HN.out.2.1];exact info_hash) ?_)
  | (refine wpList_store_row rfl 255 _ _ rfl (w.heap.size+1) nv rfl rfl 255 z HP.out.2.1 (by rw [HN.out.2.2];exact info_called) (by rw [HN.out.2.2,HA.out.2.2];rfl) (by rw [HV.out.2];exact nmC_one _) ?_))
 refine bodyPost_ret (v:=.agg nv) (results_cell_row (p:=2) (ty:=255) (by kernel_rfl) _ _ (w.heap.size+1) 255 nv (0,0) _ rfl (HP.out.2.1.setRow _) Tryz.underlying255 rfl (by rw [HN.out.2.2];exact info_called)) rfl ⟨by rw [HV.out.2],below_setRow HP.out.2.2 _ _ (by omega)⟩
theorem isPos_any (w:World) (a:As) (ha:a.nm.1.length=32) :
  Calls Tryz.prog 129 #[.agg (asC a)] w fun e w'=>e=.returned (.bool (decide (1≤a.amt)))∧Below w.heap.size w w':=by
 obtain ⟨va,hva⟩:∃ v,v=asC a:=⟨_,rfl⟩
 rw [← hva]
 have hl:Lies (w.alloc (.cells va 146)) w.heap.size va 146:=Lies.new _ _ _
 rw [hva] at hl
 have c33:=hl.cell 33 (asC_amt a ha)
 rw [← hva] at c33
 have hb:Below w.heap.size w (w.alloc (.cells va 146)):=(Below.refl _ _).alloc (Nat.le_refl _) _
 have HB:=Lib.hid hb
 clear hl hb hva ha
 generalize a.amt=x at c33 ⊢
 go_enter Tryz.func129,Tryz.ntmps129
 go_wp2
 go_ret
 exact ⟨rfl,HB.out⟩
end Go.Proofs.YtilbbemdinpjcaaGreat
