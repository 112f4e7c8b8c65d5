/-
  A new reader of bytes that came in: nil, empty or not.
-/
import Derived.Test.YtilbbemdinpjcaaGreatJWRRf
import Derived.Test.YtilbbemdinpjcaaGreatJWRTzero
import Derived.Test.YtilbbemdinpjcaaGreatJWTwo
import Derived.Laws.AppendOwnNone
import Derived.Deep.CutRange
import Derived.Deep.MidRow
import Derived.Test.YtilbbemdinpjcaaGreatJWWantSt
namespace Go.Proofs.YtilbbemdinpjcaaGreat.W
open Go.RowKit
def RSt (w:World) (g k:Nat) (xs:List UInt8) (c:Nat):Option Nat→Prop
 | some a=>a≤xs.length∧Rdr w g k xs c a false
 | none=>∃ a,Rdr w g k xs c a true
theorem RSt.below {w w':World} {g k:Nat} {xs:List UInt8} {c:Nat} {st:Option Nat} (h:RSt w g k xs c st) (hb:Below w.heap.size w w'):RSt w' g k xs c st:=by
 cases st with
 | none=>obtain ⟨a,h⟩:=h;exact ⟨a,h.below hb⟩
 | some a=>exact ⟨h.1,h.2.below hb⟩
theorem RSt.lt {w:World} {g k:Nat} {xs:List UInt8} {c:Nat} {st:Option Nat} (h:RSt w g k xs c st):g < w.heap.size∧k < w.heap.size∧k≠g:=by
 cases st with
 | none=>obtain ⟨a,h⟩:=h;exact ⟨h.1.lt,h.2.2.2.1,h.2.2.1⟩
 | some a=>exact ⟨h.2.1.lt,h.2.2.2.2.1,h.2.2.2.1⟩
theorem RSt.only {w w':World} {g k g':Nat} {xs:List UInt8} {c:Nat} {st:Option Nat} (h:RSt w g k xs c st) (ho:Only g' w w' none) (h1:g≠g') (h2:k≠g'):RSt w' g k xs c st:=by
 have key:∀ a sp,Rdr w g k xs c a sp→Rdr w' g k xs c a sp:=fun a sp h=>⟨ho.lies h.1 h1,h.2.1.only ho h.2.2.2.1 h2,h.2.2.1,Nat.lt_of_lt_of_le h.2.2.2.1 ho.size,h.2.2.2.2⟩
 cases st with
 | none=>obtain ⟨a,h⟩:=h;exact ⟨a,key _ _ h⟩
 | some a=>exact ⟨h.1,key _ _ h.2⟩
theorem Rdr.idle {w:World} {g k:Nat} {xs:List UInt8} {c a:Nat} (h:Rdr w g k xs c a true):Idle w (some ⟨g,0,none⟩):=.inr ⟨g,rfl,h.1.lt,.inr ⟨h.1.cell 0 rfl,h.1.cell 1 rfl⟩⟩
def numV (xs:List UInt8) (st:Option Nat) (s:Nat):Nat:=match st with | some a=>if a+s≤xs.length then beVal ((xs.drop a).take s) else 0 | none=>0
def numS (xs:List UInt8) (st:Option Nat) (s:Nat):Option Nat:=match st with | some a=>if a+s≤xs.length then some (a+s) else none | none=>none
def hashV (xs:List UInt8) (st:Option Nat):List UInt8:=match st with | some a=>if a+32≤xs.length then (xs.drop a).take 32 else List.replicate 32 0 | none=>List.replicate 32 0
def RawOk (xs:List UInt8) (a:Nat) (n:Int):Prop:=0≤n∧n≤(xs.length:Int) - a
instance (xs:List UInt8) (a:Nat) (n:Int):Decidable (RawOk xs a n):=by unfold RawOk;infer_instance
def TextOk (xs:List UInt8) (a:Nat) (m:Int):Prop:=a+2≤xs.length∧(beVal ((xs.drop a).take 2):Int)≤m∧a+2+beVal ((xs.drop a).take 2)≤xs.length
instance (xs:List UInt8) (a:Nat) (m:Int):Decidable (TextOk xs a m):=by unfold TextOk;infer_instance
def textV (xs:List UInt8) (st:Option Nat) (m:Int):List UInt8:=match st with | some a=>if TextOk xs a m then (xs.drop (a+2)).take (beVal ((xs.drop a).take 2)) else [] | none=>[]
def textS (xs:List UInt8) (st:Option Nat) (m:Int):Option Nat:=match st with | some a=>if TextOk xs a m then some (a+2+beVal ((xs.drop a).take 2)) else none | none=>none
def FlagOk (xs:List UInt8) (a:Nat):Prop:=a+1≤xs.length∧beVal ((xs.drop a).take 1)≤1
instance (xs:List UInt8) (a:Nat):Decidable (FlagOk xs a):=by unfold FlagOk;infer_instance
def flagV (xs:List UInt8) (st:Option Nat):Bool:=match st with | some a=>if FlagOk xs a then decide (beVal ((xs.drop a).take 1)=1) else false | none=>false
def flagS (xs:List UInt8) (st:Option Nat):Option Nat:=match st with | some a=>if FlagOk xs a then some (a+1) else none | none=>none
def CountOk (xs:List UInt8) (a:Nat) (m:Int):Prop:=a+2≤xs.length∧(beVal ((xs.drop a).take 2):Int)≤m
instance (xs:List UInt8) (a:Nat) (m:Int):Decidable (CountOk xs a m):=by unfold CountOk;infer_instance
def countV (xs:List UInt8) (st:Option Nat) (m:Int):Nat:=match st with | some a=>if CountOk xs a m then beVal ((xs.drop a).take 2) else 0 | none=>0
def countS (xs:List UInt8) (st:Option Nat) (m:Int):Option Nat:=match st with | some a=>if CountOk xs a m then some (a+2) else none | none=>none
def leftV (xs:List UInt8) (st:Option Nat):Nat:=match st with | some a=>xs.length - a | none=>0
def errV (st:Option Nat):Int:=if st.isNone then 4 else 0
theorem ask25_st (w:World) (g k:Nat) (xs:List UInt8) (c:Nat) (st:Option Nat) (h:RSt w g k xs c st) :
 Calls Tryz.prog 200 #[.pointer (some ⟨g,0,none⟩)] w fun e w'=>e=.returned (.int .i64 (numV xs st 1))∧RSt w' g k xs c (numS xs st 1)∧Only g w w' none:=by
 cases st with
 | none =>
   obtain ⟨a,h⟩:=h
   refine (ask25_idle w _ h.idle).mono ?_
   rintro e w' ⟨rfl,hb⟩
   exact ⟨rfl,⟨a,h.below hb⟩,only_below hb⟩
 | some a =>
   obtain ⟨ha,h⟩:=h
   by_cases hn:a+1≤xs.length
   · refine (ask25_good w g k xs c a h hn).mono ?_
     rintro e w' ⟨rfl,hr,ho⟩
     refine ⟨by simp [numV,hn] <;> rfl,?_,ho⟩
     simp only [numS,if_pos hn]
     exact ⟨hn,hr⟩
   · refine (ask25_bad w g k xs c a h ha (by omega)).mono ?_
     rintro e w' ⟨rfl,hr,ho⟩
     refine ⟨by simp [numV,hn] <;> rfl,?_,ho⟩
     simp only [numS,if_neg hn]
     exact ⟨a,hr⟩
theorem ask53_st (w:World) (g k:Nat) (xs:List UInt8) (c:Nat) (st:Option Nat) (h:RSt w g k xs c st) :
 Calls Tryz.prog 251 #[.pointer (some ⟨g,0,none⟩)] w fun e w'=>e=.returned (.int .i64 (numV xs st 2))∧RSt w' g k xs c (numS xs st 2)∧Only g w w' none:=by
 cases st with
 | none =>
   obtain ⟨a,h⟩:=h
   refine (ask53_idle w _ h.idle).mono ?_
   rintro e w' ⟨rfl,hb⟩
   exact ⟨rfl,⟨a,h.below hb⟩,only_below hb⟩
 | some a =>
   obtain ⟨ha,h⟩:=h
   by_cases hn:a+2≤xs.length
   · refine (ask53_good w g k xs c a h hn).mono ?_
     rintro e w' ⟨rfl,hr,ho⟩
     refine ⟨by simp [numV,hn] <;> rfl,?_,ho⟩
     simp only [numS,if_pos hn]
     exact ⟨hn,hr⟩
   · refine (ask53_bad w g k xs c a h ha (by omega)).mono ?_
     rintro e w' ⟨rfl,hr,ho⟩
     refine ⟨by simp [numV,hn] <;> rfl,?_,ho⟩
     simp only [numS,if_neg hn]
     exact ⟨a,hr⟩
theorem ask54_st (w:World) (g k:Nat) (xs:List UInt8) (c:Nat) (st:Option Nat) (h:RSt w g k xs c st) :
 Calls Tryz.prog 224 #[.pointer (some ⟨g,0,none⟩)] w fun e w'=>e=.returned (.int .i64 (numV xs st 4))∧RSt w' g k xs c (numS xs st 4)∧Only g w w' none:=by
 cases st with
 | none =>
   obtain ⟨a,h⟩:=h
   refine (ask54_idle w _ h.idle).mono ?_
   rintro e w' ⟨rfl,hb⟩
   exact ⟨rfl,⟨a,h.below hb⟩,only_below hb⟩
 | some a =>
   obtain ⟨ha,h⟩:=h
   by_cases hn:a+4≤xs.length
   · refine (ask54_good w g k xs c a h hn).mono ?_
     rintro e w' ⟨rfl,hr,ho⟩
     refine ⟨by simp [numV,hn] <;> rfl,?_,ho⟩
     simp only [numS,if_pos hn]
     exact ⟨hn,hr⟩
   · refine (ask54_bad w g k xs c a h ha (by omega)).mono ?_
     rintro e w' ⟨rfl,hr,ho⟩
     refine ⟨by simp [numV,hn] <;> rfl,?_,ho⟩
     simp only [numS,if_neg hn]
     exact ⟨a,hr⟩
theorem ask55_st (w:World) (g k:Nat) (xs:List UInt8) (c:Nat) (st:Option Nat) (h:RSt w g k xs c st) :
 Calls Tryz.prog 256 #[.pointer (some ⟨g,0,none⟩)] w fun e w'=>e=.returned (.int .u64 (numV xs st 8))∧RSt w' g k xs c (numS xs st 8)∧Only g w w' none:=by
 cases st with
 | none =>
   obtain ⟨a,h⟩:=h
   refine (ask55_idle w _ h.idle).mono ?_
   rintro e w' ⟨rfl,hb⟩
   exact ⟨rfl,⟨a,h.below hb⟩,only_below hb⟩
 | some a =>
   obtain ⟨ha,h⟩:=h
   by_cases hn:a+8≤xs.length
   · refine (ask55_good w g k xs c a h hn).mono ?_
     rintro e w' ⟨rfl,hr,ho⟩
     refine ⟨by simp [numV,hn] <;> rfl,?_,ho⟩
     simp only [numS,if_pos hn]
     exact ⟨hn,hr⟩
   · refine (ask55_bad w g k xs c a h ha (by omega)).mono ?_
     rintro e w' ⟨rfl,hr,ho⟩
     refine ⟨by simp [numV,hn] <;> rfl,?_,ho⟩
     simp only [numS,if_neg hn]
     exact ⟨a,hr⟩
theorem ask56_st (w:World) (g k:Nat) (xs:List UInt8) (c:Nat) (st:Option Nat) (h:RSt w g k xs c st) :
 Calls Tryz.prog 221 #[.pointer (some ⟨g,0,none⟩)] w fun e w'=>e=.returned (.int .i64 (IntKind.i64.wrap (numV xs st 8)))∧RSt w' g k xs c (numS xs st 8)∧Only g w w' none:=by
 cases st with
 | none =>
   obtain ⟨a,h⟩:=h
   refine (ask56_idle w _ h.idle).mono ?_
   rintro e w' ⟨rfl,hb⟩
   exact ⟨rfl,⟨a,h.below hb⟩,only_below hb⟩
 | some a =>
   obtain ⟨ha,h⟩:=h
   by_cases hn:a+8≤xs.length
   · refine (ask56_good w g k xs c a h hn).mono ?_
     rintro e w' ⟨rfl,hr,ho⟩
     refine ⟨by simp [numV,hn] <;> rfl,?_,ho⟩
     simp only [numS,if_pos hn]
     exact ⟨hn,hr⟩
   · refine (ask56_bad w g k xs c a h ha (by omega)).mono ?_
     rintro e w' ⟨rfl,hr,ho⟩
     refine ⟨by simp [numV,hn] <;> rfl,?_,ho⟩
     simp only [numS,if_neg hn]
     exact ⟨a,hr⟩
theorem flag_rst (w:World) (g k:Nat) (xs:List UInt8) (c:Nat) (st:Option Nat) (h:RSt w g k xs c st) :
 Calls Tryz.prog 273 #[.pointer (some ⟨g,0,none⟩)] w fun e w'=>e=.returned (.bool (flagV xs st))∧RSt w' g k xs c (flagS xs st)∧Only g w w' none:=by
 cases st with
 | none =>
   obtain ⟨a,h⟩:=h
   refine (ask33_idle w _ h.idle).mono ?_
   rintro e w' ⟨rfl,hb⟩
   exact ⟨rfl,⟨a,h.below hb⟩,only_below hb⟩
 | some a =>
   obtain ⟨ha,h⟩:=h
   by_cases hn:FlagOk xs a
   · refine (flag_good w g k xs c a h hn.1 (by have:=hn.2;omega)).mono ?_
     rintro e w' ⟨rfl,hr,ho⟩
     refine ⟨by simp [flagV,hn],?_,ho⟩
     simp only [flagS,if_pos hn]
     exact ⟨hn.1,hr⟩
   · refine (flag_bad w g k xs c a h ha (by unfold FlagOk at hn;omega)).mono ?_
     rintro e w' ⟨rfl,hr,ho⟩
     refine ⟨by simp [flagV,hn],?_,ho⟩
     simp only [flagS,if_neg hn]
     exact ⟨a,hr⟩
theorem count_rst (w:World) (g k:Nat) (xs:List UInt8) (c:Nat) (st:Option Nat) (m:Int) (h:RSt w g k xs c st) :
 Calls Tryz.prog 217 #[.pointer (some ⟨g,0,none⟩),.int .i64 m] w fun e w'=>e=.returned (.int .i64 (countV xs st m))∧RSt w' g k xs c (countS xs st m)∧Only g w w' none:=by
 cases st with
 | none =>
   obtain ⟨a,h⟩:=h
   refine (ask31_idle w _ m h.idle).mono ?_
   rintro e w' ⟨rfl,hb⟩
   exact ⟨rfl,⟨a,h.below hb⟩,only_below hb⟩
 | some a =>
   obtain ⟨ha,h⟩:=h
   by_cases hn:CountOk xs a m
   · refine (count_good w g k xs c a m h hn.1 hn.2).mono ?_
     rintro e w' ⟨rfl,hr,ho⟩
     refine ⟨by simp [countV,hn],?_,ho⟩
     simp only [countS,if_pos hn]
     exact ⟨hn.1,hr⟩
   · refine (count_bad w g k xs c a m h ha (by unfold CountOk at hn;omega)).mono ?_
     rintro e w' ⟨rfl,hr,ho⟩
     refine ⟨by simp [countV,hn],?_,ho⟩
     simp only [countS,if_neg hn]
     exact ⟨a,hr⟩
theorem hash_rst (w:World) (g k:Nat) (xs:List UInt8) (c:Nat) (st:Option Nat) (h:RSt w g k xs c st) :
 Calls Tryz.prog 228 #[.pointer (some ⟨g,0,none⟩)] w fun e w'=>e=.returned (.agg (B8 (hashV xs st)))∧RSt w' g k xs c (numS xs st 32)∧Only g w w' none:=by
 cases st with
 | none =>
   obtain ⟨a,h⟩:=h
   refine (ask57_idle w _ h.idle).mono ?_
   rintro e w' ⟨rfl,hb⟩
   exact ⟨rfl,⟨a,h.below hb⟩,only_below hb⟩
 | some a =>
   obtain ⟨ha,h⟩:=h
   by_cases hn:a+32≤xs.length
   · refine (ask57_good w g k xs c a h _ hn rfl (by rw [List.length_take,List.length_drop];omega)).mono ?_
     rintro e w' ⟨rfl,hr,ho⟩
     refine ⟨by simp only [hashV,if_pos hn],?_,ho⟩
     simp only [numS,if_pos hn]
     exact ⟨hn,hr⟩
   · refine (ask57_bad w g k xs c a h ha (by omega)).mono ?_
     rintro e w' ⟨rfl,hr,ho⟩
     refine ⟨by simp only [hashV,if_neg hn];rfl,?_,ho⟩
     simp only [numS,if_neg hn]
     exact ⟨a,hr⟩
theorem text_rst (w:World) (g k:Nat) (xs:List UInt8) (c:Nat) (st:Option Nat) (m:Int) (h:RSt w g k xs c st) :
 Calls Tryz.prog 254 #[.pointer (some ⟨g,0,none⟩),.int .i64 m] w fun e w'=>e=.returned (.string ⟨(textV xs st m).toArray⟩)∧RSt w' g k xs c (textS xs st m)∧Only g w w' none:=by
 cases st with
 | none =>
   obtain ⟨a,h⟩:=h
   refine (ask32_idle w _ m h.idle).mono ?_
   rintro e w' ⟨rfl,hb⟩
   exact ⟨rfl,⟨a,h.below hb⟩,only_below hb⟩
 | some a =>
   obtain ⟨ha,h⟩:=h
   by_cases hn:TextOk xs a m
   · have hv:textV xs (some a) m=(xs.drop (a+2)).take (beVal ((xs.drop a).take 2)):=by simp only [textV,if_pos hn]
     have hs:textS xs (some a) m=some (a+2+beVal ((xs.drop a).take 2)):=by simp only [textS,if_pos hn]
     rw [hv,hs]
     by_cases h0:beVal ((xs.drop a).take 2)=0
     · refine (rtext_zero w g k xs c a m h hn.1 h0 (by have:=hn.2.1;omega)).mono ?_
       rintro e w' ⟨rfl,hr,ho⟩
       rw [h0]
       exact ⟨rfl,⟨hn.1,hr⟩,ho⟩
     · refine (rtext_some w g k xs c a m (beVal ((xs.drop a).take 2)) _ h hn.2.2 (by omega) rfl hn.2.1 rfl).mono ?_
       rintro e w' ⟨rfl,hr,ho⟩
       exact ⟨rfl,⟨hn.2.2,hr⟩,ho⟩
   · have hv:textV xs (some a) m=[]:=by simp only [textV,if_neg hn]
     have hs:textS xs (some a) m=none:=by simp only [textS,if_neg hn]
     rw [hv,hs]
     refine (rtext_bad w g k xs c a m h ha (by unfold TextOk at hn;omega)).mono ?_
     rintro e w' ⟨rfl,hr,ho⟩
     exact ⟨rfl,⟨a,hr⟩,ho⟩
theorem left_rst (w:World) (g k:Nat) (xs:List UInt8) (c:Nat) (st:Option Nat) (h:RSt w g k xs c st) :
 Calls Tryz.prog 28 #[.pointer (some ⟨g,0,none⟩)] w fun e w'=>e=.returned (.int .i64 (leftV xs st))∧Below w.heap.size w w':=by
 cases st with
 | none =>
   obtain ⟨a,h⟩:=h
   refine (left_idle w _ h.idle).mono ?_
   rintro e w' ⟨rfl,rfl⟩
   exact ⟨rfl,Below.refl _ _⟩
 | some a=>exact left_good w g k xs c a h.2 h.1
theorem err_rst (w:World) (g k:Nat) (xs:List UInt8) (c:Nat) (st:Option Nat) (h:RSt w g k xs c st) :
 Calls Tryz.prog 30 #[.pointer (some ⟨g,0,none⟩)] w fun e w'=>e=.returned (.int .i64 (errV st))∧w=w':=by
 cases st with
 | none =>
   obtain ⟨a,h⟩:=h
   exact err_any w g k xs c a true h
 | some a=>exact err_any w g k xs c a false h.2
end Go.Proofs.YtilbbemdinpjcaaGreat.W
namespace Go.Proofs.YtilbbemdinpjcaaGreat.W
open Go.RowKit
theorem wpList_append_in {ops:Array Oper} {rest:List Oper} {o:Oper} {a:Act} {w:World} {Q:Exit→Act→World→Prop} (hgd:o.guard=none) (s x:Operand)
  (ho:o.op=.call { callee:=.builtin .append,args:=#[s,x],argTypes:=#[54,54] }) (B:Nat) (v bv:Value) (l xs:List UInt8) (hs:a.eval s=v) (hown:w.ownsRow B 5 1 v l.length (B8 l).toList) (hx:a.eval x=bv) (hraw:RawIn w bv xs) (hlen:l.length+xs.length≤2000000) (hB:B≤w.heap.size)
  (h:∀ v' w',w'.ownsRow B 5 1 v' (l ++ xs).length (B8 (l ++ xs)).toList→w.grownBy w' v.ownBlock→(v'.ownBlock=v.ownBlock ∨ v'.ownBlock=some w.heap.size)→wpList Tryz.prog ops Q rest (a.put o.dst v') w'):wpList Tryz.prog ops Q (o :: rest) a w:=by
 obtain ⟨i0,hi0,hz0,hz1,hz2⟩:=info_parts info5
 rcases hraw with ⟨rfl,rfl⟩ | ⟨ad,c,rfl,hsrc⟩
 ·
  refine wpList_append_own_none hgd s x 54 ho B 5 i0 1 Tryz.underlying54 hi0 v l.length _ hs hown hx ?_
  exact h v w (by simpa using hown) (grown_refl w _) (.inl rfl)
 ·
  refine wpList_append_own_at _ hgd s x 54 ho B 5 i0 (.int .u8 0) 1 1 Tryz.underlying54 hi0 hz0 hz1 hz2 rfl (by decide) v l.length _ hs hown ad xs.length c (B8 xs).toList hx (by rw [Array.length_toList,B8_size,Nat.mul_one]) hsrc (byts_one _) (by unfold maxLen;omega) (by omega) hB ?_
  intro v' w' h1 h2 _ h3
  refine h v' w' ?_ h2 h3
  have e:(B8 (l ++ xs)).toList=(B8 l).toList ++ (B8 xs).toList:=by simp [B8]
  rw [e,List.length_append]
  exact h1
theorem PutD.one {p:PutD} {W:World} (h:p.Ok W):p.cells.all (·.oneCell')=true:=by
 obtain ⟨A,c,hb⟩:=PutD.rawv h
 rw [Array.all_eq_true_iff_forall_mem]
 intro v hv
 simp only [PutD.cells,Array.mem_append] at hv
 rcases hv with (hv | hv) | hv
 ·
  simp at hv;rcases hv with rfl | rfl | rfl <;> rfl
 ·
  exact (Array.all_eq_true_iff_forall_mem.1 (B8_one p.hs)) v hv
 ·
  simp at hv;rcases hv with rfl | rfl
  ·
   rw [hb];rfl
  ·
   rfl
def PutD.with (p:PutD) (u:Value):PutD:=⟨p.n0,p.n1,p.n2,p.hs,u,p.xs,p.s⟩
theorem raw_of_own {w:World} {B:Nat} {u:Value} {xs:List UInt8} (h:w.ownsRow B 5 1 u xs.length (B8 xs).toList):RawIn w u xs:=by
 rcases h.2 with ⟨rfl,hn⟩ | ⟨k,cap,cur,rfl,_⟩
 ·
  exact .inl ⟨rfl,List.eq_nil_of_length_eq_zero hn⟩
 ·
  exact .inr ⟨_,cap,rfl,src_news (own_src h)⟩
structure Inner (w6:World) (u:Value) (xs:List UInt8) (m:Nat) (W:World):Prop where
 grown:w6.grownBy W u.ownBlock
 row:∀ g c,u=.slice (some ⟨g,0,none⟩) xs.length c→∃ cur,Lies W g cur 5∧∀ j,m≤j→j < xs.length→cur[j]? = some (.int .u8 (xs.getD j 0).toNat)
theorem Inner.next {w6 W:World} {g c:Nat} {xs:List UInt8} {m:Nat} (h:Inner w6 (.slice (some ⟨g,0,none⟩) xs.length c) xs m W) (q:Nat) (v:Value):Inner w6 (.slice (some ⟨g,0,none⟩) xs.length c) xs (m+1) ((W.drewN q).setCell ⟨g,m,none⟩ v):=by
 refine ⟨grown_set (grown_drewN h.grown q) m v,fun g' c' e => ?_⟩
 cases e
 obtain ⟨cur,hl,hc⟩:=h.row g c rfl
 refine ⟨_,(show Lies (W.drewN q) g cur 5 from hl).set m v,fun j hj hx => ?_⟩
 rw [Array.getElem?_setIfInBounds_ne (by omega)]
 exact hc j (by omega) hx
end Go.Proofs.YtilbbemdinpjcaaGreat.W
namespace Go.Proofs.YtilbbemdinpjcaaGreat.W
open Go.RowKit
theorem Bs.cell {w:World} {v:Value} {ys:List UInt8} (h:Bs w v ys) (hp:0 < ys.length):∃ b o c,v=.slice (some ⟨b,o,none⟩) ys.length c∧Src w b o ys:=by
 rcases h with ⟨_,rfl⟩ | ⟨ad,c,rfl,_,_,hsp,hs⟩
 ·
  simp at hp
 ·
  obtain ⟨b,o,spot⟩:=ad
  have:spot=none:=hsp (fun e=>by rw [e] at hp;simp at hp)
  subst this
  refine ⟨b,o,c,rfl,fun j hj => ?_⟩
  have:=hs j _ (by rw [Array.getElem?_toList];exact B8_get ys j hj)
  rwa [Addr.add_mid] at this
theorem RfR.le {w:World} {g B:Nat} {xs:List UInt8} {st:Option Nat} (h:RfR w g B xs st):∀ a,st=some a→a≤xs.length:=by
 rintro a rfl
 exact h.1
theorem numV_lt (xs:List UInt8) (st:Option Nat) (s:Nat):numV xs st s < 256 ^ s:=by
 have hp:0 < 256 ^ s:=Nat.pow_pos (by decide)
 cases st with
 | none=>exact hp
 | some a =>
   simp only [numV]
   split
   · exact beVal_take xs a s
   · exact hp
end Go.Proofs.YtilbbemdinpjcaaGreat.W
namespace Go.Proofs.YtilbbemdinpjcaaGreat.W
open Go.RowKit
theorem RfR.back {w:World} {g B:Nat} {xs:List UInt8} {st:Option Nat} (h:RfR w g B xs st) (A:Option Addr) (n c:Nat):RfR ((w.setCell ⟨g,1,none⟩ (.bool true)).setCell ⟨g,0,none⟩ (.slice A n c)) g B xs none:=by
 obtain ⟨_,_,_,h1⟩:=h.bad
 exact ⟨A,n,c,h1.set 0 _⟩
end Go.Proofs.YtilbbemdinpjcaaGreat.W
namespace Go.Proofs.YtilbbemdinpjcaaGreat.W
open Go.RowKit
def part (ys:List UInt8) (t:Nat):List UInt8:=ys.take t ++ (List.replicate 32 0).drop t
theorem part_next (ys:List UInt8) (t:Nat) (h:t < ys.length) (h2:ys.length≤32):(part ys t).set t (ys.getD t 0)=part ys (t+1):=by
 unfold part
 have h1:(ys.take t).length=t:=by rw [List.length_take];omega
 rw [List.set_append,if_neg (by omega),h1,Nat.sub_self,List.take_succ_eq_append_getElem h]
 have h3:(List.replicate 32 (0:UInt8)).drop t=0 :: (List.replicate 32 (0:UInt8)).drop (t+1):=by
  rw [List.drop_eq_getElem_cons (by rw [List.length_replicate];omega),List.getElem_replicate]
 rw [h3,List.set_cons_zero,List.append_assoc]
 simp [List.getD_eq_getElem?_getD,h]
theorem RfR.grown {w w':World} {g B:Nat} {xs:List UInt8} {st:Option Nat} {k:Nat} (h:RfR w g B xs st) (hg:w.grownBy w' (some k)) (hk:g < k):RfR w' g B xs st:=by
 have hlt:=h.lt
 have hkeep:∀ cs t,Lies w g cs t→Lies w' g cs t:=fun cs t hl=>hl.grown hg (by omega)
 cases st with
 | none=>obtain ⟨A,n,c,h1⟩:=h;exact ⟨A,n,c,hkeep _ _ h1⟩
 | some a =>
   obtain ⟨ha,v,h1,h2,h3⟩:=h
   exact ⟨ha,v,hkeep _ _ h1,h2.grown hg (fun ad n c e hne e2=>by have:=h3 ad n c e hne;have:=Option.some.inj e2;omega),h3⟩
structure HashI (w:World) (g B:Nat) (xs:List UInt8) (st:Option Nat) (v:Value) (ys:List UInt8) (t:Nat) (W:World):Prop where
 h:Lies W (w.heap.size+1) (B8 (part ys t)) 30
 z:Lies W w.heap.size z32 30
 r:RfR W g B xs st
 o:Only g w W none
 b:Bs W v ys
 off:∀ ad n c,v=.slice (some ad) n c→ys≠[]→ad.block < w.heap.size
theorem HashI.next {w:World} {g B:Nat} {xs:List UInt8} {st:Option Nat} {v:Value} {ys:List UInt8} {t:Nat} {W:World} (h:HashI w g B xs st v ys t W) (hg:g < w.heap.size) (ht:t < ys.length) (h2:ys.length≤32) :
  HashI w g B xs st v ys (t+1) (W.setCell ⟨w.heap.size+1,t,none⟩ (.int .u8 (ys.getD t 0).toNat)):=by
 have hgr:W.grownBy (W.setCell ⟨w.heap.size+1,t,none⟩ (.int .u8 (ys.getD t 0).toNat)) (some (w.heap.size+1)):=grown_set (grown_refl W _) t _
 refine ⟨?_,h.z.grown hgr (by omega),h.r.grown hgr (by omega),?_,h.b.grown hgr (fun ad n c e hne e2=>by have:=h.off ad n c e hne;have:=Option.some.inj e2;omega),h.off⟩
 ·
  have:=h.h.set t (.int .u8 (ys.getD t 0).toNat)
  rwa [B8_set,part_next ys t ht h2] at this
 ·
  exact ⟨h.o.os,h.o.tape,h.o.output,by rw [size_set];exact h.o.size,fun k hk h1 h3=>(heap_setCell_other W _ k _ (by show k≠w.heap.size+1;omega)).trans (h.o.block k hk h1 h3)⟩
end Go.Proofs.YtilbbemdinpjcaaGreat.W
namespace Go.Proofs.YtilbbemdinpjcaaGreat.W
open Go.RowKit
theorem beVal_beN (n s:Nat) (h:n / 2 ^ (8 * s)=0):beVal (beN n s)=n:=by
 have key:∀ t,t≤s→beVal ((beN n s).take t)=n / 2 ^ (8 * (s - t)):=by
  intro t
  induction t with
  | zero=>intro _;rw [List.take_zero,Nat.sub_zero,h];rfl
  | succ t ih =>
    intro ht
    rw [beN_take n s t (by omega),beVal_snoc,ih (by omega),UInt8.toNat_ofNat']
    have e:8 * (s - t)=8 * (s - 1 - t)+8:=by omega
    have e2:s - (t+1)=s - 1 - t:=by omega
    rw [e,e2,Nat.pow_add,← Nat.div_div_eq_div_mul]
    generalize n / 2 ^ (8 * (s - 1 - t))=m
    omega
 have:=key s (Nat.le_refl _)
 rw [List.take_of_length_le (by rw [beN_length];exact Nat.le_refl _),Nat.sub_self] at this
 simpa using this
end Go.Proofs.YtilbbemdinpjcaaGreat.W
namespace Go.Proofs.YtilbbemdinpjcaaGreat.W
open Go.RowKit
theorem clone_in (w:World) (v:Value) (xs:List UInt8) (h:RawIn w v xs) (hx:xs.length≤2000000) :
  Calls Tryz.prog 85 #[v] w fun e w'=>∃ u,e=.returned u∧w'.ownsRow w.heap.size 5 1 u xs.length (B8 xs).toList∧Below w.heap.size w w':=by
 rcases h with ⟨rfl,rfl⟩ | ⟨ad,c,rfl,hs⟩
 ·
  refine (clone_nil w).mono ?_
  rintro e w' ⟨rfl,rfl⟩
  exact ⟨_,rfl,World.ownsRow_nil _ _ _ _,Below.refl _ _⟩
 ·
  exact clone_anyA w xs ad c hs hx
set_option maxRecDepth 100000 in
theorem newreader_in (w:World) (v:Value) (xs:List UInt8) (h:RawIn w v xs) (hx:xs.length≤2000000) (hp:0 < w.heap.size) :
  Calls Tryz.prog 25 #[v] w fun e w'=>∃ g k c,e=.returned (.pointer (some ⟨g,0,none⟩))∧w.heap.size≤g∧(w.heap.size≤k ∨ xs=[])∧Rdr w' g k xs c 0 false∧Below w.heap.size w w':=by
 have hcl:=clone_in w v xs h hx
 have HC:=Lib.hid hcl
 have HP:=Lib.hid hp
 clear hcl h hp
 go_enter Tryz.func25,Tryz.ntmps25
 go_wp2_with fail
 refine HC.out.mono ?_
 rintro e w1 ⟨u,rfl,hown,hb⟩
 have hk:∃ k c,u=RS k xs.length c∧(w.heap.size≤k ∨ xs=[])∧k < w1.heap.size∧xs.length≤c∧(c=NILC→xs=[])∧Src w1 k 0 xs:=by
  rcases hown.2 with ⟨rfl,hn⟩ | ⟨k,c,cur,rfl,hk1,hk2,hk3,hk4,_⟩
  ·
   obtain rfl:xs=[]:=List.eq_nil_of_length_eq_zero hn
   exact ⟨0,NILC,by rw [RS_nil],.inr rfl,Nat.lt_of_lt_of_le HP.out hb.size,Nat.zero_le _,fun _=>rfl,fun j hj=>absurd hj (by simp)⟩
  ·
   have hcn:c≠NILC:=by
    unfold maxLen at hk4
    unfold NILC
    omega
   exact ⟨k,c,by rw [RS_some k _ hcn],.inl hk1,(Array.getElem?_eq_some_iff.1 hk2).1,hk3,fun e=>absurd e hcn,own_src hown⟩
 obtain ⟨k,c,rfl,hk1,hk2,hk3,hk4,hsrc⟩:=hk
 have HH:=Lib.hid (And.intro hsrc (And.intro hb (And.intro hk1 (And.intro hk2 (And.intro hk3 hk4)))))
 have hform:∃ A c2,RS k xs.length c=.slice A xs.length c2:=by
  by_cases hc:c=NILC
  ·
   exact ⟨none,0,by rw [hc,RS_nil,hk4 hc];rfl⟩
  ·
   exact ⟨_,_,RS_some k _ hc⟩
 obtain ⟨A,c2,hrs⟩:=hform
 rw [hrs]
 have HRS:=Lib.hid hrs
 clear hrs
 clear hown hb hsrc HC hk1 hk2 hk3 hk4
 go_wp2_with fail
 have hl:=Lies.new w1 #[.pointer none,.bool false,.slice A xs.length c2,.int .i64 0] 129
 have hb1:Below w1.heap.size w1 (w1.alloc (.cells #[.pointer none,.bool false,.slice A xs.length c2,.int .i64 0] 129)):=(Below.refl _ _).alloc (Nat.le_refl _) _
 generalize w1.alloc (.cells #[.pointer none,.bool false,.slice A xs.length c2,.int .i64 0] 129)=w2 at hl hb1 ⊢
 refine (begin_any w2 w1.heap.size (.pointer none) (hl.cell 0 rfl) (hl.free 0) rfl).mono ?_
 rintro e w3 ⟨rfl,hw3⟩
 have hr:Rdr w3 w1.heap.size k xs c 0 false:=by
  rw [hw3]
  have hk2:=HH.out.2.2.2.1
  have hl2:Lies w2 w1.heap.size #[.pointer none,.bool false,RS k xs.length c,.int .i64 0] 129:=by rw [HRS.out];exact hl
  refine ⟨hl2.set 0 _,?_,by omega,by rw [size_set];exact Nat.lt_of_lt_of_le hk2 hb1.size,hx,HH.out.2.2.2.2.1,HH.out.2.2.2.2.2⟩
  have h1:Src w2 k 0 xs:=fun j hj=>(hb1.cell (p:=⟨k,0+j,none⟩) hk2).trans (HH.out.1 j hj)
  exact h1.only (only_set w1.heap.size 0 w2 _) (Nat.lt_of_lt_of_le hk2 hb1.size) (by omega)
 have hb3:Below w.heap.size w w3:=by
  rw [hw3]
  exact (HH.out.2.1.trans (hb1.mono HH.out.2.1.size)).setCell HH.out.2.1.size _
 have HX:=Lib.hid (And.intro hr hb3)
 clear hl hb1 hw3 hr hb3
 go_wp2_with fail
 go_ret
 exact ⟨w1.heap.size,k,c,rfl,HH.out.2.1.size,HH.out.2.2.1,HX.out.1,HX.out.2⟩
end Go.Proofs.YtilbbemdinpjcaaGreat.W
