/-
  Raw of no bytes: of a nil slice.
-/
import Derived.Test.YtilbbemdinpjcaaGreatJWClone
import Derived.Deep.QuietTactic
import Derived.BigQuiet
import Derived.Deep.Cut
import Derived.Defers
import Derived.Recover
import Derived.Lib.AppendStr
set_option maxHeartbeats 16000000
namespace Go.Proofs.YtilbbemdinpjcaaGreat.W
open Go.RowKit
def NILC:Nat:=18446744073709551616
def RS (k n c:Nat):Value:=if c=NILC then .slice none 0 0 else .slice (some ⟨k,0,none⟩) n c
theorem RS_nil (k n:Nat):RS k n NILC=.slice none 0 0:=if_pos rfl
theorem RS_some (k n:Nat) {c:Nat} (h:c≠NILC):RS k n c=.slice (some ⟨k,0,none⟩) n c:=if_neg h
def Rdr (w:World) (g k:Nat) (xs:List UInt8) (c a:Nat) (sp:Bool):Prop :=
 Lies w g #[.pointer (some ⟨g,0,none⟩),.bool sp,RS k xs.length c,.int .i64 a] 129∧Src w k 0 xs∧k≠g∧k < w.heap.size∧xs.length≤2000000∧xs.length≤c∧(c=NILC→xs=[])
theorem Rdr.notNil {w:World} {g k:Nat} {xs:List UInt8} {c a:Nat} {sp:Bool} (h:Rdr w g k xs c a sp) (hp:0 < xs.length):c≠NILC:=fun e=>by
 rw [h.2.2.2.2.2.2 e] at hp
 exact absurd hp (by simp)
theorem Rdr.form {w:World} {g k:Nat} {xs:List UInt8} {c a:Nat} {sp:Bool} (h:Rdr w g k xs c a sp):∃ A c',RS k xs.length c=.slice A xs.length c':=by
 by_cases hc:c=NILC
 ·
  exact ⟨none,0,by rw [hc,RS_nil,h.2.2.2.2.2.2 hc];rfl⟩
 ·
  exact ⟨_,_,RS_some k _ hc⟩
theorem Only.trans0 {g:Nat} {w w1 w2:World} (h:Only g w w1 none) (k:Only g w1 w2 none):Only g w w2 none:=Only.trans h k (.inl rfl)
theorem only_below {g:Nat} {w w':World} (h:Below w.heap.size w w'):Only g w w' none:=⟨h.os,h.tape,h.output,h.size,fun k hk _ _=>h.block k hk⟩
theorem only_set (g j:Nat) (w:World) (v:Value):Only g w (w.setCell ⟨g,j,none⟩ v) none :=
 ⟨rfl,rfl,rfl,by rw [size_set];exact Nat.le_refl _,fun k _ hne _=>heap_setCell_other w _ k v hne⟩
theorem Only.cell {g:Nat} {w w':World} (h:Only g w w' none) {b o:Nat} (hb:b < w.heap.size) (hne:b≠g):w'.cell? ⟨b,o,none⟩=w.cell? ⟨b,o,none⟩:=by
 have:=h.block b hb hne (by simp)
 unfold World.cell?
 simp only [this]
theorem Src.only {g:Nat} {w w':World} {k off:Nat} {xs:List UInt8} (h:Src w k off xs) (ho:Only g w w' none) (hk:k < w.heap.size) (hne:k≠g):Src w' k off xs :=
 fun j hj=>(ho.cell hk hne).trans (h j hj)
theorem Rdr.below {w w':World} {g k:Nat} {xs:List UInt8} {c a:Nat} {sp:Bool} (h:Rdr w g k xs c a sp) (hb:Below w.heap.size w w'):Rdr w' g k xs c a sp :=
 ⟨h.1.below hb h.1.lt,fun j hj=>(hb.cell (p:=⟨k,0+j,none⟩) h.2.2.2.1).trans (h.2.1 j hj),h.2.2.1,Nat.lt_of_lt_of_le h.2.2.2.1 hb.size,h.2.2.2.2⟩
theorem Rdr.at {w:World} {g k:Nat} {xs:List UInt8} {c a:Nat} {sp:Bool} (h:Rdr w g k xs c a sp) (a':Nat):Rdr (w.setCell ⟨g,3,none⟩ (.int .i64 a')) g k xs c a' sp :=
 ⟨h.1.set 3 _,h.2.1.only (only_set g 3 w _) h.2.2.2.1 h.2.2.1,h.2.2.1,by rw [size_set];exact h.2.2.2.1,h.2.2.2.2⟩
theorem Rdr.spoil {w:World} {g k:Nat} {xs:List UInt8} {c a:Nat} {sp:Bool} (h:Rdr w g k xs c a sp):Rdr (w.setCell ⟨g,1,none⟩ (.bool true)) g k xs c a true :=
 ⟨h.1.set 1 _,h.2.1.only (only_set g 1 w _) h.2.2.2.1 h.2.2.1,h.2.2.1,by rw [size_set];exact h.2.2.2.1,h.2.2.2.2⟩
/-! ## tells -/
theorem tells_nil (w:World):Calls Tryz.prog 102 #[.pointer none] w fun e w'=>e=.returned (.bool false)∧w=w':=by
 go_enter Tryz.func102,Tryz.ntmps102
 go_wp2
 go_ret
 exact ⟨rfl,rfl⟩
set_option maxRecDepth 100000 in
theorem tells_self (w:World) (g:Nat) (sp:Bool) (h:w.cell? ⟨g,0,none⟩=some (.pointer (some ⟨g,0,none⟩))) (hs:w.cell? ⟨g,1,none⟩=some (.bool sp)) :
  Calls Tryz.prog 102 #[.pointer (some ⟨g,0,none⟩)] w fun e w'=>e=.returned (.bool (!sp))∧w=w':=by
 have he:=sound_self w g sp h hs
 go_enter Tryz.func102,Tryz.ntmps102
 go_wp2_with fail
 refine he.mono ?_
 rintro e w' ⟨rfl,rfl⟩
 clear he
 go_wp2_with fail
 go_ret
 exact ⟨rfl,rfl⟩
set_option maxRecDepth 100000 in
theorem tells_none (w:World) (g:Nat) (h:w.cell? ⟨g,0,none⟩=some (.pointer none)) :
  Calls Tryz.prog 102 #[.pointer (some ⟨g,0,none⟩)] w fun e w'=>e=.returned (.bool false)∧w=w':=by
 have he:=sound_none w g h
 go_enter Tryz.func102,Tryz.ntmps102
 go_wp2_with fail
 refine he.mono ?_
 rintro e w' ⟨rfl,rfl⟩
 clear he
 go_wp2_with fail
 go_ret
 exact ⟨rfl,rfl⟩
theorem tells_idle (w:World) (p:Option Addr) (h:Idle w p):Calls Tryz.prog 102 #[.pointer p] w fun e w'=>e=.returned (.bool false)∧w=w':=by
 rcases h with rfl | ⟨g,rfl,_,h | ⟨h,h'⟩⟩
 ·
  exact tells_nil w
 ·
  exact tells_none w g h
 ·
  exact tells_self w g true h h'
/-! ## next -/
theorem below_drewN (w:World) (n:Nat):Below w.heap.size w (w.drewN n):=⟨rfl,rfl,rfl,Nat.le_refl _,fun _ _=>rfl⟩
def Unmet (e:Ending):Prop:=∃ v,e=.panicked [{ v:=.iface 64 v,recovered:=false }]
set_option maxRecDepth 100000 in
theorem next_bad (w:World) (g k:Nat) (xs:List UInt8) (c a:Nat) (h:Rdr w g k xs c a false) (ha:a≤xs.length) (n:Int) (hn:n < 0 ∨ (xs.length:Int) - a < n) :
  Calls Tryz.prog 276 #[.pointer (some ⟨g,0,none⟩),.int .i64 n] w fun e w'=>Unmet e∧Below w.heap.size w w':=by
 obtain ⟨A,c',hrs⟩:=h.form
 have c2:w.cell? ⟨g,2,none⟩=some (RS k xs.length c):=h.1.cell 2 rfl
 rw [hrs] at c2
 clear hrs
 have c3:w.cell? ⟨g,3,none⟩=some (.int .i64 a):=h.1.cell 3 rfl
 obtain ⟨_,_,_,_,hx,_,_⟩:=h
 have b1:(0:Int)≤(xs.length:Int) - a:=by omega
 have b2:(xs.length:Int) - a≤2000000:=by omega
 have hw:IntKind.i64.wrap ((xs.length:Int) - a)=(xs.length:Int) - a:=by rw [IntKind.wrap_i64];omega
 by_cases h0:n < 0
 ·
  have d0:decide (n < 0)=true:=decide_eq_true h0
  go_enter Tryz.func276,Tryz.ntmps276
  go_wp2_with fail
  go_quiet (fail)
  go_wp2_with fail
  exact ⟨rfl,⟨_,rfl⟩,below_drewN w nq⟩
 ·
  have d0:decide (n < 0)=false:=decide_eq_false h0
  have d1:(xs.length:Int) - a < n:=by omega
  go_enter Tryz.func276,Tryz.ntmps276
  go_wp2_with fail
  go_quiet (fail)
  go_wp2_with fail
  exact ⟨rfl,⟨_,rfl⟩,below_drewN w nq⟩
theorem part_src {w:World} {k:Nat} {xs:List UInt8} (h:Src w k 0 xs) (a n:Nat):Src w k a ((xs.drop a).take n):=by
 intro j hj
 rw [List.length_take,List.length_drop] at hj
 have:=h (a+j) (by omega)
 rw [Nat.zero_add] at this
 rw [this]
 simp only [List.getD_eq_getElem?_getD]
 rw [List.getElem?_take_of_lt (by omega),List.getElem?_drop]
set_option maxRecDepth 100000 in
theorem next_good (w:World) (g k:Nat) (xs:List UInt8) (c a:Nat) (h:Rdr w g k xs c a false) (n:Nat) (hn:a+n≤xs.length) (hnn:c≠NILC) :
  Calls Tryz.prog 276 #[.pointer (some ⟨g,0,none⟩),.int .i64 n] w fun e w'=>∃ off c',e=.returned (.slice (some ⟨k,off,none⟩) n c')∧Src w' k off ((xs.drop a).take n)∧Rdr w' g k xs c (a+n) false∧Only g w w' none:=by
 have HR:=Lib.hid h
 have c2:w.cell? ⟨g,2,none⟩=some (RS k xs.length c):=h.1.cell 2 rfl
 rw [RS_some k _ hnn] at c2
 clear hnn
 have c3:w.cell? ⟨g,3,none⟩=some (.int .i64 a):=h.1.cell 3 rfl
 have f3:w.frozen? ⟨g,3,none⟩=false:=h.1.free 3
 obtain ⟨_,_,_,_,hx,hxc,_⟩:=h
 have b1:(0:Int)≤(xs.length:Int) - a:=by omega
 have b2:(xs.length:Int) - a≤2000000:=by omega
 have hw:IntKind.i64.wrap ((xs.length:Int) - a)=(xs.length:Int) - a:=by rw [IntKind.wrap_i64];omega
 have hw2:IntKind.i64.wrap ((a:Int)+n)=(a:Int)+n:=by rw [IntKind.wrap_i64];omega
 have d0:decide ((n:Int) < 0)=false:=decide_eq_false (by omega)
 have d1:¬ (xs.length:Int) - a < n:=by omega
 have d2:decide ((xs.length:Int) - a < n)=false:=decide_eq_false d1
 have e1:(0:Int)≤(a:Int)+n:=by omega
 have e2:((a:Int)+n).toNat=a+n:=by omega
 have e3:¬ (c:Int) < (a:Int)+n:=by omega
 have e4:¬ (a:Int)+n < a:=by omega
 have e5:¬ a+n < a:=by omega
 have fin:∀ q,Rdr ((w.drewN q).setCell ⟨g,3,none⟩ (.int .i64 ((a:Int)+n))) g k xs c (a+n) false∧Only g w ((w.drewN q).setCell ⟨g,3,none⟩ (.int .i64 ((a:Int)+n))) none:=by
  intro q
  have hR:=(HR.out.below (below_drewN w q)).at (a+n)
  rw [Int.natCast_add] at hR
  exact ⟨hR,(only_below (below_drewN w q)).trans0 (only_set g 3 _ _)⟩
 have FIN:=Lib.hid fin
 clear fin
 by_cases hc:c=a
 ·
  obtain rfl:n=0:=by omega
  subst hc
  go_enter Tryz.func276,Tryz.ntmps276
  go_wp2_with fail
  go_quiet (fail)
  go_wp2_with fail
  go_quiet (fail)
  go_wp2_with fail
  go_ret
  obtain ⟨h1,h2⟩:=FIN.out _
  rw [show ((c:Int)+((0:Nat):Int))=(c:Int) by omega] at h1 h2
  exact ⟨0,0,rfl,fun j hj=>absurd hj (by simp),h1,h2⟩
 ·
  have hc2:¬ a=c:=by omega
  go_enter Tryz.func276,Tryz.ntmps276
  go_wp2_with fail
  go_quiet (fail)
  go_wp2_with fail
  go_quiet (fail)
  go_wp2_with fail
  go_ret
  obtain ⟨h1,h2⟩:=FIN.out _
  exact ⟨a,c - a,rfl,part_src h1.2.1 a n,h1,h2⟩
set_option maxRecDepth 100000 in
theorem next_at (w:World) (g k:Nat) (xs:List UInt8) (c a:Nat) (h:Rdr w g k xs c a false) (n:Nat) (hn:a+n≤xs.length) (h0:0 < n) :
  Calls Tryz.prog 276 #[.pointer (some ⟨g,0,none⟩),.int .i64 n] w fun e w'=>e=.returned (.slice (some ⟨k,a,none⟩) n (c - a))∧Rdr w' g k xs c (a+n) false∧Only g w w' none:=by
 have HR:=Lib.hid h
 have hnn:=h.notNil (by omega)
 have c2:w.cell? ⟨g,2,none⟩=some (RS k xs.length c):=h.1.cell 2 rfl
 rw [RS_some k _ hnn] at c2
 clear hnn
 have c3:w.cell? ⟨g,3,none⟩=some (.int .i64 a):=h.1.cell 3 rfl
 have f3:w.frozen? ⟨g,3,none⟩=false:=h.1.free 3
 obtain ⟨_,_,_,_,hx,hxc,_⟩:=h
 have b1:(0:Int)≤(xs.length:Int) - a:=by omega
 have b2:(xs.length:Int) - a≤2000000:=by omega
 have hw:IntKind.i64.wrap ((xs.length:Int) - a)=(xs.length:Int) - a:=by rw [IntKind.wrap_i64];omega
 have hw2:IntKind.i64.wrap ((a:Int)+n)=(a:Int)+n:=by rw [IntKind.wrap_i64];omega
 have d0:decide ((n:Int) < 0)=false:=decide_eq_false (by omega)
 have d1:¬ (xs.length:Int) - a < n:=by omega
 have d2:decide ((xs.length:Int) - a < n)=false:=decide_eq_false d1
 have e1:(0:Int)≤(a:Int)+n:=by omega
 have e2:((a:Int)+n).toNat=a+n:=by omega
 have e3:¬ (c:Int) < (a:Int)+n:=by omega
 have e4:¬ (a:Int)+n < a:=by omega
 have e5:¬ a+n < a:=by omega
 have fin:∀ q,Rdr ((w.drewN q).setCell ⟨g,3,none⟩ (.int .i64 ((a:Int)+n))) g k xs c (a+n) false∧Only g w ((w.drewN q).setCell ⟨g,3,none⟩ (.int .i64 ((a:Int)+n))) none:=by
  intro q
  have hR:=(HR.out.below (below_drewN w q)).at (a+n)
  rw [Int.natCast_add] at hR
  exact ⟨hR,(only_below (below_drewN w q)).trans0 (only_set g 3 _ _)⟩
 have FIN:=Lib.hid fin
 clear fin
 have hc2:¬ a=c:=by omega
 go_enter Tryz.func276,Tryz.ntmps276
 go_wp2_with fail
 go_quiet (fail)
 go_wp2_with fail
 go_quiet (fail)
 go_wp2_with fail
 go_ret
 obtain ⟨h1,h2⟩:=FIN.out _
 exact ⟨rfl,h1,h2⟩
end Go.Proofs.YtilbbemdinpjcaaGreat.W
namespace Go.Proofs.YtilbbemdinpjcaaGreat.W
open Go.RowKit
def WSt (w:World) (B g:Nat) (v:Value):Option (List UInt8)→Prop
 | some l=>WrV w B g v l
 | none=>Lies w g #[.pointer (some ⟨g,0,none⟩),.bool true,v] 159∧B≤g
def MoreO (w:World) (B g:Nat) (v:Value) (st:Option (List UInt8)) (w':World):Prop :=
 ∃ v',WSt w' B g v' st∧Only g w w' v.ownBlock∧(v'.ownBlock=v.ownBlock ∨ ∃ k,v'.ownBlock=some k∧w.heap.size≤k∧k < w'.heap.size)
theorem Only.weak {g:Nat} {w w':World} (h:Only g w w' none) (o:Option Nat):Only g w w' o:=⟨h.os,h.tape,h.output,h.size,fun k hk hg _=>h.block k hk hg (by simp)⟩
theorem MoreO.same {w:World} {B g:Nat} {v:Value} {st:Option (List UInt8)} (h:WSt w B g v st):MoreO w B g v st w:=⟨v,h,Only.refl g w _,.inl rfl⟩
theorem MoreO.below {w w':World} {B g:Nat} {v:Value} (h:WSt w B g v none) (hb:Below w.heap.size w w'):MoreO w B g v none w':=⟨v,⟨h.1.below hb h.1.lt,h.2⟩,(only_below hb).weak _,.inl rfl⟩
theorem WSt.idle {w:World} {B g:Nat} {v:Value} (h:WSt w B g v none):Idle w (some ⟨g,0,none⟩):=.inr ⟨g,rfl,h.1.lt,.inr ⟨h.1.cell 0 rfl,h.1.cell 1 rfl⟩⟩
theorem MoreO.spoilt {w:World} {B g:Nat} {v:Value} {l:List UInt8} (h:WrV w B g v l):MoreO w B g v none (w.setCell ⟨g,1,none⟩ (.bool true)) :=
 ⟨v,⟨h.1.set 1 _,h.2.2.2⟩,(only_set g 1 w _).weak _,.inl rfl⟩
def stepN (st:Option (List UInt8)) (n s:Nat):Option (List UInt8):=st.bind fun l=>if n / 2 ^ (8 * s)=0 then some (l ++ beN n s) else none
theorem num_st (w:World) (B g:Nat) (v:Value) (st:Option (List UInt8)) (n s:Nat) (h:WSt w B g v st) (hB:B≤w.heap.size) (hx:∀ l,st=some l→l.length≤1000000) (hn:n < 18446744073709551616) (hs:s≤8) :
 Calls Tryz.prog 125 #[.pointer (some ⟨g,0,none⟩),.int .u64 n,.int .i64 s] w fun e w'=>e=.returned (.tuple #[])∧MoreO w B g v (stepN st n s) w':=by
 cases st with
 | none =>
   refine (number_idle w _ n s h.idle).mono ?_
   rintro e w' ⟨rfl,rfl⟩
   exact ⟨rfl,MoreO.same h⟩
 | some l =>
   by_cases hf:n / 2 ^ (8 * s)=0
   · refine (number_any w B g v l n s h hB (hx l rfl) hn hs hf).mono ?_
     rintro e w' ⟨rfl,v',h1,h2,h3⟩
     have e1:stepN (some l) n s=some (l ++ beN n s):=by simp [stepN,hf]
     exact ⟨rfl,v',by rw [e1];exact h1,h2,h3⟩
   · refine (number_big w B g v l n s h hs hf).mono ?_
     rintro e w' ⟨rfl,rfl⟩
     have e1:stepN (some l) n s=none:=by simp [stepN,hf]
     exact ⟨rfl,by rw [e1];exact MoreO.spoilt h⟩
set_option maxRecDepth 100000 in
theorem u8_st (w:World) (B g:Nat) (v:Value) (st:Option (List UInt8)) (n:Int) (m:Nat) (h:WSt w B g v st) (hB:B≤w.heap.size) (hx:∀ l,st=some l→l.length≤1000000) (hm:(m:Int)=n % 18446744073709551616) :
  Calls Tryz.prog 58 #[.pointer (some ⟨g,0,none⟩),.int .i64 n] w fun e w'=>e=.returned (.tuple #[])∧MoreO w B g v (stepN st m 1) w':=by
 have he:=num_st w B g v st m 1 h hB hx (by omega) (by omega)
 have HE:=Lib.hid he
 have hw:IntKind.u64.wrap n=(m:Int):=by rw [IntKind.wrap_u64];omega
 clear he h hx hm
 go_enter Tryz.func58,Tryz.ntmps58
 go_wp2_with fail
 refine HE.out.mono ?_
 rintro e w' ⟨rfl,hm⟩
 have HM:=Lib.hid hm
 clear HE hm
 go_wp2_with fail
 go_end0
 exact ⟨rfl,HM.out⟩
set_option maxRecDepth 100000 in
theorem u16_st (w:World) (B g:Nat) (v:Value) (st:Option (List UInt8)) (n:Int) (m:Nat) (h:WSt w B g v st) (hB:B≤w.heap.size) (hx:∀ l,st=some l→l.length≤1000000) (hm:(m:Int)=n % 18446744073709551616) :
  Calls Tryz.prog 236 #[.pointer (some ⟨g,0,none⟩),.int .i64 n] w fun e w'=>e=.returned (.tuple #[])∧MoreO w B g v (stepN st m 2) w':=by
 have he:=num_st w B g v st m 2 h hB hx (by omega) (by omega)
 have HE:=Lib.hid he
 have hw:IntKind.u64.wrap n=(m:Int):=by rw [IntKind.wrap_u64];omega
 clear he h hx hm
 go_enter Tryz.func236,Tryz.ntmps236
 go_wp2_with fail
 refine HE.out.mono ?_
 rintro e w' ⟨rfl,hm⟩
 have HM:=Lib.hid hm
 clear HE hm
 go_wp2_with fail
 go_end0
 exact ⟨rfl,HM.out⟩
set_option maxRecDepth 100000 in
theorem u32_st (w:World) (B g:Nat) (v:Value) (st:Option (List UInt8)) (n:Int) (m:Nat) (h:WSt w B g v st) (hB:B≤w.heap.size) (hx:∀ l,st=some l→l.length≤1000000) (hm:(m:Int)=n % 18446744073709551616) :
  Calls Tryz.prog 239 #[.pointer (some ⟨g,0,none⟩),.int .i64 n] w fun e w'=>e=.returned (.tuple #[])∧MoreO w B g v (stepN st m 4) w':=by
 have he:=num_st w B g v st m 4 h hB hx (by omega) (by omega)
 have HE:=Lib.hid he
 have hw:IntKind.u64.wrap n=(m:Int):=by rw [IntKind.wrap_u64];omega
 clear he h hx hm
 go_enter Tryz.func239,Tryz.ntmps239
 go_wp2_with fail
 refine HE.out.mono ?_
 rintro e w' ⟨rfl,hm⟩
 have HM:=Lib.hid hm
 clear HE hm
 go_wp2_with fail
 go_end0
 exact ⟨rfl,HM.out⟩
set_option maxRecDepth 100000 in
theorem i64_st (w:World) (B g:Nat) (v:Value) (st:Option (List UInt8)) (n:Int) (m:Nat) (h:WSt w B g v st) (hB:B≤w.heap.size) (hx:∀ l,st=some l→l.length≤1000000) (hm:(m:Int)=n % 18446744073709551616) :
  Calls Tryz.prog 238 #[.pointer (some ⟨g,0,none⟩),.int .i64 n] w fun e w'=>e=.returned (.tuple #[])∧MoreO w B g v (stepN st m 8) w':=by
 have he:=num_st w B g v st m 8 h hB hx (by omega) (by omega)
 have HE:=Lib.hid he
 have hw:IntKind.u64.wrap n=(m:Int):=by rw [IntKind.wrap_u64];omega
 clear he h hx hm
 go_enter Tryz.func238,Tryz.ntmps238
 go_wp2_with fail
 refine HE.out.mono ?_
 rintro e w' ⟨rfl,hm⟩
 have HM:=Lib.hid hm
 clear HE hm
 go_wp2_with fail
 go_end0
 exact ⟨rfl,HM.out⟩
set_option maxRecDepth 100000 in
theorem u64_st (w:World) (B g:Nat) (v:Value) (st:Option (List UInt8)) (n:Nat) (h:WSt w B g v st) (hB:B≤w.heap.size) (hx:∀ l,st=some l→l.length≤1000000) (hn:n < 18446744073709551616) :
  Calls Tryz.prog 240 #[.pointer (some ⟨g,0,none⟩),.int .u64 n] w fun e w'=>e=.returned (.tuple #[])∧MoreO w B g v (stepN st n 8) w':=by
 have he:=num_st w B g v st n 8 h hB hx hn (by omega)
 have HE:=Lib.hid he
 clear he h hx
 go_enter Tryz.func240,Tryz.ntmps240
 go_wp2_with fail
 refine HE.out.mono ?_
 rintro e w' ⟨rfl,hm⟩
 have HM:=Lib.hid hm
 clear HE hm
 go_wp2_with fail
 go_end0
 exact ⟨rfl,HM.out⟩
end Go.Proofs.YtilbbemdinpjcaaGreat.W
namespace Go.Proofs.YtilbbemdinpjcaaGreat.W
open Go.RowKit
theorem append_str_at (w:World) (ty base:Nat) (v:Value) (n:Nat) (xs:List Value) (hown:w.ownsRow base 5 1 v n xs) (s:ByteArray) (hlen:n+s.size≤4000000) (hbase:base≤w.heap.size) :
 ∃ v' w',(Builtin.append_ #[54,9] ty #[v,.string s]).run Tryz.prog w=.ok v' w'∧w'.ownsRow base 5 1 v' (n+s.size) (xs ++ Lib.strCells s)∧w.grownBy w' v.ownBlock ∧
   (v'.ownBlock=v.ownBlock ∨ v'.ownBlock=some w.heap.size):=by
 obtain ⟨i0,hi0,hz0,hz1,hz2⟩:=info_parts info5
 obtain ⟨v',w',hr,h2,h3,h4⟩:=Lib.run_append_own_string (P:=Tryz.prog) w base 54 9 ty 5 i0 Tryz.underlying54 Tryz.underlying9 hi0 hz0 hz1 hz2 v n xs hown s (by unfold maxLen;omega) (by omega) hbase
 refine ⟨v',w',hr,h2,h3,?_⟩
 rcases hown.2 with ⟨rfl,rfl⟩ | ⟨g,cap,cur,rfl,hbg,hg,hnc,hcm,hcs,htake⟩
 · by_cases hs:s.size=0
   · exact .inl (by rw [h4.2 ⟨rfl,hs⟩])
   · have:=run_append_nil_string (P:=Tryz.prog) w 54 9 ty 5 i0 (.int .u8 0) Tryz.underlying54 Tryz.underlying9 hi0 hz0 s (by omega) (by omega) (by rw [hz2];omega)
     rw [hr] at this
     cases this
     exact .inr rfl
 · by_cases hroom:n+s.size≤cap
   · have:=Lib.run_append_room_string (P:=Tryz.prog) w 54 9 ty 5 i0 Tryz.underlying54 Tryz.underlying9 hi0 hz1 g n cap cur hg s hroom (by omega)
     rw [hr] at this
     cases this
     exact .inl rfl
   · have:=Lib.run_append_grow_string (P:=Tryz.prog) w 54 9 ty 5 i0 (.int .u8 0) Tryz.underlying54 Tryz.underlying9 hi0 hz0 ⟨g,0,none⟩ n cap xs (by rw [hz1];exact hown.1) (hown.cells (g:=g) rfl) s (by omega) (by omega) (by rw [hz2];exact growslice_fits (by omega) (by omega))
     rw [hr] at this
     cases this
     exact .inr rfl
theorem strCells_B8 (s:ByteArray):Lib.strCells s=(B8 s.data.toList).toList:=by simp [Lib.strCells,B8]
theorem wpList_append_str {ops:Array Oper} {rest:List Oper} {o:Oper} {a:Act} {Q:Exit→Act→World→Prop} (w:World) (hgd:o.guard=none) (sl x:Operand)
  (ho:o.op=.call { callee:=.builtin .append,args:=#[sl,x],argTypes:=#[54,9] })
  (base:Nat) (v:Value) (n:Nat) (xs:List Value) (hs:a.eval sl=v) (hown:w.ownsRow base 5 1 v n xs) (s:ByteArray) (hx:a.eval x=.string s)
  (hlen:n+s.size≤4000000) (hbase:base≤w.heap.size)
  (h:∀ v' w',w'.ownsRow base 5 1 v' (n+s.size) (xs ++ Lib.strCells s)→w.grownBy w' v.ownBlock→(v'.ownBlock=v.ownBlock ∨ v'.ownBlock=some w.heap.size)→wpList Tryz.prog ops Q rest (a.put o.dst v') w') :
  wpList Tryz.prog ops Q (o :: rest) a w:=by
 refine wpList_plain hgd fun K hK => ?_
 obtain ⟨v',w',hr,h2,h3,h4⟩:=append_str_at w o.type base v n xs hown s hlen hbase
 unfold Oper.wp execOp
 simp only [ho,resolve,invoke,builtin,Sem.run_bind,Sem.run_pure,Result.andThen_ok,List.map_toArray,List.map_cons,List.map_nil,hs,hx,hr]
 exact hK _ _ (h v' w' h2 h3 h4)
set_option maxRecDepth 100000 in
theorem text_any (w:World) (B g:Nat) (v:Value) (l:List UInt8) (s:ByteArray) (h:WrV w B g v l) (hB:B≤w.heap.size) (hx:l.length≤900000) (hs:s.size < 65536) :
  Calls Tryz.prog 237 #[.pointer (some ⟨g,0,none⟩),.string s] w fun e w'=>e=.returned (.tuple #[])∧More w B g v (l ++ (beN s.size 2 ++ s.data.toList)) w':=by
 have hu:=u16_any w B g v l s.size h hB (by omega) hs
 have HU:=Lib.hid hu
 clear hu h
 go_enter Tryz.func237,Tryz.ntmps237
 go_wp2_with fail
 refine HU.out.mono ?_
 rintro e w1 ⟨rfl,v1,hw1,ho1,ha1⟩
 have ht:=takes_self w1 g false (hw1.1.cell 0 rfl) (hw1.1.cell 1 rfl)
 have c2:w1.cell? ⟨g,2,none⟩=some v1:=hw1.1.cell 2 rfl
 have hB1:B≤w1.heap.size:=Nat.le_trans hB ho1.size
 have hl1:(l ++ beN s.size 2).length≤900002:=by rw [List.length_append,beN_length];omega
 have HW:=Lib.hid hw1
 have HO:=Lib.hid (And.intro ho1 ha1)
 clear hw1 ho1 ha1 HU
 go_wp2_with fail
 refine ht.mono ?_
 rintro e w2 ⟨rfl,rfl⟩
 clear ht
 go_wp2_with (at_builtin;go_must (refine wpList_append_str _ rfl _ _ rfl B v1 (l ++ beN s.size 2).length (B8 (l ++ beN s.size 2)).toList rfl HW.out.2.1 s rfl (by omega) hB1 ?_;intro v' w3 hown hgrow hat;obtain ⟨A',cc,rfl⟩:=own_slice hown;have c3:w3.cell? ⟨g,2,none⟩=some v1:=(Lies.cell ((hgrow.block g HW.out.1.lt (fun e=>HW.out.2.2.1 e.symm)).trans HW.out.1) 2 rfl);have f3:w3.frozen? ⟨g,2,none⟩=false:=(Lies.free (show Lies w3 g _ 159 from (hgrow.block g HW.out.1.lt (fun e=>HW.out.2.2.1 e.symm)).trans HW.out.1) 2)))
 go_end0
 refine ⟨rfl,?_⟩
 have hown2:w3.ownsRow B 5 1 (.slice A' ((l ++ beN s.size 2).length+s.size) cc) (l ++ (beN s.size 2 ++ s.data.toList)).length (B8 (l ++ (beN s.size 2 ++ s.data.toList))).toList:=by
  have e:(B8 (l ++ (beN s.size 2 ++ s.data.toList))).toList=(B8 (l ++ beN s.size 2)).toList ++ Lib.strCells s:=by
   rw [strCells_B8,← List.append_assoc];simp [B8]
  have e2:(l ++ (beN s.size 2 ++ s.data.toList)).length=(l ++ beN s.size 2).length+s.size:=by
   rw [← List.append_assoc,List.length_append];rfl
  rw [e,e2]
  exact hown
 rw [show (l ++ beN s.size 2).length=l.length+(beN s.size 2).length from List.length_append] at hown2 hat
 exact More.trans HO.out.1 HO.out.2 (more_of HW.out hown2 hgrow hat)
theorem flag_any (w:World) (B g:Nat) (v:Value) (l:List UInt8) (b:Bool) (h:WrV w B g v l) (hB:B≤w.heap.size) (hx:l.length≤1000000) :
  Calls Tryz.prog 266 #[.pointer (some ⟨g,0,none⟩),.bool b] w fun e w'=>e=.returned (.tuple #[])∧More w B g v (l ++ [if b then 1 else 0]) w':=by
 have e1:beN 1 1=[1]:=by decide
 have e0:beN 0 1=[0]:=by decide
 cases b
 ·
  have hu:=u8_any w B g v l 0 h hB hx (by omega)
  rw [e0] at hu
  have HU:=Lib.hid hu
  clear hu h
  go_enter Tryz.func266,Tryz.ntmps266
  go_wp2_with fail
  refine HU.out.mono ?_
  rintro e w1 ⟨rfl,hm⟩
  have HM:=Lib.hid hm
  clear hm
  go_wp2_with fail
  go_end0
  exact ⟨rfl,HM.out⟩
 ·
  have hu:=u8_any w B g v l 1 h hB hx (by omega)
  rw [e1] at hu
  have HU:=Lib.hid hu
  clear hu h
  go_enter Tryz.func266,Tryz.ntmps266
  go_wp2_with fail
  refine HU.out.mono ?_
  rintro e w1 ⟨rfl,hm⟩
  have HM:=Lib.hid hm
  clear hm
  go_wp2_with fail
  go_end0
  exact ⟨rfl,HM.out⟩
theorem own_src {w:World} {B:Nat} {g c:Nat} {l:List UInt8} (h:w.ownsRow B 5 1 (.slice (some ⟨g,0,none⟩) l.length c) l.length (B8 l).toList):Src w g 0 l:=by
 intro j hj
 have:=h.cells (g:=g) rfl j (.int .u8 (l.getD j 0).toNat) (by rw [Array.getElem?_toList];exact B8_get l j hj)
 rwa [Addr.add_mid] at this
end Go.Proofs.YtilbbemdinpjcaaGreat.W
namespace Go.Proofs.YtilbbemdinpjcaaGreat.W
open Go.RowKit
theorem WrV.below {w w':World} {B g:Nat} {v:Value} {l:List UInt8} (h:WrV w B g v l) (hb:Below w.heap.size w w'):WrV w' B g v l :=
 ⟨h.1.below hb h.1.lt,own_kept h.2.1 (grown_below hb none) (fun _ _=>by simp),h.2.2.1,h.2.2.2⟩
theorem WSt.below {w w':World} {B g:Nat} {v:Value} {st:Option (List UInt8)} (h:WSt w B g v st) (hb:Below w.heap.size w w'):WSt w' B g v st:=by
 cases st with
 | none=>exact ⟨h.1.below hb h.1.lt,h.2⟩
 | some l=>exact WrV.below h hb
theorem MoreO.after {w w1 w2:World} {B g:Nat} {v:Value} {st:Option (List UInt8)} (hb:Below w.heap.size w w1) (h:MoreO w1 B g v st w2):MoreO w B g v st w2:=by
 obtain ⟨v',h1,h2,h3⟩:=h
 refine ⟨v',h1,Only.trans ((only_below hb).weak _) h2 (.inl rfl),?_⟩
 rcases h3 with h3 | ⟨k,h3,h4⟩
 ·
  exact .inl h3
 ·
  exact .inr ⟨k,h3,Nat.le_trans hb.size h4.1,h4.2⟩
theorem MoreO.trans {w w1 w2:World} {B g:Nat} {v v1:Value} {st:Option (List UInt8)} (ho:Only g w w1 v.ownBlock) (hat:v1.ownBlock=v.ownBlock ∨ ∃ k,v1.ownBlock=some k∧w.heap.size≤k∧k < w1.heap.size) (h:MoreO w1 B g v1 st w2):MoreO w B g v st w2:=by
 obtain ⟨v',h1,h2,h3⟩:=h
 refine ⟨v',h1,Only.trans ho h2 (hat.imp id fun ⟨k,e,h,_⟩=>⟨k,e,h⟩),?_⟩
 rcases h3 with h3 | ⟨k,h3,h4⟩
 ·
  exact hat.imp (fun h=>h3.trans h) (fun ⟨k,hk,h4,h5⟩=>⟨k,h3.trans hk,h4,Nat.lt_of_lt_of_le h5 h2.size⟩)
 ·
  exact .inr ⟨k,h3,Nat.le_trans ho.size h4.1,h4.2⟩
def stepB (st:Option (List UInt8)) (xs:List UInt8):Option (List UInt8):=st.map (· ++ xs)
theorem raw_st (w:World) (B g:Nat) (v:Value) (st:Option (List UInt8)) (xs:List UInt8) (gx off c:Nat) (h:WSt w B g v st) (hs:Src w gx off xs) (hB:B≤w.heap.size) (hx:∀ l,st=some l→l.length+xs.length≤2000000) :
 Calls Tryz.prog 267 #[.pointer (some ⟨g,0,none⟩),.slice (some ⟨gx,off,none⟩) xs.length c] w fun e w'=>e=.returned (.tuple #[])∧MoreO w B g v (stepB st xs) w':=by
 cases st with
 | none =>
   refine (raw_idle w _ _ h.idle).mono ?_
   rintro e w' ⟨rfl,rfl⟩
   exact ⟨rfl,MoreO.same h⟩
 | some l =>
   refine (raw_any w B g v l xs gx off c h hs hB (hx l rfl)).mono ?_
   rintro e w' ⟨rfl,v',h1,h2,h3⟩
   exact ⟨rfl,v',h1,h2,h3⟩
theorem flag_st (w:World) (B g:Nat) (v:Value) (st:Option (List UInt8)) (b:Bool) (h:WSt w B g v st) (hB:B≤w.heap.size) (hx:∀ l,st=some l→l.length≤1000000) :
 Calls Tryz.prog 266 #[.pointer (some ⟨g,0,none⟩),.bool b] w fun e w'=>e=.returned (.tuple #[])∧MoreO w B g v (stepB st [if b then 1 else 0]) w':=by
 cases st with
 | none =>
   refine (flag_idle w _ b h.idle).mono ?_
   rintro e w' ⟨rfl,rfl⟩
   exact ⟨rfl,MoreO.same h⟩
 | some l =>
   refine (flag_any w B g v l b h hB (hx l rfl)).mono ?_
   rintro e w' ⟨rfl,v',h1,h2,h3⟩
   exact ⟨rfl,v',h1,h2,h3⟩
set_option maxRecDepth 100000 in
theorem hash_st (w:World) (B g:Nat) (v:Value) (st:Option (List UInt8)) (xs:List UInt8) (h:WSt w B g v st) (hl:xs.length=32) (hB:B≤w.heap.size) (hx:∀ l,st=some l→l.length≤1000000) :
  Calls Tryz.prog 212 #[.pointer (some ⟨g,0,none⟩),.agg (B8 xs)] w fun e w'=>e=.returned (.tuple #[])∧MoreO w B g v (stepB st xs) w':=by
 have hb:Below w.heap.size w (w.alloc (.cells (B8 xs) 30)):=(Below.refl _ _).alloc (Nat.le_refl _) _
 have hsrc:Src (w.alloc (.cells (B8 xs) 30)) w.heap.size 0 xs:=fun j hj=>by
  have:=(Lies.new w (B8 xs) 30).cell j (B8_get xs j hj)
  rwa [Nat.zero_add]
 have he:=raw_st (w.alloc (.cells (B8 xs) 30)) B g v st xs w.heap.size 0 32 (h.below hb) hsrc (by simp;omega) (fun l e=>by have:=hx l e;omega)
 rw [hl] at he
 have HE:=Lib.hid he
 have HB:=Lib.hid hb
 clear he hb hsrc h hx
 go_enter Tryz.func212,Tryz.ntmps212
 go_wp2_with fail
 refine HE.out.mono ?_
 rintro e w1 ⟨rfl,hm⟩
 have HM:=Lib.hid hm
 clear hm HE
 go_wp2_with fail
 go_end0
 exact ⟨rfl,HM.out.after HB.out⟩
set_option maxRecDepth 100000 in
theorem text_big (w:World) (B g:Nat) (v:Value) (st:Option (List UInt8)) (s:ByteArray) (h:WSt w B g v st) (hB:B≤w.heap.size) (hx:∀ l,st=some l→l.length≤900000) (hs:65536≤s.size) (hs2:s.size < 9223372036854775808) :
  Calls Tryz.prog 237 #[.pointer (some ⟨g,0,none⟩),.string s] w fun e w'=>e=.returned (.tuple #[])∧MoreO w B g v none w':=by
 have hu:=u16_st w B g v st s.size s.size h hB (fun l e=>by have:=hx l e;omega) (by omega)
 have e1:stepN st s.size 2=none:=by
  have:¬ s.size / 2 ^ (8 * 2)=0:=by
   have:1≤s.size / 65536:=(Nat.le_div_iff_mul_le (by omega)).2 (by omega)
   omega
  cases st with
  | none=>rfl
  | some l=>simp only [stepN,Option.bind_some,if_neg this]
 rw [e1] at hu
 have HU:=Lib.hid hu
 clear hu h hx e1
 go_enter Tryz.func237,Tryz.ntmps237
 go_wp2_with fail
 refine HU.out.mono ?_
 rintro e w1 ⟨rfl,v1,hw1,ho1,ha1⟩
 have ht:=takes_idle w1 _ hw1.idle
 have HW:=Lib.hid (show MoreO w B g v none w1 from ⟨v1,hw1,ho1,ha1⟩)
 clear hw1 ho1 ha1 HU
 go_wp2_with fail
 refine ht.mono ?_
 rintro e w2 ⟨rfl,rfl⟩
 clear ht
 go_wp2_with fail
 first
  | go_end0
  | refine bodyPost_ret (results_none rfl _ _ _) rfl ?_
 exact ⟨rfl,HW.out⟩
theorem text_st (w:World) (B g:Nat) (v:Value) (st:Option (List UInt8)) (s:ByteArray) (h:WSt w B g v st) (hB:B≤w.heap.size) (hx:∀ l,st=some l→l.length≤900000) (hs2:s.size < 9223372036854775808) :
 Calls Tryz.prog 237 #[.pointer (some ⟨g,0,none⟩),.string s] w fun e w'=>e=.returned (.tuple #[])∧MoreO w B g v (if s.size < 65536 then stepB st (beN s.size 2 ++ s.data.toList) else none) w':=by
 by_cases hs:s.size < 65536
 · rw [if_pos hs]
   cases st with
   | none =>
     refine (text_idle w _ s h.idle).mono ?_
     rintro e w' ⟨rfl,rfl⟩
     exact ⟨rfl,MoreO.same h⟩
   | some l =>
     refine (text_any w B g v l s h hB (hx l rfl) hs).mono ?_
     rintro e w' ⟨rfl,v',h1,h2,h3⟩
     exact ⟨rfl,v',h1,h2,h3⟩
 · rw [if_neg hs]
   exact text_big w B g v st s h hB hx (by omega) hs2
end Go.Proofs.YtilbbemdinpjcaaGreat.W
namespace Go.Proofs.YtilbbemdinpjcaaGreat.W
open Go.RowKit
theorem MoreO.again {w:World} {B g:Nat} {v:Value} {l:List UInt8} (h:WrV w B g v l):MoreO w B g v (some l) (w.setCell ⟨g,2,none⟩ v):=by
 refine ⟨v,⟨?_,own_set h.2.1 h.2.2.1,h.2.2.1,h.2.2.2⟩,(only_set g 2 w v).weak _,.inl rfl⟩
 have:=h.1.set 2 v
 exact this
def RawIn (w:World) (v:Value) (xs:List UInt8):Prop:=(v=.slice none 0 0∧xs=[]) ∨ ∃ ad c,v=.slice (some ad) xs.length c∧SrcA w ad xs
set_option maxRecDepth 100000 in
theorem spoil_st (w:World) (B g:Nat) (v:Value) (st:Option (List UInt8)) (h:WSt w B g v st):Calls Tryz.prog 193 #[.pointer (some ⟨g,0,none⟩)] w fun e w'=>e=.returned (.tuple #[])∧MoreO w B g v none w':=by
 cases st with
 | none =>
   refine (spoil_idle w _ h.idle).mono ?_
   rintro e w' ⟨rfl,rfl⟩
   exact ⟨rfl,MoreO.same h⟩
 | some l =>
   have ht:=takes_self w g false (h.1.cell 0 rfl) (h.1.cell 1 rfl)
   have hsp:=spoil_any w g (.bool false) (h.1.cell 1 rfl) (h.1.free 1) rfl
   have hm:=MoreO.spoilt h
   have HM:=Lib.hid hm
   have HS:=Lib.hid hsp
   clear hm hsp h
   go_enter Tryz.func193,Tryz.ntmps193
   go_wp2_with fail
   refine ht.mono ?_
   rintro e w1 ⟨rfl,rfl⟩
   clear ht
   go_wp2_with fail
   refine HS.out.mono ?_
   rintro e w2 ⟨rfl,hw2⟩
   have HW2:=Lib.hid hw2
   clear hw2
   go_wp2_with fail
   first
    | go_end0
    | refine bodyPost_ret (results_none rfl _ _ _) rfl ?_
   exact ⟨rfl,by rw [HW2.out];exact HM.out⟩
end Go.Proofs.YtilbbemdinpjcaaGreat.W
