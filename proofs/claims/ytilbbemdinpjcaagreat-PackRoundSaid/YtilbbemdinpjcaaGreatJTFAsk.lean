/-
  ask: what the numbers become; instead, where a NaN is thrown. For whole numbers of 64 bits, truths, ints.
-/
import Derived.Laws.FloatBits
import Derived.Test.YtilbbemdinpjcaaGreatProg
import Derived.WalkKit
import Derived.WalkSpells
import Derived.WalkLawsBesides
import Derived.Outline
import Derived.Below
import Derived.Defers
import Derived.Recover
import Derived.Lib.Hide
import Derived.WalkSmall
import Derived.Laws.Externs
namespace Go.Proofs.YtilbbemdinpjcaaGreat.T
open Ieee
def rhe (n d:Nat):Nat:=n / 2 ^ d+(decide (2 ^ d < 2 * (n % 2 ^ d)) || (decide (2 ^ d=2 * (n % 2 ^ d)) && decide (n / 2 ^ d % 2=1))).toNat
def rnd (N K:Nat):Nat:=(N.log2 - (52+K)) * 2 ^ 52+rhe N (K+(N.log2 - (52+K)))
def V (r:Nat):Nat:=if r < 2 ^ 52 then r else (2 ^ 52+r % 2 ^ 52) * 2 ^ (r / 2 ^ 52 - 1)
theorem V_at (e f:Nat) (h:f < 2 ^ 52):V ((e+1) * 2 ^ 52+f)=(2 ^ 52+f) * 2 ^ e:=by
 unfold V
 have h1:¬ (e+1) * 2 ^ 52+f < 2 ^ 52:=by
  have:1 * 2 ^ 52≤(e+1) * 2 ^ 52:=Nat.mul_le_mul_right _ (by omega)
  omega
 rw [if_neg h1]
 have h2:((e+1) * 2 ^ 52+f) % 2 ^ 52=f:=by rw [Nat.mul_add_mod_self_right,Nat.mod_eq_of_lt h]
 have h3:((e+1) * 2 ^ 52+f) / 2 ^ 52=e+1:=by rw [Nat.add_comm,Nat.add_mul_div_right _ _ (Nat.two_pow_pos _),Nat.div_eq_of_lt h,Nat.zero_add]
 rw [h2,h3,Nat.add_sub_cancel]
theorem V_low (r:Nat) (h:r < 2 ^ 52):V r=r:=by unfold V;rw [if_pos h]
theorem rung_cases (r:Nat):r < 2 ^ 52 ∨ ∃ e f,f < 2 ^ 52∧r=(e+1) * 2 ^ 52+f:=by
 by_cases h:r < 2 ^ 52
 ·
  exact .inl h
 ·
  refine .inr ⟨r / 2 ^ 52 - 1,r % 2 ^ 52,Nat.mod_lt _ (Nat.two_pow_pos _),?_⟩
  have h1:=Nat.div_add_mod r (2 ^ 52)
  have h2:1≤r / 2 ^ 52:=by omega
  rw [Nat.sub_add_cancel h2,Nat.mul_comm]
  exact h1.symm
theorem V_succ (r:Nat):V r < V (r+1):=by
 rcases rung_cases r with h | ⟨e,f,h,rfl⟩
 ·
  rw [V_low r h]
  by_cases h1:r+1 < 2 ^ 52
  ·
   rw [V_low _ h1];omega
  ·
   obtain rfl:r=2 ^ 52 - 1:=by omega
   have:=V_at 0 0 (by decide)
   simp at this ⊢
   rw [this];decide
 ·
  rw [V_at e f h]
  by_cases h1:f+1 < 2 ^ 52
  ·
   have:=V_at e (f+1) h1
   rw [← Nat.add_assoc] at this
   rw [this]
   exact (Nat.mul_lt_mul_right (Nat.two_pow_pos _)).2 (by omega)
  ·
   obtain rfl:f=2 ^ 52 - 1:=by omega
   have:=V_at (e+1) 0 (by decide)
   have e1:(e+1) * 2 ^ 52+(2 ^ 52 - 1)+1=(e+1+1) * 2 ^ 52+0:=by omega
   rw [e1,this,show 2 ^ (e+1)=2 * 2 ^ e by rw [Nat.pow_add,Nat.pow_one,Nat.mul_comm],← Nat.mul_assoc]
   exact (Nat.mul_lt_mul_right (Nat.two_pow_pos _)).2 (by decide)
theorem V_lt {r s:Nat} (h:r < s):V r < V s:=by
 induction s with
 | zero=>omega
 | succ s ih =>
   by_cases e:r=s
   · subst e;exact V_succ r
   · exact Nat.lt_trans (ih (by omega)) (V_succ s)
theorem V_le {r s:Nat}:V r≤V s ↔ r≤s:=by
 refine ⟨fun h => ?_,fun h => ?_⟩
 ·
  by_cases e:r≤s
  ·
   exact e
  ·
   have:=V_lt (show s < r by omega);omega
 ·
  by_cases e:r=s
  ·
   rw [e];exact Nat.le_refl _
  ·
   exact Nat.le_of_lt (V_lt (by omega))
theorem V_inj {r s:Nat} (h:V r=V s):r=s :=
 Nat.le_antisymm (V_le.1 (Nat.le_of_eq h)) (V_le.1 (Nat.le_of_eq h.symm))
theorem V_zero:V 0=0:=by rw [V_low 0 (by decide)]
theorem V_eq_zero {r:Nat}:V r=0 ↔ r=0:=⟨fun h=>V_inj (h.trans V_zero.symm),fun h=>by rw [h,V_zero]⟩
end Go.Proofs.YtilbbemdinpjcaaGreat.T
namespace Go.Proofs.YtilbbemdinpjcaaGreat.T
open Ieee
def inf:Nat:=9218868437227405312
def sg (x:Nat):Bool:=x / 2 ^ 63 % 2 == 1
def rg (x:Nat):Nat:=x % 2 ^ 63
def mk (s:Bool) (r:Nat):Nat:=if s then 2 ^ 63+r else r
theorem read_fin (x:Nat) (h:rg x < inf):∃ m p,double.read x=.number (sg x) m p∧-1074≤p∧V (rg x)=m * 2 ^ (p+1074).toNat:=by
 have e0:double.signWeight=2 ^ 63:=rfl
 have e1:double.binade=2 ^ 52:=rfl
 have e2:double.infRung=inf:=rfl
 have e3:double.leastPlace=-1074:=rfl
 unfold Format.read
 simp only [e0,e1,e2,e3]
 show ∃ m p,(if rg x < 2 ^ 52 then _ else _)=_∧_
 by_cases h1:rg x < 2 ^ 52
 ·
  refine ⟨rg x,-1074,?_,by omega,?_⟩
  ·
   rw [if_pos h1];rfl
  ·
   rw [V_low _ h1];simp
 ·
  refine ⟨2 ^ 52+rg x % 2 ^ 52,-1074+(rg x / 2 ^ 52 - 1:Nat),?_,by omega,?_⟩
  ·
   rw [if_neg h1]
   show (if rg x < inf then _ else _)=_
   rw [if_pos h];rfl
  ·
   have:(-1074+((rg x / 2 ^ 52 - 1:Nat):Int)+1074).toNat=rg x / 2 ^ 52 - 1:=by omega
   rw [this]
   unfold V
   rw [if_neg h1]
theorem read_inf (x:Nat) (h:rg x=inf):double.read x=.infinity (sg x):=by
 unfold Format.read
 show (if rg x < 2 ^ 52 then _ else if rg x < inf then _ else if rg x=inf then _ else _)=_
 rw [h,if_neg (by decide),if_neg (by decide),if_pos rfl];rfl
theorem read_nan (x:Nat) (h:inf < rg x):∃ t,double.read x=.nan (sg x) t:=by
 refine ⟨rg x - inf,?_⟩
 unfold Format.read
 show (if rg x < 2 ^ 52 then _ else if rg x < inf then _ else if rg x=inf then _ else _)=_
 have h1:¬ rg x < 2 ^ 52:=by unfold inf at h;omega
 rw [if_neg h1,if_neg (by omega),if_neg (by omega)];rfl
def isNone (x:Nat):Prop:=inf < rg x
instance (x:Nat):Decidable (isNone x):=inferInstanceAs (Decidable (inf < rg x))
def val (x:Nat):Int:=if sg x then -(V (rg x):Int) else (V (rg x):Int)
def rr (n:Nat):Nat:=min (rnd n 0) inf
def ofInt (z:Int) (zero:Bool):Nat:=mk (if z=0 then zero else decide (z < 0)) (rr z.natAbs)
theorem signed_scale (s:Bool) (m a b c:Nat) (h:c=a+b):(signed s m a) * (2 ^ b:Nat)=if s then -((m * 2 ^ c:Nat):Int) else ((m * 2 ^ c:Nat):Int):=by
 subst h
 unfold signed
 rw [Nat.pow_add,← Nat.mul_assoc,Nat.shiftLeft_eq]
 cases s
 ·
  simp
 ·
  simp [Int.neg_mul]
theorem order_fin (x y:Nat) (hx:rg x < inf) (hy:rg y < inf):double.order x y=some (compare (val x) (val y)):=by
 obtain ⟨m,p,e1,hp,hv⟩:=read_fin x hx
 obtain ⟨n,q,e2,hq,hw⟩:=read_fin y hy
 unfold Format.order
 rw [e1,e2]
 simp only [Datum.order]
 congr 1
 obtain ⟨b,hb⟩:∃ b:Nat,(b:Int)=min p q+1074:=⟨(min p q+1074).toNat,by omega⟩
 have z1:=signed_scale (sg x) m (p - min p q).toNat b (p+1074).toNat (by omega)
 have z2:=signed_scale (sg y) n (q - min p q).toNat b (q+1074).toNat (by omega)
 rw [← hv] at z1
 rw [← hw] at z2
 have hpos:(0:Int) < ((2 ^ b:Nat):Int):=by exact_mod_cast Nat.two_pow_pos b
 generalize signed (sg x) m (p - min p q).toNat=S at z1 ⊢
 generalize signed (sg y) n (q - min p q).toNat=T at z2 ⊢
 have v1:val x=S * (2 ^ b:Nat):=z1.symm
 have v2:val y=T * (2 ^ b:Nat):=z2.symm
 rw [v1,v2]
 simp only [compare,compareOfLessAndEq]
 have a1:S * (2 ^ b:Nat) < T * (2 ^ b:Nat) ↔ S < T:=⟨fun h=>Int.lt_of_mul_lt_mul_right h (Int.le_of_lt hpos),fun h=>Int.mul_lt_mul_of_pos_right h hpos⟩
 have a2:S * (2 ^ b:Nat)=T * (2 ^ b:Nat) ↔ S=T:=⟨fun h=>Int.eq_of_mul_eq_mul_right (by omega) h,fun h=>by rw [h]⟩
 by_cases h1:S < T
 ·
  rw [if_pos h1,if_pos (a1.2 h1)]
 ·
  rw [if_neg h1,if_neg (fun h=>h1 (a1.1 h))]
  by_cases h2:S=T
  ·
   rw [if_pos h2,if_pos (a2.2 h2)]
  ·
   rw [if_neg h2,if_neg (fun h=>h2 (a2.1 h))]
def key (x:Nat):Int:=if sg x then -(rg x:Int) else (rg x:Int)
theorem val_lt (x y:Nat):val x < val y ↔ key x < key y:=by
 unfold val key
 have h1:=@V_le (rg x) (rg y)
 have h2:=@V_le (rg y) (rg x)
 have h3:=@V_eq_zero (rg x)
 have h4:=@V_eq_zero (rg y)
 cases sg x <;> cases sg y <;> simp <;> omega
theorem val_eq (x y:Nat):val x=val y ↔ key x=key y:=by
 have h1:=val_lt x y
 have h2:=val_lt y x
 omega
theorem compare_key (x y:Nat):compare (val x) (val y)=compare (key x) (key y):=by
 simp only [compare,compareOfLessAndEq]
 have h1:=val_lt x y
 have h2:=val_eq x y
 by_cases a:key x < key y
 ·
  rw [if_pos a,if_pos (h1.2 a)]
 ·
  rw [if_neg a,if_neg (fun h=>a (h1.1 h))]
  by_cases b:key x=key y
  ·
   rw [if_pos b,if_pos (h2.2 b)]
  ·
   rw [if_neg b,if_neg (fun h=>b (h2.1 h))]
theorem cmp_lt {a b:Int} (h:a < b):compare a b=.lt:=by
 simp only [compare,compareOfLessAndEq];rw [if_pos h]
theorem cmp_gt {a b:Int} (h:b < a):compare a b=.gt:=by
 simp only [compare,compareOfLessAndEq];rw [if_neg (by omega),if_neg (by omega)]
theorem cmp_eq {a b:Int} (h:a=b):compare a b=.eq:=by
 subst h
 simp [compare,compareOfLessAndEq]
theorem order_some (x y:Nat) (hx:¬ isNone x) (hy:¬ isNone y):double.order x y=some (compare (key x) (key y)):=by
 unfold isNone at hx hy
 by_cases fx:rg x < inf
 ·
  by_cases fy:rg y < inf
  ·
   rw [order_fin x y fx fy,compare_key]
  ·
   obtain ⟨m,p,e1,_⟩:=read_fin x fx
   have e2:=read_inf y (by omega)
   unfold Format.order
   rw [e1,e2]
   simp only [Datum.order]
   congr 1
   have hy2:rg y=inf:=by omega
   unfold key
   rw [hy2]
   cases sg x <;> cases sg y <;> first | (rw [cmp_lt (by simp;omega)];rfl) | (rw [cmp_gt (by simp;omega)];rfl)
 ·
  by_cases fy:rg y < inf
  ·
   obtain ⟨m,p,e1,_⟩:=read_fin y fy
   have e2:=read_inf x (by omega)
   unfold Format.order
   rw [e1,e2]
   simp only [Datum.order]
   congr 1
   have hx2:rg x=inf:=by omega
   unfold key
   rw [hx2]
   cases sg x <;> cases sg y <;> first | (rw [cmp_lt (by simp;omega)];rfl) | (rw [cmp_gt (by simp;omega)];rfl)
  ·
   have e1:=read_inf x (by omega)
   have e2:=read_inf y (by omega)
   unfold Format.order
   rw [e1,e2]
   simp only [Datum.order]
   congr 1
   have hx2:rg x=inf:=by omega
   have hy2:rg y=inf:=by omega
   unfold key
   rw [hx2,hy2]
   cases sg x <;> cases sg y <;> decide
theorem order_none (x y:Nat) (h:isNone x ∨ isNone y):double.order x y=none:=by
 unfold Format.order
 rcases h with h | h
 ·
  obtain ⟨t,e⟩:=read_nan x h
  rw [e];rfl
 ·
  obtain ⟨t,e⟩:=read_nan y h
  rw [e]
  cases double.read x <;> rfl
end Go.Proofs.YtilbbemdinpjcaaGreat.T
namespace Go.Proofs.YtilbbemdinpjcaaGreat.T
open Ieee
def NAN:Nat:=9221120237041090560
def canonB (a:Nat):Nat:=if isNone a then NAN else a
def addB (a b:Nat):Nat:=(double.add a b).getD NAN
def mulB (a b:Nat):Nat:=(double.mul a b).getD NAN
def lessB (a b:Nat):Bool:=decide (double.order a b=some .lt)
def sameB (a b:Nat):Bool:=decide (double.order a b=some .eq)
def pos (a:Nat):Int:=if isNone a then (inf:Int)+1 else if sg a then -1 - (rg a:Int) else (rg a:Int)
def orderB (a b:Nat):Int:=if pos a < pos b then -1 else if pos a=pos b then 0 else 1
theorem sum_comm (x y:Datum):x.sum y=y.sum x:=by
 cases x <;> cases y <;> simp only [Datum.sum]
 ·
  rename_i s m i t n j
  rw [Int.min_comm i j,Int.add_comm,Bool.and_comm]
 ·
  rename_i s t
  by_cases h:s=t
  ·
   subst h;rfl
  ·
   rw [if_neg h,if_neg (fun e=>h e.symm)]
theorem product_comm (x y:Datum):x.product y=y.product x:=by
 cases x <;> cases y <;> simp only [Datum.product]
 all_goals first | rw [Bool.xor_comm,Nat.mul_comm,Int.add_comm] | rw [Bool.xor_comm]
theorem add_comm (a b:Nat):addB a b=addB b a:=by unfold addB Format.add;rw [sum_comm]
theorem mul_comm (a b:Nat):mulB a b=mulB b a:=by unfold mulB Format.mul;rw [product_comm]
end Go.Proofs.YtilbbemdinpjcaaGreat.T
namespace Go.Proofs.YtilbbemdinpjcaaGreat.T
open Go.RowKit
theorem frombits_run (n:Int) (w:World):(callFunc 313 #[.int .u64 n]).run Tryz.prog w=.ok (.value (.float .f64 n.toNat)) w:=by
 rw [run_callFunc_extern (e:=Extern.MathFloatBits.float64frombits) Tryz.func313 (by kernel_rfl) (by kernel_rfl) (by kernel_rfl) (by kernel_rfl)]
 rfl
theorem bits_run (b:Nat) (w:World):(callFunc 317 #[.float .f64 b]).run Tryz.prog w=.ok (.value (.int .u64 b)) w:=by
 rw [run_callFunc_extern (e:=Extern.MathFloatBits.float64bits) Tryz.func317 (by kernel_rfl) (by kernel_rfl) (by kernel_rfl) (by kernel_rfl)]
 rfl
theorem number_any (n:Int) (w:World):Calls Tryz.prog 309 #[.int .u64 n] w fun e w'=>e=.returned (.float .f64 n.toNat)∧w=w':=by
 have h:=fun w=>frombits_run n w
 go_enter Tryz.func309,Tryz.ntmps309
 go_wp2
 go_ret
 exact ⟨rfl,rfl⟩
def noneB (b:Nat):Bool:=decide (isNone b)
theorem order_self (b:Nat):(FloatKind.f64.format.order b b != some .eq)=noneB b:=by
 show (Ieee.double.order b b != some .eq)=noneB b
 unfold noneB
 by_cases h:isNone b
 ·
  rw [order_none b b (.inl h),decide_eq_true h];rfl
 ·
  rw [order_some b b h h,cmp_eq rfl,decide_eq_false h];rfl
theorem isnan_any (b:Nat) (w:World):Calls Tryz.prog 322 #[.float .f64 b] w fun e w'=>e=.returned (.bool (noneB b))∧w=w':=by
 have h:=order_self b
 go_enter Tryz.func322,Tryz.ntmps322
 go_wp2
 go_ret
 exact ⟨rfl,rfl⟩
theorem cmpnan_any (b:Nat) (w:World):Calls Tryz.prog 329 #[.float .f64 b] w fun e w'=>e=.returned (.bool (noneB b))∧w=w':=by
 have h:=order_self b
 go_enter Tryz.func329,Tryz.ntmps329
 go_wp2
 go_ret
 exact ⟨rfl,rfl⟩
def Nums (w:World) (g:Nat) (xs:List Nat):Prop:=∀ j,j < xs.length→w.cell? ⟨g,j,none⟩=some (.float .f64 (xs.getD j 0))
set_option maxRecDepth 100000 in
theorem sound_ok (xs:List Nat) (g c:Nat) (w:World) (hn:Nums w g xs) (hl:xs.length≤100) (h:∀ j,j < xs.length→noneB (xs.getD j 0)=false) :
  Calls Tryz.prog 316 #[.slice (some ⟨g,0,none⟩) xs.length c] w fun e w'=>e=.returned (.tuple #[])∧w=w':=by
 have HN:=Lib.hid hn
 have HF:=Lib.hid h
 clear hn h
 go_enter Tryz.func316,Tryz.ntmps316
 go_wp2
 go_loop [6] (fun i=>∃ k:Nat,k≤xs.length∧i=.int .i64 k) (fun i=>xs.length - (intOf i).toNat)
 case atStart=>exact ⟨0,Nat.zero_le _,rfl⟩
 case round =>
  obtain ⟨k,hk,rfl⟩:=hrel
  by_cases hlt:k < xs.length
  ·
   have hc:=HN.out k hlt
   have hb:=HF.out k hlt
   generalize xs.getD k 0=y at hc hb
   have hq:=isnan_any y w
   rw [hb] at hq
   have HB:=Lib.hid hb
   clear hb
   go_wp2_with fail
   refine hq.mono ?_
   rintro e w' ⟨rfl,rfl⟩
   clear hq
   go_wp2_with fail
   go_round
   case rel=>exact ⟨k+1,by omega,by go_num⟩
   case measure=>simp [intOf];omega
  ·
   have he:decide (k < xs.length)=false:=by simpa using hlt
   go_wp2
   go_end0
   exact ⟨rfl,rfl⟩
def Thrown (e:Ending):Prop:=∃ v,e=.panicked [{ v:=.iface 299 v,recovered:=false }]
set_option maxRecDepth 100000 in
theorem sound_bad (xs:List Nat) (g c:Nat) (w:World) (hn:Nums w g xs) (hl:xs.length≤100) (m:Nat) (hm:m < xs.length) (h:noneB (xs.getD m 0)=true) :
  Calls Tryz.prog 316 #[.slice (some ⟨g,0,none⟩) xs.length c] w fun e w'=>Thrown e∧w=w':=by
 have HN:=Lib.hid hn
 have HF:=Lib.hid h
 clear hn h
 go_enter Tryz.func316,Tryz.ntmps316
 go_wp2
 go_loop [6] (fun i=>∃ k:Nat,k≤m∧i=.int .i64 k) (fun i=>xs.length - (intOf i).toNat)
 case atStart=>exact ⟨0,Nat.zero_le _,rfl⟩
 case round =>
  obtain ⟨k,hk,rfl⟩:=hrel
  have hlt:k < xs.length:=by omega
  have hc:=HN.out k hlt
  obtain ⟨y,hy⟩:∃ y,y=xs.getD k 0:=⟨_,rfl⟩
  rw [← hy] at hc
  have HY:=Lib.hid hy
  clear hy
  obtain ⟨b,hb⟩:∃ b,b=noneB y:=⟨_,rfl⟩
  have hq:=isnan_any y w
  rw [← hb] at hq
  have HB:=Lib.hid hb
  clear hb
  cases b
  ·
   have hkm:k < m:=by
    by_cases e:k=m
    ·
     have h1:=HF.out
     rw [← e,← HY.out,← HB.out] at h1
     cases h1
    ·
     omega
   go_wp2_with fail
   refine hq.mono ?_
   rintro e w' ⟨rfl,rfl⟩
   clear hq
   go_wp2_with fail
   go_round
   case rel=>exact ⟨k+1,by omega,by go_num⟩
   case measure=>simp [intOf];omega
  ·
   go_wp2_with fail
   refine hq.mono ?_
   rintro e w' ⟨rfl,rfl⟩
   clear hq
   go_wp2_with fail
   exact ⟨rfl,⟨_,rfl⟩,rfl⟩
end Go.Proofs.YtilbbemdinpjcaaGreat.T
namespace Go.Proofs.YtilbbemdinpjcaaGreat.T
open Go.RowKit
theorem Nums.alloc {w:World} {g:Nat} {xs:List Nat} (h:Nums w g xs) (hg:g < w.heap.size) (o:Obj):Nums (w.alloc o) g xs :=
 fun j hj=>(World.cell?_alloc_past _ _ _ hg).trans (h j hj)
theorem Nums.below {w w':World} {g:Nat} {xs:List Nat} (h:Nums w g xs) (hg:g < w.heap.size) (hb:Below w.heap.size w w'):Nums w' g xs :=
 fun j hj=>(hb.cell (p:=⟨g,j,none⟩) hg).trans (h j hj)
theorem bcell {B:Nat} {W w1:World} (hb:Below B W w1):(∀ b o,b < B→w1.cell? ⟨b,o,none⟩=W.cell? ⟨b,o,none⟩)∧(∀ b o,b < B→w1.frozen? ⟨b,o,none⟩=W.frozen? ⟨b,o,none⟩) :=
 ⟨fun b o h=>hb.cell (p:=⟨b,o,none⟩) h,fun b o h=>hb.frozen (p:=⟨b,o,none⟩) h⟩
theorem catch64_panicking (p q:Addr) (x:Int) (y:Value) (u:TypeId) (pv:Value) (older:List PanicEntry) (w:World) (hp:w.cell? p=some (Value.int .u64 x)) (hc:w.cell? q=some y) (hz:w.frozen? q=false) :
  CallsD Tryz.prog 321 #[.pointer (some p),.pointer (some q)] (.panicking ({ v:=.iface u pv,recovered:=false } :: older)) w fun e u' w' =>
   e=.returned (.tuple #[])∧u'=.panicking ({ v:=.iface u pv,recovered:=true } :: older)∧w'=w.setCell q (Value.int .u64 x):=by
 refine callsD_of_wpS Tryz.func321 rfl fun c₀ cs hu => ?_
 apply wpS_seq
 apply wpS_region
 simp [wpOpsS,go_sem,recoverD,hu,Tryz.ntmps321,Exit.thenS]
 refine wpS_cond (t:=true) (by simp [Act.eval,Array.replicate]) ?_
 simp only [if_true]
 apply wpS_region
 simp [wpOpsS,go_sem,hp,hc,hz,bodyPostS,results,Tryz.results321]
theorem catch64_idle (p q:Addr) (w:World) :
  CallsD Tryz.prog 321 #[.pointer (some p),.pointer (some q)] .returning w fun e u' w'=>e=.returned (.tuple #[])∧u'=.returning∧w'=w:=by
 refine callsD_of_wpS Tryz.func321 rfl fun c₀ cs hu => ?_
 apply wpS_seq
 apply wpS_region
 simp [wpOpsS,go_sem,recoverD,hu,Tryz.ntmps321,Exit.thenS]
 refine wpS_cond (t:=false) (by simp [Act.eval,Array.replicate]) ?_
 simp only [Bool.false_eq_true,if_false]
 refine wpS_of_wp (wp_skip ?_)
 cases c₀
 simp_all [bodyPostS,results,Tryz.results321]
set_option maxRecDepth 100000 in
theorem ask64_bad (w:World) (x:Int) (fv:Value) (xs:List Nat) (g c:Nat) (hn:Nums w g xs) (hg:g < w.heap.size) (hl:xs.length≤100) (m:Nat) (hm:m < xs.length) (h:noneB (xs.getD m 0)=true) :
  Calls Tryz.prog 314 #[Value.int .u64 x,fv,.slice (some ⟨g,0,none⟩) xs.length c] w fun e w'=>e=.returned (Value.int .u64 x)∧Below w.heap.size w w':=by
 have hmf:∀ (fn:Fn) (first cap:Array Value) (w:World),(Instr.makeFunc fn first cap).run Tryz.prog w=.ok (.func fn first cap) w:=fun _ _ _ _=>rfl
 have hb:Below w.heap.size w ((w.alloc (.cells #[Value.int .u64 x] 69)).alloc (.cells #[(Value.int .u64 0)] 69)):=((Below.refl _ _).alloc (Nat.le_refl _) _).alloc (by simp) _
 have hs:=sound_bad xs g c _ (hn.below hg hb) hl m hm h
 have HS:=Lib.hid hs
 have HB:=Lib.hid hb
 clear hs hb hn h
 go_enter_defers Tryz.func314,Tryz.ntmps314
 go_wp2_with fail
 refine HS.out.mono ?_
 rintro e w' ⟨⟨v,rfl⟩,rfl⟩
 go_wp2_with fail
 refine leaves_cons (f:=321) (args:=#[.pointer (some ⟨w.heap.size,0,none⟩),.pointer (some ⟨w.heap.size+1,0,none⟩)]) (by simp) (by simp [go_sem]) ?_
 refine (catch64_panicking ⟨w.heap.size,0,none⟩ ⟨w.heap.size+1,0,none⟩ x (Value.int .u64 0) 299 _ [] _ ?_ ?_ ?_).mono ?_
 ·
  simp [go_sem]
 ·
  simp [go_sem]
 ·
  simp [go_sem]
 rintro e u' w'' ⟨rfl,rfl,hw⟩
 subst hw
 simp [Leaves,settle,results,Tryz.results314,go_sem]
 exact ((Below.refl _ _).alloc (Nat.le_refl _) _).alloc (by simp) _
set_option maxRecDepth 100000 in
theorem ask64_ok (w:World) (x r:Int) (K:Nat) (cap:Array Value) (xs:List Nat) (g c:Nat) (hn:Nums w g xs) (hg:g < w.heap.size) (hl:xs.length≤100) (h:∀ j,j < xs.length→noneB (xs.getD j 0)=false)
  (hK:∀ w:World,(callFunc K cap).run Tryz.prog w=.ok (.enter K cap) w) (hbe:∀ w1,Below w.heap.size w w1→Calls Tryz.prog K cap w1 fun e w2=>e=.returned (Value.int .u64 r)∧Below w1.heap.size w1 w2) :
  Calls Tryz.prog 314 #[Value.int .u64 x,.func (Fn.func K) #[] cap,.slice (some ⟨g,0,none⟩) xs.length c] w fun e w'=>e=.returned (Value.int .u64 r)∧Below w.heap.size w w':=by
 have hmf:∀ (fn:Fn) (first cap:Array Value) (w:World),(Instr.makeFunc fn first cap).run Tryz.prog w=.ok (.func fn first cap) w:=fun _ _ _ _=>rfl
 have hb:Below w.heap.size w ((w.alloc (.cells #[Value.int .u64 x] 69)).alloc (.cells #[(Value.int .u64 0)] 69)):=((Below.refl _ _).alloc (Nat.le_refl _) _).alloc (by simp) _
 have hs:=sound_ok xs g c _ (hn.below hg hb) hl h
 have hc2:=hbe _ hb
 have HS:=Lib.hid hs
 have HC:=Lib.hid hc2
 have HB:=Lib.hid hb
 clear hs hb hn h hc2 hbe
 go_enter_defers Tryz.func314,Tryz.ntmps314
 go_wp2_with fail
 refine HS.out.mono ?_
 rintro e w' ⟨rfl,rfl⟩
 go_wp2_with fail
 refine HC.out.mono ?_
 rintro e w2 ⟨rfl,hb2⟩
 have hz2:w.heap.size+1 < w2.heap.size:=by have:=hb2.size;simp at this;omega
 obtain ⟨hcc,hff⟩:=bcell hb2
 have k1:w2.cell? ⟨w.heap.size+1,0,none⟩=some (Value.int .u64 0):=by rw [hcc _ _ (by simp)];simp [go_sem]
 have k2:w2.frozen? ⟨w.heap.size+1,0,none⟩=false:=by rw [hff _ _ (by simp)];simp [go_sem]
 have HB2:=Lib.hid hb2
 clear hcc hff hb2
 go_wp2_with fail
 refine leaves_cons (f:=321) (args:=#[.pointer (some ⟨w.heap.size,0,none⟩),.pointer (some ⟨w.heap.size+1,0,none⟩)]) (by simp) (by simp [go_sem]) ?_
 refine (catch64_idle ⟨w.heap.size,0,none⟩ ⟨w.heap.size+1,0,none⟩ _).mono ?_
 rintro e u' w'' ⟨rfl,rfl,hw⟩
 subst hw
 simp [Leaves,settle,results,Tryz.results314,go_sem,k1]
 exact ((HB.out.trans (HB2.out.mono (by simp;omega))).setCell (by simp) _)
set_option maxRecDepth 100000 in
theorem ask64_thrown (w:World) (x:Int) (K:Nat) (cap:Array Value) (xs:List Nat) (g c:Nat) (hn:Nums w g xs) (hg:g < w.heap.size) (hl:xs.length≤100) (h:∀ j,j < xs.length→noneB (xs.getD j 0)=false)
  (hK:∀ w:World,(callFunc K cap).run Tryz.prog w=.ok (.enter K cap) w) (hbe:∀ w1,Below w.heap.size w w1→Calls Tryz.prog K cap w1 fun e w2=>Thrown e∧Below w1.heap.size w1 w2) :
  Calls Tryz.prog 314 #[Value.int .u64 x,.func (Fn.func K) #[] cap,.slice (some ⟨g,0,none⟩) xs.length c] w fun e w'=>e=.returned (Value.int .u64 x)∧Below w.heap.size w w':=by
 have hmf:∀ (fn:Fn) (first cap:Array Value) (w:World),(Instr.makeFunc fn first cap).run Tryz.prog w=.ok (.func fn first cap) w:=fun _ _ _ _=>rfl
 have hb:Below w.heap.size w ((w.alloc (.cells #[Value.int .u64 x] 69)).alloc (.cells #[(Value.int .u64 0)] 69)):=((Below.refl _ _).alloc (Nat.le_refl _) _).alloc (by simp) _
 have hs:=sound_ok xs g c _ (hn.below hg hb) hl h
 have hc2:=hbe _ hb
 have HS:=Lib.hid hs
 have HC:=Lib.hid hc2
 have HB:=Lib.hid hb
 clear hs hb hn h hc2 hbe
 go_enter_defers Tryz.func314,Tryz.ntmps314
 go_wp2_with fail
 refine HS.out.mono ?_
 rintro e w' ⟨rfl,rfl⟩
 go_wp2_with fail
 refine HC.out.mono ?_
 rintro e w2 ⟨⟨v,rfl⟩,hb2⟩
 have hz2:w.heap.size+1 < w2.heap.size:=by have:=hb2.size;simp at this;omega
 obtain ⟨hcc,hff⟩:=bcell hb2
 have k0:w2.cell? ⟨w.heap.size,0,none⟩=some (Value.int .u64 x):=by rw [hcc _ _ (by simp;omega)];simp [go_sem]
 have k1:w2.cell? ⟨w.heap.size+1,0,none⟩=some (Value.int .u64 0):=by rw [hcc _ _ (by simp)];simp [go_sem]
 have k2:w2.frozen? ⟨w.heap.size+1,0,none⟩=false:=by rw [hff _ _ (by simp)];simp [go_sem]
 have HB2:=Lib.hid hb2
 clear hcc hff hb2
 go_wp2_with fail
 refine leaves_cons (f:=321) (args:=#[.pointer (some ⟨w.heap.size,0,none⟩),.pointer (some ⟨w.heap.size+1,0,none⟩)]) (by simp) (by simp [go_sem]) ?_
 refine (catch64_panicking ⟨w.heap.size,0,none⟩ ⟨w.heap.size+1,0,none⟩ x (Value.int .u64 0) 299 _ [] _ k0 k1 k2).mono ?_
 rintro e u' w'' ⟨rfl,rfl,hw⟩
 subst hw
 simp [Leaves,settle,results,Tryz.results314,go_sem,k1]
 exact ((HB.out.trans (HB2.out.mono (by simp;omega))).setCell (by simp) _)
theorem catchI_panicking (p q:Addr) (x:Int) (y:Value) (u:TypeId) (pv:Value) (older:List PanicEntry) (w:World) (hp:w.cell? p=some (Value.int .i64 x)) (hc:w.cell? q=some y) (hz:w.frozen? q=false) :
  CallsD Tryz.prog 328 #[.pointer (some p),.pointer (some q)] (.panicking ({ v:=.iface u pv,recovered:=false } :: older)) w fun e u' w' =>
   e=.returned (.tuple #[])∧u'=.panicking ({ v:=.iface u pv,recovered:=true } :: older)∧w'=w.setCell q (Value.int .i64 x):=by
 refine callsD_of_wpS Tryz.func328 rfl fun c₀ cs hu => ?_
 apply wpS_seq
 apply wpS_region
 simp [wpOpsS,go_sem,recoverD,hu,Tryz.ntmps328,Exit.thenS]
 refine wpS_cond (t:=true) (by simp [Act.eval,Array.replicate]) ?_
 simp only [if_true]
 apply wpS_region
 simp [wpOpsS,go_sem,hp,hc,hz,bodyPostS,results,Tryz.results328]
theorem catchI_idle (p q:Addr) (w:World) :
  CallsD Tryz.prog 328 #[.pointer (some p),.pointer (some q)] .returning w fun e u' w'=>e=.returned (.tuple #[])∧u'=.returning∧w'=w:=by
 refine callsD_of_wpS Tryz.func328 rfl fun c₀ cs hu => ?_
 apply wpS_seq
 apply wpS_region
 simp [wpOpsS,go_sem,recoverD,hu,Tryz.ntmps328,Exit.thenS]
 refine wpS_cond (t:=false) (by simp [Act.eval,Array.replicate]) ?_
 simp only [Bool.false_eq_true,if_false]
 refine wpS_of_wp (wp_skip ?_)
 cases c₀
 simp_all [bodyPostS,results,Tryz.results328]
set_option maxRecDepth 100000 in
theorem askI_bad (w:World) (x:Int) (fv:Value) (xs:List Nat) (g c:Nat) (hn:Nums w g xs) (hg:g < w.heap.size) (hl:xs.length≤100) (m:Nat) (hm:m < xs.length) (h:noneB (xs.getD m 0)=true) :
  Calls Tryz.prog 325 #[Value.int .i64 x,fv,.slice (some ⟨g,0,none⟩) xs.length c] w fun e w'=>e=.returned (Value.int .i64 x)∧Below w.heap.size w w':=by
 have hmf:∀ (fn:Fn) (first cap:Array Value) (w:World),(Instr.makeFunc fn first cap).run Tryz.prog w=.ok (.func fn first cap) w:=fun _ _ _ _=>rfl
 have hb:Below w.heap.size w ((w.alloc (.cells #[Value.int .i64 x] 3)).alloc (.cells #[(Value.int .i64 0)] 3)):=((Below.refl _ _).alloc (Nat.le_refl _) _).alloc (by simp) _
 have hs:=sound_bad xs g c _ (hn.below hg hb) hl m hm h
 have HS:=Lib.hid hs
 have HB:=Lib.hid hb
 clear hs hb hn h
 go_enter_defers Tryz.func325,Tryz.ntmps325
 go_wp2_with fail
 refine HS.out.mono ?_
 rintro e w' ⟨⟨v,rfl⟩,rfl⟩
 go_wp2_with fail
 refine leaves_cons (f:=328) (args:=#[.pointer (some ⟨w.heap.size,0,none⟩),.pointer (some ⟨w.heap.size+1,0,none⟩)]) (by simp) (by simp [go_sem]) ?_
 refine (catchI_panicking ⟨w.heap.size,0,none⟩ ⟨w.heap.size+1,0,none⟩ x (Value.int .i64 0) 299 _ [] _ ?_ ?_ ?_).mono ?_
 ·
  simp [go_sem]
 ·
  simp [go_sem]
 ·
  simp [go_sem]
 rintro e u' w'' ⟨rfl,rfl,hw⟩
 subst hw
 simp [Leaves,settle,results,Tryz.results325,go_sem]
 exact ((Below.refl _ _).alloc (Nat.le_refl _) _).alloc (by simp) _
set_option maxRecDepth 100000 in
theorem askI_ok (w:World) (x r:Int) (K:Nat) (cap:Array Value) (xs:List Nat) (g c:Nat) (hn:Nums w g xs) (hg:g < w.heap.size) (hl:xs.length≤100) (h:∀ j,j < xs.length→noneB (xs.getD j 0)=false)
  (hK:∀ w:World,(callFunc K cap).run Tryz.prog w=.ok (.enter K cap) w) (hbe:∀ w1,Below w.heap.size w w1→Calls Tryz.prog K cap w1 fun e w2=>e=.returned (Value.int .i64 r)∧Below w1.heap.size w1 w2) :
  Calls Tryz.prog 325 #[Value.int .i64 x,.func (Fn.func K) #[] cap,.slice (some ⟨g,0,none⟩) xs.length c] w fun e w'=>e=.returned (Value.int .i64 r)∧Below w.heap.size w w':=by
 have hmf:∀ (fn:Fn) (first cap:Array Value) (w:World),(Instr.makeFunc fn first cap).run Tryz.prog w=.ok (.func fn first cap) w:=fun _ _ _ _=>rfl
 have hb:Below w.heap.size w ((w.alloc (.cells #[Value.int .i64 x] 3)).alloc (.cells #[(Value.int .i64 0)] 3)):=((Below.refl _ _).alloc (Nat.le_refl _) _).alloc (by simp) _
 have hs:=sound_ok xs g c _ (hn.below hg hb) hl h
 have hc2:=hbe _ hb
 have HS:=Lib.hid hs
 have HC:=Lib.hid hc2
 have HB:=Lib.hid hb
 clear hs hb hn h hc2 hbe
 go_enter_defers Tryz.func325,Tryz.ntmps325
 go_wp2_with fail
 refine HS.out.mono ?_
 rintro e w' ⟨rfl,rfl⟩
 go_wp2_with fail
 refine HC.out.mono ?_
 rintro e w2 ⟨rfl,hb2⟩
 have hz2:w.heap.size+1 < w2.heap.size:=by have:=hb2.size;simp at this;omega
 obtain ⟨hcc,hff⟩:=bcell hb2
 have k1:w2.cell? ⟨w.heap.size+1,0,none⟩=some (Value.int .i64 0):=by rw [hcc _ _ (by simp)];simp [go_sem]
 have k2:w2.frozen? ⟨w.heap.size+1,0,none⟩=false:=by rw [hff _ _ (by simp)];simp [go_sem]
 have HB2:=Lib.hid hb2
 clear hcc hff hb2
 go_wp2_with fail
 refine leaves_cons (f:=328) (args:=#[.pointer (some ⟨w.heap.size,0,none⟩),.pointer (some ⟨w.heap.size+1,0,none⟩)]) (by simp) (by simp [go_sem]) ?_
 refine (catchI_idle ⟨w.heap.size,0,none⟩ ⟨w.heap.size+1,0,none⟩ _).mono ?_
 rintro e u' w'' ⟨rfl,rfl,hw⟩
 subst hw
 simp [Leaves,settle,results,Tryz.results325,go_sem,k1]
 exact ((HB.out.trans (HB2.out.mono (by simp;omega))).setCell (by simp) _)
end Go.Proofs.YtilbbemdinpjcaaGreat.T
