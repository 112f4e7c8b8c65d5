/-
  Comparisons, and the first that is not 0.
-/
import Derived.Test.YtilbbemdinpjcaaGreatJTFAsk
import Derived.Deep.RegionHeld3
import Derived.Deep.Cut
import Derived.StillTailTactics
import Derived.Laws.IdiomStrings
set_option maxHeartbeats 16000000
namespace Go.Proofs.YtilbbemdinpjcaaGreat.T
open Go.RowKit
theorem nums_one (w:World) (r:Nat):Nums (w.alloc (.cells #[.float .f64 r] 299)) w.heap.size [r]:=by
 intro j hj
 obtain rfl:j=0:=by simp at hj;omega
 simp [go_sem]
theorem nums_two (w:World) (r s:Nat):Nums (w.alloc (.cells #[.float .f64 r,.float .f64 s] 299)) w.heap.size [r,s]:=by
 intro j hj
 have:j=0 ∨ j=1:=by simp at hj;omega
 rcases this with rfl | rfl <;> simp [go_sem]
theorem one_ok {r:Nat} (h:noneB r=false):∀ j,j < [r].length→noneB ([r].getD j 0)=false:=by
 intro j hj
 obtain rfl:j=0:=by simp at hj;omega
 exact h
theorem two_ok {r s:Nat} (h:noneB r=false) (h':noneB s=false):∀ j,j < [r,s].length→noneB ([r,s].getD j 0)=false:=by
 intro j hj
 have:j=0 ∨ j=1:=by simp at hj;omega
 rcases this with rfl | rfl
 ·
  exact h
 ·
  exact h'
def Tells (k:Nat) (cap:Array Value) (w:World) (r:Nat):Prop :=
 ∀ w1,Below w.heap.size w w1→Calls Tryz.prog k cap w1 fun e w2=>e=.returned (.float .f64 r)∧Below w1.heap.size w1 w2
def TellsNan (k:Nat) (cap:Array Value) (w:World):Prop :=
 ∀ w1,Below w.heap.size w w1→Calls Tryz.prog k cap w1 fun e w2=>∃ r,noneB r=true∧e=.returned (.float .f64 r)∧Below w1.heap.size w1 w2
set_option maxRecDepth 100000 in
theorem inner_some (w:World) (p k:Nat) (cap:Array Value) (r:Nat) (hp:w.cell? ⟨p,0,none⟩=some (.func (Fn.func k) #[] cap)) (hK:∀ w:World,(callFunc k cap).run Tryz.prog w=.ok (.enter k cap) w)
  (ht:Tells k cap w r) (hr:noneB r=false) :
  Calls Tryz.prog 315 #[.pointer (some ⟨p,0,none⟩)] w fun e w'=>e=.returned (.int .u64 r)∧Below w.heap.size w w':=by
 have hc:=ht w (Below.refl _ _)
 have HC:=Lib.hid hc
 have HR:=Lib.hid hr
 have hbits:=fun w=>bits_run r w
 clear hc hr ht
 go_enter Tryz.func315,Tryz.ntmps315
 go_wp2_with fail
 refine HC.out.mono ?_
 rintro e w2 ⟨rfl,hb⟩
 have HB:=Lib.hid hb
 clear hb
 go_wp2_with fail
 refine (sound_ok [r] w2.heap.size 1 _ (nums_one w2 r) (by simp) (one_ok HR.out)).mono ?_
 rintro e w3 ⟨rfl,rfl⟩
 go_wp2_with fail
 go_ret
 exact ⟨rfl,HB.out.alloc HB.out.size _⟩
set_option maxRecDepth 100000 in
theorem inner_none (w:World) (p k:Nat) (cap:Array Value) (hp:w.cell? ⟨p,0,none⟩=some (.func (Fn.func k) #[] cap)) (hK:∀ w:World,(callFunc k cap).run Tryz.prog w=.ok (.enter k cap) w)
  (ht:TellsNan k cap w) :
  Calls Tryz.prog 315 #[.pointer (some ⟨p,0,none⟩)] w fun e w'=>Thrown e∧Below w.heap.size w w':=by
 have hc:=ht w (Below.refl _ _)
 have HC:=Lib.hid hc
 clear hc ht
 go_enter Tryz.func315,Tryz.ntmps315
 go_wp2_with fail
 refine HC.out.mono ?_
 rintro e w2 ⟨r,hr,rfl,hb⟩
 have HB:=Lib.hid hb
 have HR:=Lib.hid hr
 clear hb hr
 go_wp2_with fail
 refine (sound_bad [r] w2.heap.size 1 _ (nums_one w2 r) (by simp) 0 (by simp) HR.out).mono ?_
 rintro e w3 ⟨⟨v,rfl⟩,rfl⟩
 go_wp2_with fail
 exact ⟨rfl,⟨_,rfl⟩,HB.out.alloc HB.out.size _⟩
theorem callK (K:Nat) (fn:Func) (hf:Tryz.prog.funcs[K]? = some fn) (hb:fn.body.isSome=true) (hn:(fn.name == "runtime.NumGoroutine")=false) (cap:Array Value) (w:World):(callFunc K cap).run Tryz.prog w=.ok (.enter K cap) w:=by
 have h1:fn.name≠"runtime.NumGoroutine" := by simpa using hn
 have h2:fn.body≠none:=by
  intro e
  rw [e] at hb
  cases hb
 have h3:fn.body.isNone=false:=by
  cases h:fn.body with
  | none=>exact absurd h h2
  | some c=>rfl
 simp [callFunc,hf,h1,h2]
theorem Tells.below {k:Nat} {cap:Array Value} {w w':World} {r:Nat} (h:Tells k cap w r) (hb:Below w.heap.size w w'):Tells k cap w' r :=
 fun w1 h1=>h w1 (hb.trans (h1.mono hb.size))
theorem TellsNan.below {k:Nat} {cap:Array Value} {w w':World} (h:TellsNan k cap w) (hb:Below w.heap.size w w'):TellsNan k cap w' :=
 fun w1 h1=>h w1 (hb.trans (h1.mono hb.size))
theorem call78 (cap:Array Value) (w:World):(callFunc 315 cap).run Tryz.prog w=.ok (.enter 315 cap) w :=
 callK 315 Tryz.f315 Tryz.func315 (by kernel_rfl) (by kernel_rfl) cap w
theorem boxed {w w1:World} {v:Value} {t:TypeId} (_h1:v.oneCell'=true) (hb:Below (w.heap.size+1) (w.alloc (.cells #[v] t)) w1):w1.cell? ⟨w.heap.size,0,none⟩=some v:=by
 rw [hb.cell (p:=⟨w.heap.size,0,none⟩) (by simp)]
 simp [go_sem]
set_option maxRecDepth 100000 in
theorem bits_some (w:World) (k:Nat) (cap:Array Value) (r:Nat) (xs:List Nat) (g c:Nat) (hn:Nums w g xs) (hg:g < w.heap.size) (hl:xs.length≤100) (h:∀ j,j < xs.length→noneB (xs.getD j 0)=false)
  (hK:∀ w:World,(callFunc k cap).run Tryz.prog w=.ok (.enter k cap) w) (ht:Tells k cap w r) (hr:noneB r=false) :
  Calls Tryz.prog 310 #[.func (Fn.func k) #[] cap,.slice (some ⟨g,0,none⟩) xs.length c] w fun e w'=>e=.returned (.int .u64 r)∧Below w.heap.size w w':=by
 have hmf:∀ (fn:Fn) (first cap:Array Value) (w:World),(Instr.makeFunc fn first cap).run Tryz.prog w=.ok (.func fn first cap) w:=fun _ _ _ _=>rfl
 have hb:Below w.heap.size w (w.alloc (.cells #[.func (Fn.func k) #[] cap] 302)):=(Below.refl _ _).alloc (Nat.le_refl _) _
 have hs:=ask64_ok (w.alloc (.cells #[.func (Fn.func k) #[] cap] 302)) 9221120237041090560 r 315 #[.pointer (some ⟨w.heap.size,0,none⟩)] xs g c (hn.below hg hb) (by simp;omega) hl h (call78 _)
  (fun w1 hb1=>inner_some w1 w.heap.size k cap r (boxed rfl (by simpa using hb1)) hK ((ht.below hb).below hb1) hr)
 have HS:=Lib.hid hs
 have HB:=Lib.hid hb
 clear hs hb hn h hK ht hr
 go_enter Tryz.func310,Tryz.ntmps310
 go_wp2_with fail
 refine HS.out.mono ?_
 rintro e w2 ⟨rfl,hb2⟩
 have HB2:=Lib.hid hb2
 clear hb2
 go_wp2_with fail
 go_ret
 exact ⟨rfl,HB.out.trans (HB2.out.mono (by simp))⟩
set_option maxRecDepth 100000 in
theorem bits_none (w:World) (k:Nat) (cap:Array Value) (xs:List Nat) (g c:Nat) (hn:Nums w g xs) (hg:g < w.heap.size) (hl:xs.length≤100) (h:∀ j,j < xs.length→noneB (xs.getD j 0)=false)
  (hK:∀ w:World,(callFunc k cap).run Tryz.prog w=.ok (.enter k cap) w) (ht:TellsNan k cap w) :
  Calls Tryz.prog 310 #[.func (Fn.func k) #[] cap,.slice (some ⟨g,0,none⟩) xs.length c] w fun e w'=>e=.returned (.int .u64 NAN)∧Below w.heap.size w w':=by
 have hmf:∀ (fn:Fn) (first cap:Array Value) (w:World),(Instr.makeFunc fn first cap).run Tryz.prog w=.ok (.func fn first cap) w:=fun _ _ _ _=>rfl
 have hb:Below w.heap.size w (w.alloc (.cells #[.func (Fn.func k) #[] cap] 302)):=(Below.refl _ _).alloc (Nat.le_refl _) _
 have hs:=ask64_thrown (w.alloc (.cells #[.func (Fn.func k) #[] cap] 302)) 9221120237041090560 315 #[.pointer (some ⟨w.heap.size,0,none⟩)] xs g c (hn.below hg hb) (by simp;omega) hl h (call78 _)
  (fun w1 hb1=>inner_none w1 w.heap.size k cap (boxed rfl (by simpa using hb1)) hK ((ht.below hb).below hb1))
 have HS:=Lib.hid hs
 have HB:=Lib.hid hb
 clear hs hb hn h hK ht
 go_enter Tryz.func310,Tryz.ntmps310
 go_wp2_with fail
 refine HS.out.mono ?_
 rintro e w2 ⟨rfl,hb2⟩
 have HB2:=Lib.hid hb2
 clear hb2
 go_wp2_with fail
 go_ret
 exact ⟨rfl,HB.out.trans (HB2.out.mono (by simp))⟩
set_option maxRecDepth 100000 in
theorem bits_bad (w:World) (k:Nat) (cap:Array Value) (xs:List Nat) (g c:Nat) (hn:Nums w g xs) (hg:g < w.heap.size) (hl:xs.length≤100) (m:Nat) (hm:m < xs.length) (h:noneB (xs.getD m 0)=true) :
  Calls Tryz.prog 310 #[.func (Fn.func k) #[] cap,.slice (some ⟨g,0,none⟩) xs.length c] w fun e w'=>e=.returned (.int .u64 NAN)∧Below w.heap.size w w':=by
 have hmf:∀ (fn:Fn) (first cap:Array Value) (w:World),(Instr.makeFunc fn first cap).run Tryz.prog w=.ok (.func fn first cap) w:=fun _ _ _ _=>rfl
 have hb:Below w.heap.size w (w.alloc (.cells #[.func (Fn.func k) #[] cap] 302)):=(Below.refl _ _).alloc (Nat.le_refl _) _
 have hs:=ask64_bad (w.alloc (.cells #[.func (Fn.func k) #[] cap] 302)) 9221120237041090560 (.func (Fn.func 315) #[] #[.pointer (some ⟨w.heap.size,0,none⟩)]) xs g c (hn.below hg hb) (by simp;omega) hl m hm h
 have HS:=Lib.hid hs
 have HB:=Lib.hid hb
 clear hs hb hn h
 go_enter Tryz.func310,Tryz.ntmps310
 go_wp2_with fail
 refine HS.out.mono ?_
 rintro e w2 ⟨rfl,hb2⟩
 have HB2:=Lib.hid hb2
 clear hb2
 go_wp2_with fail
 go_ret
 exact ⟨rfl,HB.out.trans (HB2.out.mono (by simp))⟩
end Go.Proofs.YtilbbemdinpjcaaGreat.T
namespace Go.Proofs.YtilbbemdinpjcaaGreat.T
open Go.RowKit
structure Clo2 (k:Nat) (f:Nat→Nat→Option Nat):Prop where
 enters:∀ (cap:Array Value) (w:World),(callFunc k cap).run Tryz.prog w=.ok (.enter k cap) w
 fine:∀ x y r,f x y=some r→noneB r=false
 gives:∀ (w:World) (p q x y r:Nat),w.cell? ⟨p,0,none⟩=some (.float .f64 x)→w.cell? ⟨q,0,none⟩=some (.float .f64 y)→f x y=some r →
  Calls Tryz.prog k #[.pointer (some ⟨p,0,none⟩),.pointer (some ⟨q,0,none⟩)] w fun e w'=>e=.returned (.float .f64 r)∧Below w.heap.size w w'
 nan:∀ (w:World) (p q x y:Nat),w.cell? ⟨p,0,none⟩=some (.float .f64 x)→w.cell? ⟨q,0,none⟩=some (.float .f64 y)→f x y=none →
  Calls Tryz.prog k #[.pointer (some ⟨p,0,none⟩),.pointer (some ⟨q,0,none⟩)] w fun e w'=>∃ r,noneB r=true∧e=.returned (.float .f64 r)∧Below w.heap.size w w'
def W2 (w:World) (a b:Nat):World:=((w.alloc (.cells #[.float .f64 a] 299)).alloc (.cells #[.float .f64 b] 299)).alloc (.cells #[.float .f64 a,.float .f64 b] 299)
theorem two_bad {a b:Nat} (h:(noneB a || noneB b)=true):∃ m,m < [a,b].length∧noneB ([a,b].getD m 0)=true:=by
 rcases Bool.or_eq_true_iff.1 h with h | h
 ·
  exact ⟨0,by simp,h⟩
 ·
  exact ⟨1,by simp,h⟩
theorem number_nat (n:Nat) (w:World):Calls Tryz.prog 309 #[.int .u64 n] w fun e w'=>e=.returned (.float .f64 n)∧w=w':=by
 have:=number_any n w
 simpa using this
theorem store_float (w:World) (a:Addr) (b:Nat) (m:Mode):(store a (.float .f64 b) m).run Tryz.prog w=stored Tryz.prog w a (.float .f64 b) m:=run_store Tryz.prog w a _ m rfl
/-! ## Sums,differences,products,quotients -/
end Go.Proofs.YtilbbemdinpjcaaGreat.T
namespace Go.Proofs.YtilbbemdinpjcaaGreat.T
open Go.RowKit
structure Clo1 (k:Nat) (f:Nat→Option Nat) (a:Nat):Prop where
 enters:∀ (cap:Array Value) (w:World),(callFunc k cap).run Tryz.prog w=.ok (.enter k cap) w
 fine:∀ r,noneB a=false→f a=some r→noneB r=false
 gives:∀ (w:World) (p r:Nat),w.cell? ⟨p,0,none⟩=some (.float .f64 a)→f a=some r →
  Calls Tryz.prog k #[.pointer (some ⟨p,0,none⟩)] w fun e w'=>e=.returned (.float .f64 r)∧Below w.heap.size w w'
 nan:∀ (w:World) (p:Nat),w.cell? ⟨p,0,none⟩=some (.float .f64 a)→f a=none →
  Calls Tryz.prog k #[.pointer (some ⟨p,0,none⟩)] w fun e w'=>∃ r,noneB r=true∧e=.returned (.float .f64 r)∧Below w.heap.size w w'
def tell1 (f:Nat→Option Nat) (a:Nat):Nat:=(if noneB a then none else f a).getD NAN
def W1 (w:World) (a:Nat):World:=(w.alloc (.cells #[.float .f64 a] 299)).alloc (.cells #[.float .f64 a] 299)
theorem W1_below (w:World) (a:Nat):Below w.heap.size w (W1 w a):=((Below.refl _ _).alloc (Nat.le_refl _) _).alloc (by simp) _
theorem W1_size (w:World) (a:Nat):(W1 w a).heap.size=w.heap.size+2:=by simp [W1]
theorem W1_nums (w:World) (a:Nat):Nums (W1 w a) (w.heap.size+1) [a]:=by
 have:=nums_one (w.alloc (.cells #[.float .f64 a] 299)) a
 unfold W1
 simpa using this
theorem W1_fst (w:World) (a:Nat):(W1 w a).cell? ⟨w.heap.size,0,none⟩=some (.float .f64 a):=by simp [W1,go_sem]
theorem bits_one {k:Nat} {f:Nat→Option Nat} {a:Nat} (hc:Clo1 k f a) (w:World) :
 Calls Tryz.prog 310 #[.func (Fn.func k) #[] #[.pointer (some ⟨w.heap.size,0,none⟩)],.slice (some ⟨w.heap.size+1,0,none⟩) 1 1] (W1 w a)
  fun e w'=>e=.returned (.int .u64 (tell1 f a))∧Below w.heap.size w w':=by
 have hb:=W1_below w a
 have hg:w.heap.size+1 < (W1 w a).heap.size:=by rw [W1_size];omega
 have hle:w.heap.size≤(W1 w a).heap.size:=by rw [W1_size];omega
 have back:∀ {e:Ending} {w':World} {r:Nat},(e=.returned (.int .u64 r)∧Below (W1 w a).heap.size (W1 w a) w')→r=tell1 f a→(e=.returned (.int .u64 (tell1 f a))∧Below w.heap.size w w') :=
  fun h e=>⟨by rw [← e];exact h.1,hb.trans (h.2.mono hle)⟩
 cases hn:noneB a with
 | true =>
   refine (bits_bad (W1 w a) k _ [a] (w.heap.size+1) 1 (W1_nums w a) hg (by simp) 0 (by simp) hn).mono fun e w' h=>back h ?_
   unfold tell1;rw [hn];rfl
 | false =>
   cases hf:f a with
   | some r =>
     refine (bits_some (W1 w a) k _ r [a] (w.heap.size+1) 1 (W1_nums w a) hg (by simp) (one_ok hn) (hc.enters _) ?_ (hc.fine r hn hf)).mono fun e w' h=>back h ?_
     · intro w1 h1
       exact hc.gives w1 _ r (by rw [h1.cell (p:=⟨w.heap.size,0,none⟩) (by rw [W1_size];show w.heap.size < _;omega)];exact W1_fst w a) hf
     · unfold tell1;rw [hn,hf];rfl
   | none =>
     refine (bits_none (W1 w a) k _ [a] (w.heap.size+1) 1 (W1_nums w a) hg (by simp) (one_ok hn) (hc.enters _) ?_).mono fun e w' h=>back h ?_
     · intro w1 h1
       exact hc.nan w1 _ (by rw [h1.cell (p:=⟨w.heap.size,0,none⟩) (by rw [W1_size];show w.heap.size < _;omega)];exact W1_fst w a) hf
     · unfold tell1;rw [hn,hf];rfl
theorem clo_canon (a:Nat):Clo1 311 (fun x=>some x) a where
 enters:=fun cap w=>callK 311 Tryz.f311 Tryz.func311 (by kernel_rfl) (by kernel_rfl) cap w
 fine:=fun r ha h=>by cases h;exact ha
 gives:=fun w p r hp h=>by
  cases h
  go_enter Tryz.func311,Tryz.ntmps311
  go_wp2
  go_ret
  exact ⟨rfl,Below.refl _ _⟩
 nan:=fun w p hp h=>by cases h
set_option maxRecDepth 100000 in
theorem canon_any (w:World) (a:Nat):Calls Tryz.prog 306 #[.int .u64 a] w fun e w'=>e=.returned (.int .u64 (canonB a))∧Below w.heap.size w w':=by
 have hmf:∀ (fn:Fn) (first cap:Array Value) (w:World),(Instr.makeFunc fn first cap).run Tryz.prog w=.ok (.func fn first cap) w:=fun _ _ _ _=>rfl
 have hsf:=store_float
 have hs:=bits_one (clo_canon a ) w
 have e:tell1 (fun x=>some x) a=canonB a:=by
  unfold tell1 canonB
  by_cases h:isNone a
  ·
   rw [if_pos h,show noneB a=true from decide_eq_true h];rfl
  ·
   rw [if_neg h,show noneB a=false from decide_eq_false h];rfl
 rw [e] at hs
 clear e
 unfold W1 at hs
 have HS:=Lib.hid hs
 clear hs
 go_enter Tryz.func306,Tryz.ntmps306
 go_wp2_with fail
 refine (number_nat a _).mono ?_
 rintro e w' ⟨rfl,rfl⟩
 go_wp2_with fail
 refine HS.out.mono ?_
 rintro e w2 ⟨rfl,hb2⟩
 have HB2:=Lib.hid hb2
 clear hb2
 go_wp2_with fail
 go_ret
 exact ⟨rfl,HB2.out⟩
end Go.Proofs.YtilbbemdinpjcaaGreat.T
namespace Go.Proofs.YtilbbemdinpjcaaGreat.T
open Go.RowKit
def orderIs (o:Ordering) (x y:Nat):Bool:=FloatKind.f64.format.order x y == some o
theorem less_is (x y:Nat):(!(noneB x || noneB y) && orderIs .lt x y)=lessB x y:=by
 cases h:(noneB x || noneB y)
 ·
  unfold orderIs lessB
  show (true && (Ieee.double.order x y == some .lt))=decide (Ieee.double.order x y=some .lt)
  rw [Bool.true_and,Bool.eq_iff_iff,beq_iff_eq,decide_eq_true_eq]
 ·
  unfold lessB
  rw [order_none x y (by rcases Bool.or_eq_true_iff.1 h with h | h;exact .inl (of_decide_eq_true h);exact .inr (of_decide_eq_true h))]
  rfl
set_option maxRecDepth 100000 in
theorem right_any (w:World) (a:Nat):Calls Tryz.prog 298 #[.int .u64 a] w fun e w'=>e=.returned (.bool (decide (canonB a=a)))∧Below w.heap.size w w':=by
 have hs:=canon_any w a
 obtain ⟨c,hc⟩:∃ c,c=canonB a:=⟨_,rfl⟩
 rw [← hc] at hs ⊢
 have he:((c:Int) == (a:Int))=decide (c=a):=by rw [Bool.eq_iff_iff,beq_iff_eq,decide_eq_true_eq];omega
 have HC:=Lib.hid hc
 clear hc
 go_enter Tryz.func298,Tryz.ntmps298
 go_wp2_with fail
 refine hs.mono ?_
 rintro e w2 ⟨rfl,hb2⟩
 have HB2:=Lib.hid hb2
 clear hb2 hs
 go_wp2_with fail
 go_ret
 exact ⟨rfl,HB2.out⟩
/-! ## cmp.Compare -/
def cmpF (x y:Nat):Int:=if noneB x then (if noneB y then 0 else -1) else if noneB y then 1 else if orderIs .lt x y then -1 else if orderIs .gt x y then 1 else 0
def cmpI (x y:Int):Int:=if x < y then -1 else if y < x then 1 else 0
theorem ret_i {a b:Int} (h:a=b):Ending.returned (.int .i64 a)=.returned (.int .i64 b):=by rw [h]
theorem compareF_any (w:World) (x y:Nat):Calls Tryz.prog 326 #[.float .f64 x,.float .f64 y] w fun e w'=>e=.returned (.int .i64 (cmpF x y))∧w=w':=by
 have c1:=cmpnan_any x w
 have c2:=cmpnan_any y w
 obtain ⟨m,hm⟩:∃ m,m=cmpF x y:=⟨_,rfl⟩
 rw [← hm]
 unfold cmpF orderIs at hm
 obtain ⟨n1,e1⟩:∃ n,n=noneB x:=⟨_,rfl⟩
 obtain ⟨n2,e2⟩:∃ n,n=noneB y:=⟨_,rfl⟩
 obtain ⟨b1,f1⟩:∃ n,(FloatKind.f64.format.order x y == some .lt)=n:=⟨_,rfl⟩
 obtain ⟨b2,f2⟩:∃ n,(FloatKind.f64.format.order x y == some .gt)=n:=⟨_,rfl⟩
 rw [f1,f2,← e1,← e2] at hm
 rw [← e1] at c1
 rw [← e2] at c2
 clear e1 e2
 have HM:=Lib.hid hm
 clear hm
 cases n1 <;> cases n2 <;> cases b1 <;> cases b2
 all_goals
  go_enter Tryz.func326,Tryz.ntmps326
  go_wp2_with fail
  refine c1.mono ?_
  rintro e w' ⟨rfl,rfl⟩
  go_wp2_with fail
  refine c2.mono ?_
  rintro e w' ⟨rfl,rfl⟩
  clear c1 c2
  go_wp2_with fail
  go_ret
  exact ⟨ret_i (by rw [HM.out];rfl),rfl⟩
theorem cmpnanI_any (x:Int) (w:World):Calls Tryz.prog 324 #[.int .i64 x] w fun e w'=>e=.returned (.bool false)∧w=w':=by
 have h:(x != x)=false:=by simp
 go_enter Tryz.func324,Tryz.ntmps324
 go_wp2
 go_ret
 exact ⟨rfl,rfl⟩
theorem compareI_any (w:World) (x y:Int):Calls Tryz.prog 319 #[.int .i64 x,.int .i64 y] w fun e w'=>e=.returned (.int .i64 (cmpI x y))∧w=w':=by
 have c1:=cmpnanI_any x w
 have c2:=cmpnanI_any y w
 obtain ⟨m,hm⟩:∃ m,m=cmpI x y:=⟨_,rfl⟩
 rw [← hm]
 unfold cmpI at hm
 by_cases h1:x < y
 ·
  rw [if_pos h1] at hm
  have HM:=Lib.hid hm
  clear hm
  go_enter Tryz.func319,Tryz.ntmps319
  go_wp2_with fail
  refine c1.mono ?_
  rintro e w' ⟨rfl,rfl⟩
  go_wp2_with fail
  refine c2.mono ?_
  rintro e w' ⟨rfl,rfl⟩
  clear c1 c2
  go_wp2_with fail
  go_ret
  exact ⟨ret_i HM.out.symm,rfl⟩
 ·
  rw [if_neg h1] at hm
  by_cases h2:y < x
  ·
   rw [if_pos h2] at hm
   have HM:=Lib.hid hm
   clear hm
   go_enter Tryz.func319,Tryz.ntmps319
   go_wp2_with fail
   refine c1.mono ?_
   rintro e w' ⟨rfl,rfl⟩
   go_wp2_with fail
   refine c2.mono ?_
   rintro e w' ⟨rfl,rfl⟩
   clear c1 c2
   go_wp2_with fail
   go_ret
   exact ⟨ret_i HM.out.symm,rfl⟩
  ·
   rw [if_neg h2] at hm
   have HM:=Lib.hid hm
   clear hm
   go_enter Tryz.func319,Tryz.ntmps319
   go_wp2_with fail
   refine c1.mono ?_
   rintro e w' ⟨rfl,rfl⟩
   go_wp2_with fail
   refine c2.mono ?_
   rintro e w' ⟨rfl,rfl⟩
   clear c1 c2
   go_wp2_with fail
   go_ret
   exact ⟨ret_i HM.out.symm,rfl⟩
end Go.Proofs.YtilbbemdinpjcaaGreat.T
namespace Go.Proofs.YtilbbemdinpjcaaGreat.T
open Go.RowKit
def wrapI (a:Nat):Int:=IntKind.i64.wrap (a:Int)
def ordIn (a b:Nat):Int:=if orderIs .eq a b then cmpI (wrapI a) (wrapI b) else cmpF a b
def ordC (a b:Nat):Int:=if noneB a || noneB b then cmpF b a else ordIn a b
theorem clo_order (w:World) (p q r s a b:Nat) (hp:w.cell? ⟨p,0,none⟩=some (.float .f64 a)) (hq:w.cell? ⟨q,0,none⟩=some (.float .f64 b)) (hr:w.cell? ⟨r,0,none⟩=some (.int .u64 a)) (hs:w.cell? ⟨s,0,none⟩=some (.int .u64 b)) :
  Calls Tryz.prog 327 #[.pointer (some ⟨p,0,none⟩),.pointer (some ⟨q,0,none⟩),.pointer (some ⟨r,0,none⟩),.pointer (some ⟨s,0,none⟩)] w fun e w'=>e=.returned (.int .i64 (ordIn a b))∧Below w.heap.size w w':=by
 have c1:=compareI_any w (wrapI a) (wrapI b)
 have c2:=compareF_any w a b
 obtain ⟨m,hm⟩:∃ m,m=ordIn a b:=⟨_,rfl⟩
 rw [← hm]
 unfold ordIn at hm
 obtain ⟨t,ht⟩:∃ t,orderIs .eq a b=t:=⟨_,rfl⟩
 rw [ht] at hm
 unfold orderIs at ht
 have k1:∀ w:World,(convert 69 2 (.int .u64 (a:Int))).run Tryz.prog w=.ok (.int .i64 (wrapI a)) w:=fun w=>by
  unfold wrapI;kernel_rfl
 have k2:∀ w:World,(convert 69 2 (.int .u64 (b:Int))).run Tryz.prog w=.ok (.int .i64 (wrapI b)) w:=fun w=>by
  unfold wrapI;kernel_rfl
 have HM:=Lib.hid hm
 clear hm
 cases t
 ·
  clear c1
  go_enter Tryz.func327,Tryz.ntmps327
  go_wp2_with fail
  refine c2.mono ?_
  rintro e w' ⟨rfl,rfl⟩
  go_wp2_with fail
  go_ret
  exact ⟨ret_i (by rw [HM.out];rfl),Below.refl _ _⟩
 ·
  clear c2
  go_enter Tryz.func327,Tryz.ntmps327
  go_wp2_with fail
  refine c1.mono ?_
  rintro e w' ⟨rfl,rfl⟩
  go_wp2_with fail
  go_ret
  exact ⟨ret_i (by rw [HM.out];rfl),Below.refl _ _⟩
def Held (W:World) (p q r s a b:Nat):Prop :=
 W.cell? ⟨p,0,none⟩=some (.float .f64 a)∧W.cell? ⟨q,0,none⟩=some (.float .f64 b)∧W.cell? ⟨r,0,none⟩=some (.int .u64 a)∧W.cell? ⟨s,0,none⟩=some (.int .u64 b)∧p < W.heap.size∧q < W.heap.size∧r < W.heap.size∧s < W.heap.size
theorem Held.below {W W':World} {p q r s a b:Nat} (h:Held W p q r s a b) (hb:Below W.heap.size W W'):Held W' p q r s a b:=by
 obtain ⟨h1,h2,h3,h4,p1,p2,p3,p4⟩:=h
 exact ⟨(hb.cell (p:=⟨p,0,none⟩) p1).trans h1,(hb.cell (p:=⟨q,0,none⟩) p2).trans h2,(hb.cell (p:=⟨r,0,none⟩) p3).trans h3,(hb.cell (p:=⟨s,0,none⟩) p4).trans h4,Nat.lt_of_lt_of_le p1 hb.size,Nat.lt_of_lt_of_le p2 hb.size,Nat.lt_of_lt_of_le p3 hb.size,Nat.lt_of_lt_of_le p4 hb.size⟩
theorem Held.lt1 {W:World} {p q r s a b:Nat} (h:Held W p q r s a b):p < W.heap.size:=h.2.2.2.2.1
theorem Held.lt2 {W:World} {p q r s a b:Nat} (h:Held W p q r s a b):q < W.heap.size:=h.2.2.2.2.2.1
theorem ask_order (W:World) (p q r s a b:Nat) (h:Held W p q r s a b) (g:Nat) (hn:Nums W g [a,b]) (hg:g < W.heap.size) :
 Calls Tryz.prog 325 #[.int .i64 (cmpF b a),.func (Fn.func 327) #[] #[.pointer (some ⟨p,0,none⟩),.pointer (some ⟨q,0,none⟩),.pointer (some ⟨r,0,none⟩),.pointer (some ⟨s,0,none⟩)],.slice (some ⟨g,0,none⟩) 2 2] W
  fun e w'=>e=.returned (.int .i64 (ordC a b))∧Below W.heap.size W w':=by
 unfold ordC
 cases hn2:(noneB a || noneB b) with
 | true =>
   obtain ⟨m,hm,hm2⟩:=two_bad hn2
   exact askI_bad W (cmpF b a) _ [a,b] g 2 hn hg (by simp) m hm hm2
 | false =>
   have ha:noneB a=false:=(Bool.or_eq_false_iff.1 hn2).1
   have hb2:noneB b=false:=(Bool.or_eq_false_iff.1 hn2).2
   refine askI_ok W (cmpF b a) (ordIn a b) 327 _ [a,b] g 2 hn hg (by simp) (two_ok ha hb2) (fun w=>callK 327 Tryz.f327 Tryz.func327 (by kernel_rfl) (by kernel_rfl) _ w) ?_
   intro w1 h1
   obtain ⟨h1,h2,h3,h4,_⟩:=h.below h1
   exact clo_order w1 p q r s a b h1 h2 h3 h4
set_option maxRecDepth 100000 in
theorem order_any (w:World) (a b:Nat):Calls Tryz.prog 320 #[.int .u64 a,.int .u64 b] w fun e w'=>e=.returned (.int .i64 (ordC a b))∧Below w.heap.size w w':=by
 have hmf:∀ (fn:Fn) (first cap:Array Value) (w:World),(Instr.makeFunc fn first cap).run Tryz.prog w=.ok (.func fn first cap) w:=fun _ _ _ _=>rfl
 have hsf:=store_float
 have hb0:Below w.heap.size w ((w.alloc (.cells #[.int .u64 a] 69)).alloc (.cells #[.int .u64 b] 69)):=((Below.refl _ _).alloc (Nat.le_refl _) _).alloc (by simp) _
 have hz0:((w.alloc (.cells #[.int .u64 a] 69)).alloc (.cells #[.int .u64 b] 69)).heap.size=w.heap.size+2:=by simp
 have z1:((w.alloc (.cells #[.int .u64 a] 69)).alloc (.cells #[.int .u64 b] 69)).cell? ⟨w.heap.size,0,none⟩=some (.int .u64 a):=by simp [go_sem]
 have z2:((w.alloc (.cells #[.int .u64 a] 69)).alloc (.cells #[.int .u64 b] 69)).cell? ⟨w.heap.size+1,0,none⟩=some (.int .u64 b):=by simp [go_sem]
 go_enter Tryz.func320,Tryz.ntmps320
 go_wp2_with fail
 generalize hW:(w.alloc (.cells #[.int .u64 a] 69)).alloc (.cells #[.int .u64 b] 69)=W at *
 have HW:=Lib.hid hW
 have HB:=Lib.hid hb0
 clear hW hb0
 go_upto_region 1 with fail
 go_cut [5,6] from 19 (fun u v wr=>∃ p q,u=.pointer (some ⟨p,0,none⟩)∧v=.pointer (some ⟨q,0,none⟩)∧Held wr p q w.heap.size (w.heap.size+1) a b∧Below w.heap.size w wr)
 case first =>
  go_region_held3 (fun w'=>w'.cell? ⟨w.heap.size,0,none⟩=some (.int .u64 a)∧w'.cell? ⟨w.heap.size+1,0,none⟩=some (.int .u64 b)) (go_keep) (first
   | (with_reducible refine (number_nat a _).mono ?_;rintro e w1 ⟨rfl,rfl⟩)
   | (with_reducible refine (number_nat b _).mono ?_;rintro e w1 ⟨rfl,rfl⟩))
  all_goals
   go_wp2_with fail
   go_meet
   case rel =>
    rename_i hh
    exact ⟨_,_,rfl,rfl,⟨by simp [go_sem,hz0],by simp [go_sem,hz0],hh.1,hh.2,by simp [hz0],by simp [hz0],by simp [hz0];omega,by simp [hz0]⟩,((HB.out.alloc (by omega) _).alloc (by simp;omega) _).drew⟩
 case rest =>
  obtain ⟨p,q,rfl,rfl,hh,hb⟩:=hcut
  rename_i wc
  have hC:∀ V,Below wc.heap.size wc V→Calls Tryz.prog 325 #[.int .i64 (cmpF b a),.func (Fn.func 327) #[] #[.pointer (some ⟨p,0,none⟩),.pointer (some ⟨q,0,none⟩),.pointer (some ⟨w.heap.size,0,none⟩),.pointer (some ⟨w.heap.size+1,0,none⟩)],.slice (some ⟨V.heap.size,0,none⟩) 2 2] (V.alloc (.cells #[.float .f64 a,.float .f64 b] 299)).drew
    fun e w'=>e=.returned (.int .i64 (ordC a b))∧Below V.heap.size V w':=fun V hV=>by
   have h1:Below V.heap.size V (V.alloc (.cells #[.float .f64 a,.float .f64 b] 299)).drew:=((Below.refl _ _).alloc (Nat.le_refl _) _).drew
   refine (ask_order _ p q w.heap.size (w.heap.size+1) a b ((hh.below hV).below h1) V.heap.size (nums_two V a b) (by simp)).mono fun e w' h=>⟨h.1,h1.trans (h.2.mono (by simp))⟩
  have h1:=hh.1
  have h2:=hh.2.1
  have HH:=Lib.hid hh
  have HC:=Lib.hid hC
  have HBB:=Lib.hid hb
  clear hh hb hC z1 z2
  go_wp2_with fail
  go_region_held3 (fun w'=>w'.cell? ⟨p,0,none⟩=some (.float .f64 a)∧w'.cell? ⟨q,0,none⟩=some (.float .f64 b)) (go_keep) (first
   | (with_reducible refine (compareF_any _ b a).mono ?_;rintro e w1 ⟨rfl,rfl⟩)
   | ((with_reducible refine (HC.out _ (Below.refl _ _)).mono ?_);rintro e w1 ⟨rfl,hb1⟩;have g1:=(hb1.cell (p:=⟨p,0,none⟩) HH.out.lt1).trans h1;have g2:=(hb1.cell (p:=⟨q,0,none⟩) HH.out.lt2).trans h2))
  all_goals
   go_wp2_with fail
   go_ret
   exact ⟨rfl,HBB.out.trans (hb1.mono HBB.out.size)⟩
end Go.Proofs.YtilbbemdinpjcaaGreat.T
namespace Go.Proofs.YtilbbemdinpjcaaGreat.T
open Go.RowKit
theorem cmpnanN_any (x:Int) (w:World):Calls Tryz.prog 144 #[.int .i64 x] w fun e w'=>e=.returned (.bool false)∧w=w':=by
 have h:(x != x)=false:=by simp
 go_enter Tryz.func144,Tryz.ntmps144
 go_wp2
 go_ret
 exact ⟨rfl,rfl⟩
theorem compareN_any (w:World) (x y:Int):Calls Tryz.prog 78 #[.int .i64 x,.int .i64 y] w fun e w'=>e=.returned (.int .i64 (cmpI x y))∧w=w':=by
 have c1:=cmpnanN_any x w
 have c2:=cmpnanN_any y w
 obtain ⟨m,hm⟩:∃ m,m=cmpI x y:=⟨_,rfl⟩
 rw [← hm]
 unfold cmpI at hm
 by_cases h1:x < y
 ·
  rw [if_pos h1] at hm
  have HM:=Lib.hid hm
  clear hm
  go_enter Tryz.func78,Tryz.ntmps78
  go_wp2_with fail
  refine c1.mono ?_
  rintro e w' ⟨rfl,rfl⟩
  go_wp2_with fail
  refine c2.mono ?_
  rintro e w' ⟨rfl,rfl⟩
  clear c1 c2
  go_wp2_with fail
  go_ret
  exact ⟨ret_i HM.out.symm,rfl⟩
 ·
  rw [if_neg h1] at hm
  by_cases h2:y < x
  ·
   rw [if_pos h2] at hm
   have HM:=Lib.hid hm
   clear hm
   go_enter Tryz.func78,Tryz.ntmps78
   go_wp2_with fail
   refine c1.mono ?_
   rintro e w' ⟨rfl,rfl⟩
   go_wp2_with fail
   refine c2.mono ?_
   rintro e w' ⟨rfl,rfl⟩
   clear c1 c2
   go_wp2_with fail
   go_ret
   exact ⟨ret_i HM.out.symm,rfl⟩
  ·
   rw [if_neg h2] at hm
   have HM:=Lib.hid hm
   clear hm
   go_enter Tryz.func78,Tryz.ntmps78
   go_wp2_with fail
   refine c1.mono ?_
   rintro e w' ⟨rfl,rfl⟩
   go_wp2_with fail
   refine c2.mono ?_
   rintro e w' ⟨rfl,rfl⟩
   clear c1 c2
   go_wp2_with fail
   go_ret
   exact ⟨ret_i HM.out.symm,rfl⟩
theorem cmpnanK_any (x:Int) (w:World):Calls Tryz.prog 323 #[.int .i64 x] w fun e w'=>e=.returned (.bool false)∧w=w':=by
 have h:(x != x)=false:=by simp
 go_enter Tryz.func323,Tryz.ntmps323
 go_wp2
 go_ret
 exact ⟨rfl,rfl⟩
theorem compareK_any (w:World) (x y:Int):Calls Tryz.prog 318 #[.int .i64 x,.int .i64 y] w fun e w'=>e=.returned (.int .i64 (cmpI x y))∧w=w':=by
 have c1:=cmpnanK_any x w
 have c2:=cmpnanK_any y w
 obtain ⟨m,hm⟩:∃ m,m=cmpI x y:=⟨_,rfl⟩
 rw [← hm]
 unfold cmpI at hm
 by_cases h1:x < y
 ·
  rw [if_pos h1] at hm
  have HM:=Lib.hid hm
  clear hm
  go_enter Tryz.func318,Tryz.ntmps318
  go_wp2_with fail
  refine c1.mono ?_
  rintro e w' ⟨rfl,rfl⟩
  go_wp2_with fail
  refine c2.mono ?_
  rintro e w' ⟨rfl,rfl⟩
  clear c1 c2
  go_wp2_with fail
  go_ret
  exact ⟨ret_i HM.out.symm,rfl⟩
 ·
  rw [if_neg h1] at hm
  by_cases h2:y < x
  ·
   rw [if_pos h2] at hm
   have HM:=Lib.hid hm
   clear hm
   go_enter Tryz.func318,Tryz.ntmps318
   go_wp2_with fail
   refine c1.mono ?_
   rintro e w' ⟨rfl,rfl⟩
   go_wp2_with fail
   refine c2.mono ?_
   rintro e w' ⟨rfl,rfl⟩
   clear c1 c2
   go_wp2_with fail
   go_ret
   exact ⟨ret_i HM.out.symm,rfl⟩
  ·
   rw [if_neg h2] at hm
   have HM:=Lib.hid hm
   clear hm
   go_enter Tryz.func318,Tryz.ntmps318
   go_wp2_with fail
   refine c1.mono ?_
   rintro e w' ⟨rfl,rfl⟩
   go_wp2_with fail
   refine c2.mono ?_
   rintro e w' ⟨rfl,rfl⟩
   clear c1 c2
   go_wp2_with fail
   go_ret
   exact ⟨ret_i HM.out.symm,rfl⟩
theorem cmpnanS_any (x:ByteArray) (w:World):Calls Tryz.prog 286 #[.string x] w fun e w'=>e=.returned (.bool false)∧w=w':=by
 go_enter Tryz.func286,Tryz.ntmps286
 go_wp2
 go_ret
 exact ⟨rfl,rfl⟩
def cmpS (x y:ByteArray):Int:=if Op.bytesLess x.toList y.toList=true then -1 else if (x.toList == y.toList)=true then 0 else 1
theorem compareS_any (w:World) (x y:ByteArray):Calls Tryz.prog 261 #[.string x,.string y] w fun e w'=>e=.returned (.int .i64 (cmpS x y))∧w=w':=by
 have c1:=cmpnanS_any x w
 have c2:=cmpnanS_any y w
 obtain ⟨m,hm⟩:∃ m,m=cmpS x y:=⟨_,rfl⟩
 rw [← hm]
 unfold cmpS at hm
 have HM:=Lib.hid hm
 clear hm
 go_enter Tryz.func261,Tryz.ntmps261
 go_wp2_with fail
 refine c1.mono ?_
 rintro e w' ⟨rfl,rfl⟩
 go_wp2_with fail
 refine c2.mono ?_
 rintro e w' ⟨rfl,rfl⟩
 clear c1 c2
 go_wp2_with fail
 all_goals (go_ret;have hm:=HM.out;exact ⟨ret_i (by rw [hm];simp_all),rfl⟩)
def firstNZ:List Int→Int
 | []=>0
 | x :: l=>if x=0 then firstNZ l else x
theorem firstNZ_at:∀ (xs:List Int) (k:Nat),(∀ j,j < k→xs.getD j 0=0)→k < xs.length→xs.getD k 0≠0→firstNZ xs=xs.getD k 0
 | [],k,_,h,_=>by simp at h
 | x :: l,0,_,_,h=>by simp at h ⊢;simp [firstNZ,h]
 | x :: l,k+1,h0,h1,h2=>by
   have hx:x=0:=by have:=h0 0 (by omega);simpa using this
   have ih:=firstNZ_at l k (fun j hj=>by have:=h0 (j+1) (by omega);simpa using this) (by simpa using h1) (by simpa using h2)
   unfold firstNZ
   rw [if_pos hx,ih]
   simp
theorem firstNZ_none:∀ (xs:List Int),(∀ j,j < xs.length→xs.getD j 0=0)→firstNZ xs=0
 | [],_=>rfl
 | x :: l,h=>by
   have hx:x=0:=by have:=h 0 (by simp);simpa using this
   unfold firstNZ
   rw [if_pos hx,firstNZ_none l fun j hj=>by have:=h (j+1) (by simp;omega);simpa using this]
theorem or_any (xs:List Int) (g c:Nat) (w:World) (hc:∀ j,j < xs.length→w.cell? ⟨g,j,none⟩=some (.int .i64 (xs.getD j 0))) (hl:xs.length≤100) :
  Calls Tryz.prog 76 #[.slice (some ⟨g,0,none⟩) xs.length c] w fun e w'=>e=.returned (.int .i64 (firstNZ xs))∧w=w':=by
 have HC:=Lib.hid hc
 clear hc
 go_enter Tryz.func76,Tryz.ntmps76
 go_wp2_with fail
 go_loop [8] (fun i=>∃ k:Nat,k≤xs.length∧i=.int .i64 k∧∀ j,j < k→xs.getD j 0=0) (fun i=>xs.length - (intOf i).toNat)
 case atStart=>exact ⟨0,Nat.zero_le _,rfl,fun j hj=>by omega⟩
 case round =>
  obtain ⟨k,hk,rfl,hz⟩:=hrel
  have HZ:=Lib.hid hz
  clear hz
  by_cases hlt:k < xs.length
  ·
   have cc:=HC.out k hlt
   obtain ⟨x,hx⟩:∃ x,x=xs.getD k 0:=⟨_,rfl⟩
   rw [← hx] at cc
   have HX:=Lib.hid hx
   clear hx
   by_cases h0:x=0
   ·
    subst h0
    go_wp2_with fail
    go_round
    case rel=>exact ⟨k+1,by omega,by go_num,fun j hj=>by
     by_cases e:j=k
     ·
      rw [e];exact HX.out.symm
     ·
      exact HZ.out j (by omega)⟩
    case measure=>simp [intOf];omega
   ·
    have hb:(x != 0)=true:=by rw [bne_iff_ne];exact h0
    go_wp2_with fail
    go_ret
    have hx:=HX.out
    exact ⟨ret_i (by rw [firstNZ_at xs k HZ.out hlt (by rw [← hx];exact h0),hx]),rfl⟩
  ·
   have hkl:k=xs.length:=by omega
   have he:decide (k < xs.length)=false:=by simpa using hlt
   go_wp2_with fail
   go_ret
   exact ⟨ret_i (firstNZ_none xs (by rw [← hkl];exact HZ.out)).symm,rfl⟩
end Go.Proofs.YtilbbemdinpjcaaGreat.T
