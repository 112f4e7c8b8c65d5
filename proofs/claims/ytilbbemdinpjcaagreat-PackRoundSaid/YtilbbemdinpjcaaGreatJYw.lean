/-
  pack: what is right is laid down: it does not spoil a writer. Plain mathematics.
-/
import Derived.Test.YtilbbemdinpjcaaGreatJYv
namespace Go.Proofs.YtilbbemdinpjcaaGreat.P
set_option maxRecDepth 100000
open Go.RowKit Go.Sort
theorem can_N (b:List UInt8) (n s:Nat) (h:n < 256 ^ s):∃ b',W.stepN (some b) n s=some b':=by
 refine ⟨b ++ W.beN n s,?_⟩
 simp only [W.stepN,Option.bind_some]
 rw [if_pos]
 refine Nat.div_eq_of_lt ?_
 rw [Nat.pow_mul]
 exact h
theorem can_8 (b:List UInt8) (n:Nat) (h:n < 18446744073709551616):∃ b',W.stepN (some b) n 8=some b':=can_N b n 8 (by rw [show (256:Nat) ^ 8=18446744073709551616 by decide];exact h)
theorem can_T (b:List UInt8) (t:ByteArray) (h:t.size < 65536):∃ b',W.stepText (some b) t=some b':=by
 unfold W.stepText
 rw [if_pos h]
 exact ⟨_,rfl⟩
theorem can_as (b:List UInt8) (a:As) (h:AsFit a):∃ b',asS (some b) a=some b':=by
 unfold asS
 obtain ⟨b2,h2⟩:=can_T (b ++ a.nm.1) (txt a.nm.2) (by show a.nm.2.toArray.size < 65536;rw [List.size_toArray];have:=h.2;omega)
 obtain ⟨b3,h3⟩:=can_8 b2 (W.low64 a.amt) (low_lt _)
 refine ⟨b3,?_⟩
 rw [show W.stepB (some b) a.nm.1=some (b ++ a.nm.1) from rfl,h2,h3]
theorem can_to (b:List UInt8) (a:To) (h:ToFit a):∃ b',toS (some b) a=some b':=by
 unfold toS
 obtain ⟨b2,h2⟩:=can_T (b ++ a.nm.1) (txt a.nm.2) (by show a.nm.2.toArray.size < 65536;rw [List.size_toArray];have:=h.2;omega)
 obtain ⟨b3,h3⟩:=can_8 b2 (W.low64 (hiS a.w)) (low_lt _)
 obtain ⟨b4,h4⟩:=can_8 b3 (loN a.w) (by unfold loN;omega)
 refine ⟨b4,?_⟩
 rw [show W.stepB (some b) a.nm.1=some (b ++ a.nm.1) from rfl,h2,h3,h4]
theorem can_fold {α:Type} {f:Option (List UInt8)→α→Option (List UInt8)} {Q:α→Prop} (hf:∀ b x,Q x→∃ b',f (some b) x=some b'):∀ (l:List α) (b:List UInt8),(∀ x ∈ l,Q x)→∃ b',l.foldl f (some b)=some b'
 | [],b,_=>⟨b,rfl⟩
 | x :: l,b,h=>by
   obtain ⟨b1,h1⟩:=hf b x (h x List.mem_cons_self)
   rw [List.foldl_cons,h1]
   exact can_fold hf l b1 fun y hy=>h y (List.mem_cons_of_mem _ hy)
theorem can_val (b:List UInt8) (v:Va) (hl:v.l.length≤30) (ha:∀ x ∈ v.l,AsFit x):∃ b',valS (some b) v=some b':=by
 unfold valS asListS
 obtain ⟨b1,h1⟩:=can_8 b (W.low64 v.coin) (low_lt _)
 obtain ⟨b2,h2⟩:=can_N b1 (W.low64 (v.l.length:Int)) 2 (by rw [low_nat _ (by omega),show (256:Nat) ^ 2=65536 by decide];omega)
 rw [h1,h2]
 exact can_fold can_as v.l b2 ha
theorem can_node (b:List UInt8) (n:T.Nd) (h:NodeFit n∧0≤n.kids∧n.kids≤100):∃ b',ndS (some b) n=some b':=by
 obtain ⟨hf,k0,k1⟩:=h
 have hk:=fit_kind hf
 have e1:(256:Nat) ^ 1=256:=by decide
 have e2:(256:Nat) ^ 2=65536:=by decide
 have e4:(256:Nat) ^ 4=4294967296:=by decide
 obtain ⟨b0,h0⟩:=can_N b (W.low64 n.kind) 1 (by rw [e1];have:=low_int (x:=n.kind) (by omega) (by omega);omega)
 have hkids:∀ c:List UInt8,∃ b',W.stepN (some c) (W.low64 n.kids) 2=some b':=fun c=>can_N c _ 2 (by rw [e2];have:=low_int (x:=n.kids) k0 (by omega);omega)
 unfold ndS
 rw [h0]
 unfold ndT
 split
 ·
  exact can_8 b0 _ (low_lt _)
 split
 ·
  rename_i hk2
  refine can_T b0 _ ?_
  rcases hf.2 with h | h | h | h | h
  ·
   omega
  ·
   have:=h.2.2.2.1;omega
  ·
   omega
  ·
   rcases h.1 with e | e <;> omega
  ·
   omega
 split
 ·
  exact can_8 b0 _ hf.1.bits
 split
 ·
  rename_i hk5
  obtain ⟨b2,h2⟩:=can_N b0 (W.low64 n.num) 4 (by
   rw [e4]
   rcases hf.2 with h | h | h | h | h
   ·
    omega
   ·
    omega
   ·
    omega
   ·
    rcases h.1 with e | e <;> omega
   ·
    have:=low_int (x:=n.num) h.2.1 (by omega);omega)
  rw [h2]
  exact hkids b2
 ·
  exact hkids b0
theorem fo_kids:∀ (fo:T.Fo) (n:T.Nd),n ∈ fo.flat→0≤n.kids∧n.kids≤fo.len
 | .nil,n,h=>by cases h
 | .cons m k r,n,h=>by
   have hlen:(T.Fo.cons m k r).len=1+k.len+r.len:=rfl
   rcases List.mem_cons.1 h with e | h
   · have:=T.Fo.cnt_le k
     rw [e]
     show 0≤(k.cnt:Int)∧(k.cnt:Int)≤_
     omega
   · rcases List.mem_append.1 h with h | h
     · have:=fo_kids k n h
       omega
     · have:=fo_kids r n h
       omega
theorem can_term (b:List UInt8) (ns:List T.Nd) (hr:T.rightB ns=true) (hi:∀ x ∈ ns,NdIn x):∃ b',termS (some b) ns=some b':=by
 obtain ⟨h1,h2,h3⟩:=right_fit hr hi
 obtain ⟨fo,e1,e2⟩:=T.fo_inO h3
 have hl:fo.len≤100:=by rw [← e2,T.Fo.flat_len] at h2;exact h2
 refine can_fold (Q:=fun n=>NodeFit n∧0≤n.kids∧n.kids≤100) can_node ns b fun x hx=>⟨h1 x hx,?_⟩
 have:=fo_kids fo x (by rw [e2];exact hx)
 omega
theorem can_out (b:List UInt8) (o:Ot) (hr:rightOB o=true) (ho:OutFit o):∃ b',outS (some b) o=some b':=by
 have hr2:=hr
 unfold rightOB at hr2
 rw [Bool.and_eq_true] at hr2
 obtain ⟨hv,hh⟩:=hr2
 have hv2:rightB o.v.coin o.v.l=true:=hv
 unfold rightB at hv2
 simp only [Bool.and_eq_true,decide_eq_true_eq] at hv2
 have hkd:o.kind=0 ∨ o.kind=1 ∨ (o.kind=2∧T.rightB o.ns=true):=by
  unfold haveB at hh
  split at hh
  ·
   exact .inl ‹_›
  split at hh
  ·
   exact .inr (.inl ‹_›)
  split at hh
  ·
   rw [Bool.and_eq_true] at hh
   exact .inr (.inr ⟨‹_›,hh.2⟩)
  ·
   cases hh
 obtain ⟨b1,h1⟩:=can_val (b ++ [if o.prog then 1 else 0] ++ o.ah) o.v hv2.1.2 (well_fit hv2.2 ho.a)
 obtain ⟨b2,h2⟩:=can_N b1 (W.low64 o.kind) 1 (by
  rw [show (256:Nat) ^ 1=256 by decide]
  have:=low_int (x:=o.kind) (by omega) (by omega)
  omega)
 unfold outS
 rw [show W.stepB (W.stepB (some b) [if o.prog then 1 else 0]) o.ah=some (b ++ [if o.prog then 1 else 0] ++ o.ah) from rfl,h1,h2]
 split
 ·
  exact ⟨_,rfl⟩
 split
 ·
  rcases hkd with h | h | h
  ·
   omega
  ·
   omega
  ·
   exact can_term b2 o.ns h.2 ho.n
 ·
  exact ⟨_,rfl⟩
theorem can_ref (b:List UInt8) (r:Rf) (hr:rightRefB r=true):∃ b',refS (some b) r=some b':=by
 unfold rightRefB at hr
 simp only [Bool.and_eq_true,decide_eq_true_eq] at hr
 unfold refS
 exact can_N (b ++ r.tx) (W.low64 r.place) 2 (by
  rw [show (256:Nat) ^ 2=65536 by decide]
  have:=low_int (x:=r.place) hr.1 (by omega)
  omega)
theorem can_en (b:List UInt8) (e:En) (h:EnFit e):∃ b',enS (some b) e=some b':=by
 unfold enS
 obtain ⟨b1,h1⟩:=can_ref b e.r h.rr
 rw [h1]
 exact can_out b1 e.o h.ro h.o
theorem can_ens (b:List UInt8) (l:List En) (hl:l.length < 4294967296) (h:∀ x ∈ l,EnFit x):∃ b',ensS (some b) l=some b':=by
 unfold ensS
 obtain ⟨b1,h1⟩:=can_N b (W.low64 (l.length:Int)) 4 (by rw [low_nat _ (by omega),show (256:Nat) ^ 4=4294967296 by decide];exact hl)
 rw [h1]
 exact can_fold can_en l b1 h
theorem can_tot (b:List UInt8) (l:List To) (hl:l.length < 4294967296) (h:∀ x ∈ l,ToFit x):∃ b',totS (some b) l=some b':=by
 unfold totS
 obtain ⟨b1,h1⟩:=can_N b (W.low64 (l.length:Int)) 4 (by rw [low_nat _ (by omega),show (256:Nat) ^ 4=4294967296 by decide];exact hl)
 rw [h1]
 exact can_fold can_to l b1 h
theorem cntE_len (l:List En):l.length≤cntE l:=by
 unfold cntE
 induction l with
 | nil=>exact Nat.le_refl _
 | cons a l ih=>rw [List.map_cons,List.sum_cons,List.length_cons];omega
theorem none_wrong {V:World} {x:Th} {k:Nat} (hx:ThOk V x) (hi:PutIn x) (hc:cntAll x≤2000) (h:putS (some []) x k=none):(k=4→rightOB x.o=false)∧(k=6→rightEB x.es=false)∧(k=7→rightDB x.d=false):=by
 unfold cntAll cntD at hc
 have l1:=cntE_len x.es
 have l2:=cntE_len x.d.s
 have l3:=cntE_len x.d.m
 refine ⟨fun e => ?_,fun e => ?_,fun e => ?_⟩
 · subst e
   cases hr:rightOB x.o with
   | false=>rfl
   | true =>
     have h:(if rightOB x.o=true then outS (some []) x.o else none)=none:=h
     rw [if_pos hr] at h
     obtain ⟨b,hb⟩:=can_out [] x.o hr (hx.o.fit hi.oi)
     rw [hb] at h
     cases h
 · subst e
   cases hr:rightEB x.es with
   | false=>rfl
   | true =>
     have h:(if rightEB x.es=true then ensS (some []) x.es else none)=none:=h
     rw [if_pos hr] at h
     obtain ⟨b,hb⟩:=can_ens [] x.es (by omega) (ens_fit hx.e hr hi.ei)
     rw [hb] at h
     cases h
 · subst e
   cases hr:rightDB x.d with
   | false=>rfl
   | true =>
     have h:(if rightDB x.d=true then diffS (some []) x.d else none)=none:=h
     rw [if_pos hr] at h
     have hm:=hr
     unfold rightDB at hm
     simp only [Bool.and_eq_true] at hm
     obtain ⟨b1,h1⟩:=can_ens [] x.d.s (by omega) (ens_fit hx.d.s hm.1.1.1.1.1 hi.si)
     obtain ⟨b2,h2⟩:=can_ens b1 x.d.m (by omega) (ens_fit hx.d.m hm.1.1.1.1.2 hi.mi)
     obtain ⟨b3,h3⟩:=can_8 b2 (W.low64 x.d.fe) (low_lt _)
     obtain ⟨b4,h4⟩:=can_8 b3 (W.low64 x.d.fo) (low_lt _)
     obtain ⟨b5,h5⟩:=can_tot b4 x.d.l (by omega) (wellT_fit hm.1.2 hx.d.l.2.1)
     unfold diffS at h
     rw [h1,h2,h3,h4,h5] at h
     cases h
end Go.Proofs.YtilbbemdinpjcaaGreat.P
