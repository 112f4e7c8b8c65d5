/-
  pack: what was put is got: terms, outputs, refs, entries, diffs. Plain mathematics.
-/
import Derived.Test.YtilbbemdinpjcaaGreatJYo
namespace Go.Proofs.YtilbbemdinpjcaaGreat.P
set_option maxRecDepth 100000
open Go.RowKit Go.Sort
theorem pre_cut {b e xs:List UInt8} (h:(b ++ e) <+: xs):(xs.drop b.length).take e.length=e∧b.length+e.length≤xs.length:=by
 obtain ⟨r,rfl⟩:=h
 refine ⟨?_,by simp⟩
 rw [List.append_assoc,List.drop_left,List.take_left]
theorem lay_N {st:Option (List UInt8)} {n s:Nat} {b':List UInt8} (h:W.stepN st n s=some b'):∃ b,st=some b∧b'=b ++ W.beN n s∧n / 2 ^ (8 * s)=0:=by
 cases st with
 | none=>cases h
 | some b =>
   simp only [W.stepN,Option.bind_some] at h
   split at h
   · rename_i hn
     exact ⟨b,rfl,(Option.some.inj h).symm,hn⟩
   · cases h
theorem lay_B {st:Option (List UInt8)} {ys:List UInt8} {b':List UInt8} (h:W.stepB st ys=some b'):∃ b,st=some b∧b'=b ++ ys:=by
 cases st with
 | none=>cases h
 | some b=>exact ⟨b,rfl,(Option.some.inj h).symm⟩
theorem lay_T {st:Option (List UInt8)} {t:ByteArray} {b':List UInt8} (h:W.stepText st t=some b'):∃ b,st=some b∧b'=b ++ (W.beN t.size 2 ++ t.data.toList)∧t.size < 65536:=by
 unfold W.stepText at h
 split at h
 ·
  rename_i ht
  obtain ⟨b,h1,h2⟩:=lay_B h
  exact ⟨b,h1,h2,ht⟩
 ·
  cases h
theorem get_N {b b' xs:List UInt8} {n s:Nat} (h:W.stepN (some b) n s=some b') (hp:b' <+: xs):W.numV xs (some b.length) s=n∧W.numS xs (some b.length) s=some b'.length∧b <+: xs:=by
 obtain ⟨b2,e1,e2,e3⟩:=lay_N h
 cases e1
 subst e2
 obtain ⟨h1,h2⟩:=pre_cut hp
 rw [W.beN_length] at h1 h2
 refine ⟨?_,?_,List.IsPrefix.trans (List.prefix_append _ _) hp⟩
 ·
  unfold W.numV
  simp only
  rw [if_pos h2,h1]
  exact W.beVal_beN n s e3
 ·
  unfold W.numS
  simp only
  rw [if_pos h2,List.length_append,W.beN_length]
theorem get_H {b b' xs:List UInt8} {p:List UInt8} (h:W.stepB (some b) p=some b') (hl:p.length=32) (hp:b' <+: xs):W.hashV xs (some b.length)=p∧W.numS xs (some b.length) 32=some b'.length∧b <+: xs:=by
 obtain ⟨b2,e1,e2⟩:=lay_B h
 cases e1
 subst e2
 obtain ⟨h1,h2⟩:=pre_cut hp
 rw [hl] at h1 h2
 refine ⟨?_,?_,List.IsPrefix.trans (List.prefix_append _ _) hp⟩
 ·
  unfold W.hashV
  simp only
  rw [if_pos h2,h1]
 ·
  unfold W.numS
  simp only
  rw [if_pos h2,List.length_append,hl]
theorem get_T {b b' xs:List UInt8} {t:ByteArray} {m:Nat} (h:W.stepText (some b) t=some b') (hm:t.size≤m) (hp:b' <+: xs):W.textV xs (some b.length) m=t.data.toList∧W.textS xs (some b.length) m=some b'.length∧b <+: xs:=by
 obtain ⟨b2,e1,e2,e3⟩:=lay_T h
 cases e1
 subst e2
 have hp2:((b ++ W.beN t.size 2) ++ t.data.toList) <+: xs:=by rw [List.append_assoc];exact hp
 have hp1:(b ++ W.beN t.size 2) <+: xs:=List.IsPrefix.trans (List.prefix_append _ _) hp2
 obtain ⟨h1,h2⟩:=pre_cut hp1
 obtain ⟨h3,h4⟩:=pre_cut hp2
 rw [W.beN_length] at h1 h2
 have hs:t.data.toList.length=t.size:=by rw [Array.length_toList];rfl
 rw [hs,List.length_append,W.beN_length] at h3 h4
 have hv:W.beVal ((xs.drop b.length).take 2)=t.size:=by rw [h1];exact W.beVal_beN _ _ (Nat.div_eq_of_lt (by omega))
 have hok:W.TextOk xs b.length (m:Int):=⟨h2,by rw [hv];omega,by rw [hv];omega⟩
 refine ⟨?_,?_,List.IsPrefix.trans (List.prefix_append _ _) hp⟩
 ·
  unfold W.textV
  simp only
  rw [if_pos hok,hv,h3]
 ·
  unfold W.textS
  simp only
  rw [if_pos hok,hv,List.length_append,List.length_append,W.beN_length,hs]
  congr 1
  omega
theorem get_F {b b' xs:List UInt8} {p:Bool} (h:W.stepB (some b) [if p then 1 else 0]=some b') (hp:b' <+: xs):W.flagV xs (some b.length)=p∧W.flagS xs (some b.length)=some b'.length∧b <+: xs:=by
 obtain ⟨b2,e1,e2⟩:=lay_B h
 cases e1
 subst e2
 obtain ⟨h1,h2⟩:=pre_cut hp
 rw [List.length_singleton] at h1 h2
 have hv:W.beVal ((xs.drop b.length).take 1)=if p then 1 else 0:=by rw [h1];cases p <;> rfl
 have hok:W.FlagOk xs b.length:=⟨h2,by rw [hv];cases p <;> decide⟩
 refine ⟨?_,?_,List.IsPrefix.trans (List.prefix_append _ _) hp⟩
 ·
  unfold W.flagV
  simp only
  rw [if_pos hok,hv]
  cases p <;> rfl
 ·
  unfold W.flagS
  simp only
  rw [if_pos hok,List.length_append,List.length_singleton]
theorem get_C {b b' xs:List UInt8} {n m:Nat} (h:W.stepN (some b) n 2=some b') (hm:n≤m) (hp:b' <+: xs):W.countV xs (some b.length) m=n∧W.countS xs (some b.length) m=some b'.length∧b <+: xs:=by
 obtain ⟨b2,e1,e2,e3⟩:=lay_N h
 cases e1
 subst e2
 obtain ⟨h1,h2⟩:=pre_cut hp
 rw [W.beN_length] at h1 h2
 have hv:W.beVal ((xs.drop b.length).take 2)=n:=by rw [h1];exact W.beVal_beN _ _ e3
 have hok:W.CountOk xs b.length (m:Int):=⟨h2,by rw [hv];omega⟩
 refine ⟨?_,?_,List.IsPrefix.trans (List.prefix_append _ _) hp⟩
 ·
  unfold W.countV
  simp only
  rw [if_pos hok,hv]
 ·
  unfold W.countS
  simp only
  rw [if_pos hok,List.length_append,W.beN_length]
theorem wrap_low (x:Int) (h1:-9223372036854775808≤x) (h2:x < 9223372036854775808):IntKind.i64.wrap (W.low64 x:Int)=x:=by
 unfold W.low64
 rw [IntKind.wrap_i64]
 omega
def AsFit (a:As):Prop:=AsOk a∧a.nm.2.length≤32
theorem as_back {b b' xs:List UInt8} {a:As} (h:asS (some b) a=some b') (ha:AsFit a) (hp:b' <+: xs):asV xs (some b.length)=a∧asE xs (some b.length)=some b'.length∧b <+: xs:=by
 obtain ⟨⟨n1,n2⟩,x⟩:=a
 unfold asS at h
 obtain ⟨b2,h2,_⟩:=lay_N h
 rw [h2] at h
 obtain ⟨b1,h1,_⟩:=lay_T h2
 rw [h1] at h2
 obtain ⟨k1,k2,k3⟩:=get_N h hp
 obtain ⟨k4,k5,k6⟩:=get_T (m:=32) h2 (by show n2.toArray.size≤32;rw [List.size_toArray];exact ha.2) k3
 obtain ⟨k7,k8,k9⟩:=get_H h1 ha.1.1 k6
 have k5:W.textS xs (some b1.length) 32=some b2.length:=k5
 have k4:W.textV xs (some b1.length) 32=n2:=k4
 refine ⟨?_,?_,k9⟩
 ·
  unfold asV
  rw [k7,k8,k5,k4,k1,wrap_low x ha.1.2.2.1 ha.1.2.2.2]
 ·
  unfold asE
  rw [k8,k5,k2]
def ToFit (a:To):Prop:=ToOk a∧a.nm.2.length≤32
theorem low_lt (x:Int):W.low64 x < 18446744073709551616:=by unfold W.low64;omega
theorem to_back {b b' xs:List UInt8} {a:To} (h:toS (some b) a=some b') (ha:ToFit a) (hp:b' <+: xs):toV xs (some b.length)=a∧toE xs (some b.length)=some b'.length∧b <+: xs:=by
 obtain ⟨⟨n1,n2⟩,x⟩:=a
 unfold toS at h
 obtain ⟨b3,h3,_⟩:=lay_N h
 rw [h3] at h
 obtain ⟨b2,h2,_⟩:=lay_N h3
 rw [h2] at h3
 obtain ⟨b1,h1,_⟩:=lay_T h2
 rw [h1] at h2
 obtain ⟨j1,j2,j3⟩:=get_N h hp
 obtain ⟨k1,k2,k3⟩:=get_N h3 j3
 obtain ⟨k4,k5,k6⟩:=get_T (m:=32) h2 (by show n2.toArray.size≤32;rw [List.size_toArray];exact ha.2) k3
 obtain ⟨k7,k8,k9⟩:=get_H h1 ha.1.1 k6
 have k5:W.textS xs (some b1.length) 32=some b2.length:=k5
 have k4:W.textV xs (some b1.length) 32=n2:=k4
 refine ⟨?_,?_,k9⟩
 ·
  unfold toV
  rw [k7,k8,k5,k4,k1,k2,j1]
  have hlo:loN x < 18446744073709551616:=by unfold loN;omega
  obtain ⟨e1,e2⟩:=hiS_of (W.low64 (hiS x)) (loN x) (low_lt _) hlo
  have hh:-9223372036854775808≤hiS x∧hiS x < 9223372036854775808:=by unfold hiS;rw [IntKind.wrap_i64];omega
  rw [wrap_low _ hh.1 hh.2] at e1
  rw [w_inj e1 e2]
 ·
  unfold toE
  rw [k8,k5,k2,j2]
theorem fold_some {α:Type} {f:Option (List UInt8)→α→Option (List UInt8)} (hf:∀ st x b',f st x=some b'→∃ b,st=some b):∀ (l:List α) (st:Option (List UInt8)) (b':List UInt8),l.foldl f st=some b'→∃ b,st=some b
 | [],st,b',h=>⟨b',h⟩
 | x :: l,st,b',h=>by
   rw [List.foldl_cons] at h
   obtain ⟨b,hb⟩:=fold_some hf l _ b' h
   exact hf st x b hb
theorem fold_pre {α:Type} {f:Option (List UInt8)→α→Option (List UInt8)} (hf:∀ st x b',f st x=some b'→∃ b,st=some b) {Q:α→Prop} {one:List UInt8→Option Nat→α} {nx:List UInt8→Option Nat→Option Nat} (hb:∀ (b b' xs:List UInt8) (x:α),f (some b) x=some b'→Q x→b' <+: xs→one xs (some b.length)=x∧nx xs (some b.length)=some b'.length∧b <+: xs) (xs:List UInt8) :
 ∀ (l:List α) (acc:List α) (b b':List UInt8),l.foldl f (some b)=some b'→(∀ x ∈ l,Q x)→b' <+: xs→rowD (one xs) (nx xs) l.length acc (some b.length)=some (acc ++ l,some b'.length)∧b <+: xs
 | [],acc,b,b',h,hq,hp=>by
   cases h
   exact ⟨by rw [List.append_nil];rfl,hp⟩
 | x :: l,acc,b,b',h,hq,hp=>by
   rw [List.foldl_cons] at h
   obtain ⟨b1,h1⟩:=fold_some hf l _ b' h
   rw [h1] at h
   obtain ⟨k1,k2⟩:=fold_pre hf hb xs l (acc ++ [x]) b1 b' h (fun y hy=>hq y (List.mem_cons_of_mem _ hy)) hp
   obtain ⟨k3,k4,k5⟩:=hb b b1 xs x h1 (hq x List.mem_cons_self) k2
   refine ⟨?_,k5⟩
   rw [List.length_cons]
   unfold rowD
   rw [k4,k3]
   simp only [Option.isSome_some,if_true]
   rw [k1,List.append_assoc]
   rfl
theorem as_st (st:Option (List UInt8)) (x:As) (b':List UInt8) (h:asS st x=some b'):∃ b,st=some b:=by
 unfold asS at h
 obtain ⟨b2,h2,_⟩:=lay_N h
 obtain ⟨b1,h1,_⟩:=lay_T h2
 obtain ⟨b0,h0,_⟩:=lay_B h1
 exact ⟨b0,h0⟩
theorem to_st (st:Option (List UInt8)) (x:To) (b':List UInt8) (h:toS st x=some b'):∃ b,st=some b:=by
 unfold toS at h
 obtain ⟨b3,h3,_⟩:=lay_N h
 obtain ⟨b2,h2,_⟩:=lay_N h3
 obtain ⟨b1,h1,_⟩:=lay_T h2
 obtain ⟨b0,h0,_⟩:=lay_B h1
 exact ⟨b0,h0⟩
theorem assets_back {b b' xs:List UInt8} {l:List As} (h:asListS (some b) l=some b') (hl:l.length≤30) (ha:∀ x ∈ l,AsFit x) (hp:b' <+: xs):assetsD xs (some b.length)=some (l,some b'.length)∧b <+: xs:=by
 unfold asListS at h
 obtain ⟨b1,h1⟩:=fold_some as_st l _ b' h
 rw [h1] at h
 obtain ⟨k1,k2⟩:=fold_pre as_st (Q:=AsFit) (one:=asV) (nx:=asE) (fun b b' xs x=>as_back) xs l [] b1 b' h ha hp
 rw [low_nat _ (by omega)] at h1
 obtain ⟨k3,k4,k5⟩:=get_C (m:=30) h1 hl k2
 refine ⟨?_,k5⟩
 unfold assetsD
 rw [show ((30:Int))=((30:Nat):Int) from rfl,k3,k4,k1,List.nil_append]
theorem totals_back {b b' xs:List UInt8} {l:List To} (h:totS (some b) l=some b') (hl:l.length < 18446744073709551616) (ha:∀ x ∈ l,ToFit x) (hp:b' <+: xs):totalsD xs (some b.length)=some (l,some b'.length)∧b <+: xs:=by
 unfold totS at h
 obtain ⟨b1,h1⟩:=fold_some to_st l _ b' h
 rw [h1] at h
 obtain ⟨k1,k2⟩:=fold_pre to_st (Q:=ToFit) (one:=toV) (nx:=toE) (fun b b' xs x=>to_back) xs l [] b1 b' h ha hp
 rw [low_nat _ (by omega)] at h1
 obtain ⟨k3,k4,k5⟩:=get_N h1 k2
 refine ⟨?_,k5⟩
 unfold totalsD
 rw [k3,k4,k1,List.nil_append]
theorem val_st (st:Option (List UInt8)) (v:Va) (b':List UInt8) (h:valS st v=some b'):∃ b,st=some b:=by
 unfold valS asListS at h
 obtain ⟨b1,h1⟩:=fold_some as_st _ _ b' h
 obtain ⟨b2,h2,_⟩:=lay_N h1
 obtain ⟨b3,h3,_⟩:=lay_N h2
 exact ⟨b3,h3⟩
theorem value_back {b b' xs:List UInt8} {v:Va} (h:valS (some b) v=some b') (hc:I64 v.coin) (hl:v.l.length≤30) (ha:∀ x ∈ v.l,AsFit x) (hp:b' <+: xs):valD xs (some b.length)=some ((v.coin,v.l),some b'.length)∧b <+: xs:=by
 unfold valS at h
 obtain ⟨b1,h1⟩:∃ b1,W.stepN (some b) (W.low64 v.coin) 8=some b1:=by
  unfold asListS at h
  obtain ⟨b2,h2⟩:=fold_some as_st _ _ b' h
  obtain ⟨b3,h3,_⟩:=lay_N h2
  exact ⟨b3,h3⟩
 rw [h1] at h
 obtain ⟨k1,k2⟩:=assets_back h hl ha hp
 obtain ⟨k3,k4,k5⟩:=get_N h1 k2
 refine ⟨?_,k5⟩
 unfold valD
 rw [k4,k1,k3,wrap_low _ hc.1 hc.2]
 rfl
theorem well_fit {p:As→Bool} {l:List As} (h:wellB p l=true) (ho:∀ a ∈ l,AsOk a):∀ a ∈ l,AsFit a:=fun a ha=>by
 refine ⟨ho a ha,?_⟩
 obtain ⟨i,hi,e⟩:=List.getElem_of_mem ha
 unfold wellB at h
 rw [List.all_eq_true] at h
 have h1:=h i (List.mem_range.2 hi)
 unfold okAt at h1
 rw [List.getD_eq_getElem?_getD,List.getElem?_eq_getElem hi,e] at h1
 simp only [Bool.and_eq_true,decide_eq_true_eq] at h1
 exact h1.1.1
theorem wellT_fit {p:To→Bool} {l:List To} (h:wellT p l=true) (ho:∀ a ∈ l,ToOk a):∀ a ∈ l,ToFit a:=fun a ha=>by
 refine ⟨ho a ha,?_⟩
 obtain ⟨i,hi,e⟩:=List.getElem_of_mem ha
 unfold wellT at h
 rw [List.all_eq_true] at h
 have h1:=h i (List.mem_range.2 hi)
 unfold okT at h1
 rw [List.getD_eq_getElem?_getD,List.getElem?_eq_getElem hi,e] at h1
 simp only [Bool.and_eq_true,decide_eq_true_eq] at h1
 exact h1.1.1
end Go.Proofs.YtilbbemdinpjcaaGreat.P
namespace Go.Proofs.YtilbbemdinpjcaaGreat.P
set_option maxRecDepth 100000
open Go.RowKit Go.Sort
def NodeFit (n:T.Nd):Prop:=NdIn n∧((n.kind=1∧n.bits=0∧n.txt=⟨#[]⟩∧n.kids=0) ∨ (n.kind=2∧n.num=0∧n.bits=0∧n.txt.size≤200∧n.kids=0) ∨ (n.kind=3∧n.num=0∧n.txt=⟨#[]⟩∧n.kids=0) ∨ ((n.kind=4 ∨ n.kind=6)∧n.num=0∧n.bits=0∧n.txt=⟨#[]⟩) ∨ (n.kind=5∧0≤n.num∧n.num≤2147483647∧n.bits=0∧n.txt=⟨#[]⟩))
theorem txt_nil {t:ByteArray} (h:(⟨#[]⟩:ByteArray).toList=t.toList):t=⟨#[]⟩:=by
 rw [ByteArray.toList_eq,ByteArray.toList_eq] at h
 obtain ⟨d⟩:=t
 have h2:([]:List UInt8)=d.toList:=h
 have:d=#[]:=by
  apply Array.toList_inj.1
  rw [← h2]
 rw [this]
theorem just_parts {x:T.Nd} {n:Int} {b:Nat} {t:ByteArray} {d:Int} {k:Int} (h:T.justB x ⟨k,n,b,t,d⟩=true):x.num=n∧x.bits=b∧t.toList=x.txt.toList∧x.kids=d:=by
 unfold T.justB at h
 simp only [Bool.and_eq_true,beq_iff_eq] at h
 exact ⟨h.1.symm,h.2.1.symm,h.2.2.1,h.2.2.2.symm⟩
theorem kind_fit {xs:List T.Nd} {E:Nat→Nat} {i:Nat} {x:T.Nd} (h:T.kindB xs E i x=true) (hi:NdIn x):NodeFit x:=by
 refine ⟨hi,?_⟩
 unfold T.kindB at h
 split at h
 ·
  rename_i hk
  obtain ⟨_,h2,h3,h4⟩:=just_parts h
  exact .inl ⟨hk,h2,txt_nil h3,h4⟩
 split at h
 ·
  rename_i hk
  simp only [Bool.and_eq_true,decide_eq_true_eq] at h
  obtain ⟨h1,h2,_,h4⟩:=just_parts h.2
  exact .inr (.inl ⟨hk,h1,h2,h.1,h4⟩)
 split at h
 ·
  rename_i hk
  simp only [Bool.and_eq_true,decide_eq_true_eq] at h
  obtain ⟨h1,_,h3,h4⟩:=just_parts h.2
  exact .inr (.inr (.inl ⟨hk,h1,txt_nil h3,h4⟩))
 split at h
 ·
  rename_i hk
  obtain ⟨h1,h2,h3,_⟩:=just_parts h
  exact .inr (.inr (.inr (.inl ⟨.inl hk,h1,h2,txt_nil h3⟩)))
 split at h
 ·
  rename_i hk
  simp only [Bool.and_eq_true] at h
  obtain ⟨_,h2,h3,_⟩:=just_parts h.2
  have h5:=h.1
  unfold T.tagIn at h5
  simp only [Bool.and_eq_true,decide_eq_true_eq] at h5
  exact .inr (.inr (.inr (.inr ⟨hk,h5.1,h5.2,h2,txt_nil h3⟩)))
 split at h
 ·
  rename_i hk
  unfold T.mapB at h
  simp only [Bool.and_eq_true] at h
  obtain ⟨h1,h2,h3,_⟩:=just_parts h.2.1
  exact .inr (.inr (.inr (.inl ⟨.inr hk,h1,h2,txt_nil h3⟩)))
 ·
  cases h
theorem low_int {x:Int} (h0:0≤x) (h1:x < 9223372036854775808):((W.low64 x:Nat):Int)=x:=by
 unfold W.low64
 omega
theorem node_back {b b' xs:List UInt8} {n:T.Nd} (h:ndT (some b) n=some b') (hf:NodeFit n) (hk:0≤n.kids) (hp:b' <+: xs):ndV xs (some b.length) n.kind=n∧ndP xs (some b.length) n.kind=some b'.length∧b <+: xs:=by
 obtain ⟨kd,nu,bi,tx,ki⟩:=n
 obtain ⟨hi,hf⟩:=hf
 have kin:ki < 9223372036854775808:=hi.kids.2
 have nin:-9223372036854775808≤nu∧nu < 9223372036854775808:=hi.num
 have hk:0≤ki:=hk
 clear hi
 rcases hf with ⟨h1,h2,h3,h4⟩ | ⟨h1,h2,h3,h4,h5⟩ | ⟨h1,h2,h3,h4⟩ | ⟨h1,h2,h3,h4⟩ | ⟨h1,h2,h3,h4,h5⟩
 ·
  have h1:kd=1:=h1
  have h2:bi=0:=h2
  have h3:tx=⟨#[]⟩:=h3
  have h4:ki=0:=h4
  subst h1 h2 h3 h4
  obtain ⟨k1,k2,k3⟩:=get_N (show W.stepN (some b) (W.low64 nu) 8=some b' from h) hp
  refine ⟨?_,k2,k3⟩
  show (⟨1,IntKind.i64.wrap (W.numV xs (some b.length) 8),0,⟨#[]⟩,0⟩:T.Nd)=_
  rw [k1,wrap_low nu nin.1 nin.2]
 ·
  have h1:kd=2:=h1
  have h2:nu=0:=h2
  have h3:bi=0:=h3
  have h5:ki=0:=h5
  subst h1 h2 h3 h5
  obtain ⟨k1,k2,k3⟩:=get_T (m:=200) (show W.stepText (some b) tx=some b' from h) h4 hp
  refine ⟨?_,k2,k3⟩
  have k1:W.textV xs (some b.length) 200=tx.data.toList:=k1
  show (⟨2,0,0,⟨(W.textV xs (some b.length) 200).toArray⟩,0⟩:T.Nd)=_
  rw [k1]
 ·
  have h1:kd=3:=h1
  have h2:nu=0:=h2
  have h3:tx=⟨#[]⟩:=h3
  have h4:ki=0:=h4
  subst h1 h2 h3 h4
  obtain ⟨k1,k2,k3⟩:=get_N (show W.stepN (some b) bi 8=some b' from h) hp
  refine ⟨?_,k2,k3⟩
  show (⟨3,0,W.numV xs (some b.length) 8,⟨#[]⟩,0⟩:T.Nd)=_
  rw [k1]
 ·
  have h2:nu=0:=h2
  have h3:bi=0:=h3
  have h4:tx=⟨#[]⟩:=h4
  have h1:kd=4 ∨ kd=6:=h1
  subst h2 h3 h4
  obtain ⟨k1,k2,k3⟩:=get_N (show W.stepN (some b) (W.low64 ki) 2=some b' by rcases h1 with e | e <;> subst e <;> exact h) hp
  have hv:ndV xs (some b.length) kd=⟨kd,0,0,⟨#[]⟩,W.numV xs (some b.length) 2⟩:=by rcases h1 with e | e <;> subst e <;> rfl
  have hq:ndP xs (some b.length) kd=W.numS xs (some b.length) 2:=by rcases h1 with e | e <;> subst e <;> rfl
  refine ⟨?_,?_,k3⟩
  ·
   show ndV xs (some b.length) kd=_
   rw [hv,k1,low_int hk kin]
  ·
   show ndP xs (some b.length) kd=_
   rw [hq,k2]
 ·
  have h1:kd=5:=h1
  have h2:0≤nu:=h2
  have h3:nu≤2147483647:=h3
  have h4:bi=0:=h4
  have h5:tx=⟨#[]⟩:=h5
  subst h1 h4 h5
  have h:W.stepN (W.stepN (some b) (W.low64 nu) 4) (W.low64 ki) 2=some b':=h
  obtain ⟨b1,e1,_⟩:=lay_N h
  rw [e1] at h
  obtain ⟨k1,k2,k3⟩:=get_N h hp
  obtain ⟨k4,k5,k6⟩:=get_N e1 k3
  refine ⟨?_,?_,k6⟩
  ·
   show (⟨5,W.numV xs (some b.length) 4,0,⟨#[]⟩,W.numV xs (W.numS xs (some b.length) 4) 2⟩:T.Nd)=_
   rw [k4,k5,k1,low_int hk kin,low_int h2 (by omega)]
  ·
   show W.numS xs (W.numS xs (some b.length) 4) 2=_
   rw [k5,k2]
theorem ndT_st {st:Option (List UInt8)} {n:T.Nd} {b':List UInt8} (h:ndT st n=some b'):∃ b,st=some b:=by
 unfold ndT at h
 split at h
 ·
  obtain ⟨b,e,_⟩:=lay_N h;exact ⟨b,e⟩
 split at h
 ·
  obtain ⟨b,e,_⟩:=lay_T h;exact ⟨b,e⟩
 split at h
 ·
  obtain ⟨b,e,_⟩:=lay_N h;exact ⟨b,e⟩
 split at h
 ·
  obtain ⟨b,e,_⟩:=lay_N h
  obtain ⟨c,e2,_⟩:=lay_N e
  exact ⟨c,e2⟩
 ·
  obtain ⟨b,e,_⟩:=lay_N h;exact ⟨b,e⟩
theorem nd_st (st:Option (List UInt8)) (n:T.Nd) (b':List UInt8) (h:ndS st n=some b'):∃ b,st=some b:=by
 unfold ndS at h
 obtain ⟨b,e⟩:=ndT_st h
 obtain ⟨c,e2,_⟩:=lay_N e
 exact ⟨c,e2⟩
theorem fit_kind {n:T.Nd} (h:NodeFit n):1≤n.kind∧n.kind≤6:=by
 rcases h.2 with h | h | h | h | h <;> omega
theorem decT_step (xs:List UInt8) (f l:Nat) (acc:List T.Nd) (st:Option Nat):decT xs (f+1) (l+1) acc st=if kindIn (W.numV xs st 1) then decT xs f (l+(ndV xs (W.numS xs st 1) (W.numV xs st 1)).kids.toNat) (acc ++ [ndV xs (W.numS xs st 1) (W.numV xs st 1)]) (ndP xs (W.numS xs st 1) (W.numV xs st 1)) else none:=rfl
theorem fo_back (xs:List UInt8):∀ (fo:T.Fo) (f l:Nat) (acc:List T.Nd) (b b':List UInt8),termS (some b) fo.flat=some b'→(∀ n ∈ fo.flat,NodeFit n)→b' <+: xs→fo.len≤f→decT xs f (fo.cnt+l) acc (some b.length)=decT xs (f - fo.len) l (acc ++ fo.flat) (some b'.length)∧b <+: xs
 | .nil,f,l,acc,b,b',h,hf,hp,hl=>by
   have e:b=b':=Option.some.inj h
   subst e
   refine ⟨?_,hp⟩
   simp [T.Fo.cnt,T.Fo.len,T.Fo.flat]
 | .cons n k r,f,l,acc,b,b',h,hf,hp,hl=>by
   have hl1:1+k.len+r.len≤f:=hl
   obtain ⟨n',hn'⟩:∃ n':T.Nd,n'={ n with kids:=(k.cnt:Int) }:=⟨_,rfl⟩
   have hflat:(T.Fo.cons n k r).flat=n' :: (k.flat ++ r.flat):=by rw [hn'];rfl
   have hki:n'.kids=(k.cnt:Int):=by rw [hn']
   rw [hflat] at h hf ⊢
   unfold termS at h
   rw [List.foldl_cons,List.foldl_append] at h
   obtain ⟨b2,h2⟩:=fold_some nd_st _ _ b' h
   rw [h2] at h
   obtain ⟨b1,h1⟩:=fold_some nd_st _ _ b2 h2
   rw [h1] at h2
   obtain ⟨m,hm⟩:∃ m,f=m+1:=⟨f - 1,by omega⟩
   subst hm
   obtain ⟨q1,q2⟩:=fo_back xs r (m - k.len) l (acc ++ [n'] ++ k.flat) b2 b' h (fun x hx=>hf x (by simp [hx])) hp (by omega)
   obtain ⟨q3,q4⟩:=fo_back xs k m (r.cnt+l) (acc ++ [n']) b1 b2 h2 (fun x hx=>hf x (by simp [hx])) q2 (by omega)
   have hnf:=hf n' List.mem_cons_self
   unfold ndS at h1
   obtain ⟨b0,h0⟩:=ndT_st h1
   rw [h0] at h1
   obtain ⟨p1,p2,p3⟩:=node_back h1 hnf (by rw [hki];omega) q4
   obtain ⟨p4,p5,p6⟩:=get_N h0 p3
   have hkd:=fit_kind hnf
   have hkv:((W.numV xs (some b.length) 1:Nat):Int)=n'.kind:=by rw [p4];exact low_int (by omega) (by omega)
   refine ⟨?_,p6⟩
   rw [show (T.Fo.cons n k r).cnt+l=(r.cnt+l)+1 by show r.cnt+1+l=r.cnt+l+1;omega]
   rw [decT_step,hkv,p5,p1,p2,if_pos (by unfold kindIn;simp [hkd.1,hkd.2]),hki,Int.toNat_natCast,show r.cnt+l+k.cnt=k.cnt+(r.cnt+l) by omega,q3,q1]
   rw [show m+1 - (T.Fo.cons n k r).len=m - k.len - r.len by show m+1 - (1+k.len+r.len)=_;omega]
   simp [List.append_assoc]
theorem right_fit {ns:List T.Nd} (h:T.rightB ns=true) (hi:∀ x ∈ ns,NdIn x):(∀ x ∈ ns,NodeFit x)∧ns.length≤100∧T.inO ns=true:=by
 unfold T.rightB T.fitsB at h
 simp only [Bool.and_eq_true,decide_eq_true_eq] at h
 refine ⟨fun x hx => ?_,by omega,h.2.1⟩
 obtain ⟨i,hil,e⟩:=List.getElem_of_mem hx
 have hk:=h.2.2.2
 unfold T.kindsB at hk
 rw [List.all_eq_true] at hk
 have h1:=hk i (List.mem_range.2 hil)
 rw [List.getElem?_eq_getElem hil,e] at h1
 exact kind_fit h1 (hi x hx)
theorem term_st (st:Option (List UInt8)) (ns:List T.Nd) (b':List UInt8) (h:termS st ns=some b'):∃ b,st=some b:=fold_some nd_st _ _ b' h
theorem term_back {b b' xs:List UInt8} {ns:List T.Nd} (h:termS (some b) ns=some b') (hr:T.rightB ns=true) (hi:∀ x ∈ ns,NdIn x) (hp:b' <+: xs):decT xs 100 1 [] (some b.length)=some (ns,b'.length)∧b <+: xs:=by
 obtain ⟨h1,h2,h3⟩:=right_fit hr hi
 obtain ⟨fo,e1,e2⟩:=T.fo_inO h3
 subst e2
 rw [T.Fo.flat_len] at h2
 obtain ⟨k1,k2⟩:=fo_back xs fo 100 0 [] b b' h h1 hp h2
 refine ⟨?_,k2⟩
 rw [e1] at k1
 rw [show (1:Nat)=1+0 from rfl,k1,decT_end]
 rfl
structure OutFit (o:Ot):Prop where
 ah:o.ah.length=32
 dh:o.dh.length=32
 c:I64 o.v.coin
 a:∀ x ∈ o.v.l,AsOk x
 n:∀ x ∈ o.ns,NdIn x
theorem out_st (st:Option (List UInt8)) (o:Ot) (b':List UInt8) (h:outS st o=some b'):∃ b,st=some b:=by
 have key:∀ x s,W.stepN (valS (W.stepB (W.stepB st [if o.prog then 1 else 0]) o.ah) o.v) (W.low64 o.kind) x=some s→∃ b,st=some b:=fun x s hs=>by
  obtain ⟨b3,e3,_⟩:=lay_N hs
  obtain ⟨b2,e2⟩:=val_st _ _ _ e3
  obtain ⟨b1,e1,_⟩:=lay_B e2
  obtain ⟨b0,e0,_⟩:=lay_B e1
  exact ⟨b0,e0⟩
 unfold outS at h
 split at h
 ·
  obtain ⟨b,e,_⟩:=lay_B h;exact key _ _ e
 split at h
 ·
  obtain ⟨b,e⟩:=term_st _ _ _ h;exact key _ _ e
 ·
  exact key _ _ h
theorem out_back {b b' xs:List UInt8} {o:Ot} (h:outS (some b) o=some b') (hr:rightOB o=true) (ho:OutFit o) (hp:b' <+: xs):outD xs (some b.length)=some (outV o,b'.length)∧b <+: xs:=by
 unfold rightOB at hr
 rw [Bool.and_eq_true] at hr
 obtain ⟨hv,hh⟩:=hr
 have hv2:rightB o.v.coin o.v.l=true:=hv
 unfold rightB at hv2
 simp only [Bool.and_eq_true,decide_eq_true_eq] at hv2
 have hkd:o.kind=0 ∨ o.kind=1 ∨ o.kind=2:=by
  unfold haveB at hh
  split at hh
  ·
   exact .inl ‹_›
  split at hh
  ·
   exact .inr (.inl ‹_›)
  split at hh
  ·
   exact .inr (.inr ‹_›)
  ·
   cases hh
 have key:∀ s:List UInt8,W.stepN (valS (W.stepB (W.stepB (some b) [if o.prog then 1 else 0]) o.ah) o.v) (W.low64 o.kind) 1=some s→s <+: xs→∃ q,valD xs (adE xs (some b.length))=some ((o.v.coin,o.v.l),some q)∧((W.numV xs (some q) 1:Nat):Int)=o.kind∧W.numS xs (some q) 1=some s.length∧W.flagV xs (some b.length)=o.prog∧W.hashV xs (W.flagS xs (some b.length))=o.ah∧b <+: xs:=fun s hs hsp=>by
  obtain ⟨b3,e3,_⟩:=lay_N hs
  rw [e3] at hs
  obtain ⟨b2,e2⟩:=val_st _ _ _ e3
  rw [e2] at e3
  obtain ⟨b1,e1,_⟩:=lay_B e2
  rw [e1] at e2
  obtain ⟨k1,k2,k3⟩:=get_N hs hsp
  obtain ⟨k4,k5⟩:=value_back e3 ho.c hv2.1.2 (well_fit hv2.2 ho.a) k3
  obtain ⟨k6,k7,k8⟩:=get_H e2 ho.ah k5
  obtain ⟨k9,k10,k11⟩:=get_F e1 k8
  refine ⟨b3.length,?_,by rw [k1];exact low_int (by omega) (by omega),k2,k9,by rw [k10];exact k6,k11⟩
  unfold adE
  rw [k10,k7]
  exact k4
 unfold outS at h
 by_cases c1:o.kind=1
 ·
  rw [if_pos c1] at h
  obtain ⟨s,e,_⟩:=lay_B h
  rw [e] at h
  obtain ⟨k1,k2,k3⟩:=get_H h ho.dh hp
  obtain ⟨q,j1,j2,j3,j4,j5,j6⟩:=key s e k3
  have hn:o.ns=[]:=by
   unfold haveB at hh
   rw [c1] at hh
   simpa using hh
  refine ⟨?_,j6⟩
  unfold outD
  rw [j1]
  simp only
  rw [if_pos (by rw [c1] at j2;omega),j3,k1,k2,j2,j4,j5]
  show some (_,_)=some (_,_)
  unfold outV
  rw [hn]
 rw [if_neg c1] at h
 by_cases c2:o.kind=2
 ·
  rw [if_pos c2] at h
  obtain ⟨s,e⟩:=term_st _ _ _ h
  rw [e] at h
  have h2:o.dh=zeroH∧T.rightB o.ns=true:=by
   unfold haveB at hh
   rw [c2] at hh
   simpa using hh
  obtain ⟨k1,k2⟩:=term_back h h2.2 ho.n hp
  obtain ⟨q,j1,j2,j3,j4,j5,j6⟩:=key s e k2
  refine ⟨?_,j6⟩
  unfold outD
  rw [j1]
  simp only
  rw [if_neg (by rw [c2] at j2;omega),if_pos (by rw [c2] at j2;omega),j3,k1,j2,j4,j5]
  show some (_,_)=some (_,_)
  unfold outV
  rw [h2.1]
  rfl
 ·
  rw [if_neg c2] at h
  have c0:o.kind=0:=by
   rcases hkd with e | e | e
   ·
    exact e
   ·
    exact absurd e c1
   ·
    exact absurd e c2
  obtain ⟨q,j1,j2,j3,j4,j5,j6⟩:=key b' h hp
  have h2:o.dh=zeroH∧o.ns=[]:=by
   unfold haveB at hh
   rw [c0] at hh
   simpa using hh
  refine ⟨?_,j6⟩
  unfold outD
  rw [j1]
  simp only
  rw [if_neg (by rw [c0] at j2;omega),if_neg (by rw [c0] at j2;omega),j3,j2,j4,j5]
  show some (_,_)=some (_,_)
  unfold outV
  rw [h2.1,h2.2]
  rfl
theorem ref_back {b b' xs:List UInt8} {r:Rf} (h:refS (some b) r=some b') (hr:rightRefB r=true) (hl:r.tx.length=32) (hp:b' <+: xs):rfV xs (some b.length)=r∧rfE xs (some b.length)=some b'.length∧b <+: xs:=by
 obtain ⟨tx,pl⟩:=r
 unfold rightRefB at hr
 simp only [Bool.and_eq_true,decide_eq_true_eq] at hr
 unfold refS at h
 obtain ⟨b1,e1,_⟩:=lay_N h
 rw [e1] at h
 have h:W.stepN (some b1) (W.low64 pl) 2=some b':=h
 have hlow:((W.low64 pl:Nat):Int)=pl:=low_int hr.1 (by omega)
 obtain ⟨k1,k2,k3⟩:=get_C (m:=30) h (by omega) hp
 obtain ⟨k4,k5,k6⟩:=get_H e1 hl k3
 have k1:W.countV xs (some b1.length) 30=W.low64 pl:=k1
 have k2:W.countS xs (some b1.length) 30=some b'.length:=k2
 refine ⟨?_,?_,k6⟩
 ·
  unfold rfV
  rw [k4,k5,k1,hlow]
 ·
  unfold rfE
  rw [k5,k2]
theorem ref_st (st:Option (List UInt8)) (r:Rf) (b':List UInt8) (h:refS st r=some b'):∃ b,st=some b:=by
 unfold refS at h
 obtain ⟨b1,e1,_⟩:=lay_N h
 obtain ⟨b0,e0,_⟩:=lay_B e1
 exact ⟨b0,e0⟩
theorem en_st (st:Option (List UInt8)) (e:En) (b':List UInt8) (h:enS st e=some b'):∃ b,st=some b:=by
 unfold enS at h
 obtain ⟨b1,e1⟩:=out_st _ _ _ h
 exact ref_st _ _ _ e1
structure EnFit (e:En):Prop where
 r:e.r.tx.length=32
 rr:rightRefB e.r=true
 o:OutFit e.o
 ro:rightOB e.o=true
theorem ent_back {b b' xs:List UInt8} {e:En} (h:enS (some b) e=some b') (he:EnFit e) (hp:b' <+: xs):entD xs (some b.length)=some (enV e,b'.length)∧b <+: xs:=by
 unfold enS at h
 obtain ⟨b1,e1⟩:=out_st _ _ _ h
 rw [e1] at h
 obtain ⟨k1,k2⟩:=out_back h he.ro he.o hp
 obtain ⟨k3,k4,k5⟩:=ref_back e1 he.rr he.r k2
 refine ⟨?_,k5⟩
 unfold entD
 rw [k4,k1,k3]
 rfl
theorem ents_back (xs:List UInt8):∀ (l:List En) (acc:List (Rf × OutV)) (b b':List UInt8),l.foldl enS (some b)=some b'→(∀ x ∈ l,EnFit x)→b' <+: xs→rowE xs l.length acc (some b.length)=some (acc ++ l.map enV,some b'.length)∧b <+: xs
 | [],acc,b,b',h,hq,hp=>by
   cases h
   exact ⟨by rw [List.map_nil,List.append_nil];rfl,hp⟩
 | x :: l,acc,b,b',h,hq,hp=>by
   rw [List.foldl_cons] at h
   obtain ⟨b1,h1⟩:=fold_some en_st l _ b' h
   rw [h1] at h
   obtain ⟨k1,k2⟩:=ents_back xs l (acc ++ [enV x]) b1 b' h (fun y hy=>hq y (List.mem_cons_of_mem _ hy)) hp
   obtain ⟨k3,k4⟩:=ent_back h1 (hq x List.mem_cons_self) k2
   refine ⟨?_,k4⟩
   rw [List.length_cons]
   unfold rowE
   rw [k3]
   simp only
   rw [k1,List.append_assoc]
   rfl
theorem ens_st (st:Option (List UInt8)) (l:List En) (b':List UInt8) (h:ensS st l=some b'):∃ b,st=some b:=by
 unfold ensS at h
 obtain ⟨b1,e1⟩:=fold_some en_st _ _ b' h
 obtain ⟨b0,e0,_⟩:=lay_N e1
 exact ⟨b0,e0⟩
theorem entries_back {b b' xs:List UInt8} {l:List En} (h:ensS (some b) l=some b') (hl:l.length < 18446744073709551616) (hq:∀ x ∈ l,EnFit x) (hp:b' <+: xs):entriesD xs (some b.length)=some (l.map enV,some b'.length)∧b <+: xs:=by
 unfold ensS at h
 obtain ⟨b1,h1⟩:=fold_some en_st l _ b' h
 rw [h1] at h
 obtain ⟨k1,k2⟩:=ents_back xs l [] b1 b' h hq hp
 rw [low_nat _ hl] at h1
 obtain ⟨k3,k4,k5⟩:=get_N h1 k2
 refine ⟨?_,k5⟩
 unfold entriesD
 rw [k3,k4,k1,List.nil_append]
theorem tot_st (st:Option (List UInt8)) (l:List To) (b':List UInt8) (h:totS st l=some b'):∃ b,st=some b:=by
 unfold totS at h
 obtain ⟨b1,e1⟩:=fold_some to_st _ _ b' h
 obtain ⟨b0,e0,_⟩:=lay_N e1
 exact ⟨b0,e0⟩
theorem diff_back {b b' xs:List UInt8} {d:Df} (h:diffS (some b) d=some b') (hs:d.s.length < 18446744073709551616) (hm:d.m.length < 18446744073709551616) (hl:d.l.length < 18446744073709551616) (h1:∀ x ∈ d.s,EnFit x) (h2:∀ x ∈ d.m,EnFit x) (h3:∀ x ∈ d.l,ToFit x) (hf:I64 d.fe) (hg:I64 d.fo) (hp:b' <+: xs):diffD xs (some b.length)=some (diV d,some b'.length)∧b <+: xs:=by
 unfold diffS at h
 obtain ⟨b4,e4⟩:=tot_st _ _ _ h
 rw [e4] at h
 obtain ⟨b3,e3,_⟩:=lay_N e4
 rw [e3] at e4
 obtain ⟨b2,e2,_⟩:=lay_N e3
 rw [e2] at e3
 obtain ⟨b1,e1⟩:=ens_st _ _ _ e2
 rw [e1] at e2
 obtain ⟨k1,k2⟩:=totals_back h hl h3 hp
 obtain ⟨k3,k4,k5⟩:=get_N e4 k2
 obtain ⟨k6,k7,k8⟩:=get_N e3 k5
 obtain ⟨k9,k10⟩:=entries_back e2 hm h2 k8
 obtain ⟨k11,k12⟩:=entries_back e1 hs h1 k10
 refine ⟨?_,k12⟩
 rw [diffD_yes k11 k9 (by rw [k7,k4];exact k1)]
 unfold i64V
 rw [k6,k7,k3,wrap_low _ hf.1 hf.2,wrap_low _ hg.1 hg.2]
 rfl
end Go.Proofs.YtilbbemdinpjcaaGreat.P
