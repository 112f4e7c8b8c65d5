/-
  pack: what the bytes tell of a term; the getter's closures by kinds.
-/
import Derived.Test.YtilbbemdinpjcaaGreatJPw
import Derived.Test.YtilbbemdinpjcaaGreatJWRNew
import Derived.Test.YtilbbemdinpjcaaGreatJTTjp
set_option maxHeartbeats 16000000
namespace Go.Proofs.YtilbbemdinpjcaaGreat.P
set_option maxRecDepth 100000
open Go.RowKit
def GotR (g k:Nat) (xs:List UInt8) (c:Nat) (w:World) (v:Value) (st:Option Nat) (e:Ending) (w':World):Prop:=e=.returned v∧W.RSt w' g k xs c st∧W.Only g w w' none
theorem GotR.after {g k:Nat} {xs:List UInt8} {c:Nat} {w w1 w':World} {v:Value} {st:Option Nat} {e:Ending} (hb:Below w.heap.size w w1) (h:GotR g k xs c w1 v st e w'):GotR g k xs c w v st e w':=⟨h.1,h.2.1,(W.only_below hb).trans0 h.2.2⟩
theorem onlyCell {g:Nat} {w w':World} (h:W.Only g w w' none) {b o:Nat} (hb:b < w.heap.size) (hne:b≠g):w'.cell? ⟨b,o,none⟩=w.cell? ⟨b,o,none⟩:=W.Only.cell h hb hne
theorem info_node:(Tryz.prog.info? 72).map (·.size)=some 5:=by kernel_rfl
theorem got_row {g k:Nat} {xs:List UInt8} {c:Nat} {w W0 w1:World} {st:Option Nat} {q:Nat} {v:Value} {cs:Array Value} (hb:Below w.heap.size w W0) (hq:q≠g) (hw:w.heap.size≤q) (hl:g < w.heap.size∧k < w.heap.size∧k≠g) (hr:W.RSt w1 g k xs c st) (ho:W.Only g W0 w1 none):GotR g k xs c w v st (.returned v) (w1.setRow q cs):=by
 refine ⟨rfl,?_,W.only_row ((W.only_below hb).trans0 ho) hw cs⟩
 have hqk:q≠k:=by omega
 cases st with
 | none=>obtain ⟨a,h⟩:=hr;exact ⟨a,h.row q cs hq hqk⟩
 | some a=>exact ⟨hr.1,hr.2.row q cs hq hqk⟩
def zNode:Array Value:=#[.int .i64 0,.int .i64 0,.int .u64 0,.string ⟨#[]⟩,.int .i64 0]
theorem gc1_any (w:World) (g k:Nat) (xs:List UInt8) (c:Nat) (st:Option Nat) (p:Nat) (hp:w.cell? ⟨p,0,none⟩=some (.pointer (some ⟨g,0,none⟩))) (hl:p < w.heap.size) (h:W.RSt w g k xs c st) :
  Calls Tryz.prog 250 #[.pointer (some ⟨p,0,none⟩)] w (GotR g k xs c w (.agg #[.int .i64 0,.int .i64 0,.int .u64 0,.string ⟨#[]⟩,.int .i64 (W.numV xs st 2)]) (W.numS xs st 2)):=by
 have hA:=Lies.new w zNode 72
 have hb:Below w.heap.size w (w.alloc (.cells zNode 72)):=(Below.refl _ _).alloc (Nat.le_refl _) _
 have H:=Hj (Aj h (Aj hp hl))
 clear h hp hl
 unfold zNode at hA hb
 obtain ⟨nv,hnv⟩:∃ n,n=W.numV xs st 2:=⟨_,rfl⟩
 have HV:=Hj hnv
 rw [← hnv]
 clear hnv
 go_enter Tryz.func250,Tryz.ntmps250
 go_upto_region 1 with fail
 generalize w.alloc (.cells #[.int .i64 0,.int .i64 0,.int .u64 0,.string ⟨#[]⟩,.int .i64 0] 72)=W0 at hA hb ⊢
 obtain ⟨q,hq⟩:∃ q,q=w.heap.size:=⟨_,rfl⟩
 rw [← hq] at hA ⊢
 have cp:=(hb.cell (p:=⟨p,0,none⟩) H.out.2.2).trans H.out.2.1
 have HC:=Hj (W.ask53_st W0 g k xs c st (H.out.1.below hb))
 rw [← HV.out] at HC
 have hqg:q≠g:=by have:=H.out.1.lt;omega
 have HB:=Hj (Aj hb (Aj hA (Aj hqg hq)))
 clear hA hb hqg hq
 go_wp2_with fail
 refine HC.out.mono ?_
 rintro e w1 ⟨rfl,hr,ho⟩
 have HR:=Hj (Aj hr ho)
 have HA1:=Hj (ho.lies HB.out.2.1 HB.out.2.2.1)
 clear hr ho cp HC
 go_wp2_with (first
  | (at_builtin;fail)
  | (refine wpList_store_row rfl 72 _ _ rfl q #[.int .i64 0,.int .i64 0,.int .u64 0,.string ⟨#[]⟩,.int .i64 (nv)] rfl rfl 72 _ HA1.out info_node rfl (by simp [Value.oneCell']) ?_))
 exact bodyPost_ret (v:=.agg #[.int .i64 0,.int .i64 0,.int .u64 0,.string ⟨#[]⟩,.int .i64 (nv)]) (results_cell_row (p:=1) (ty:=72) (by kernel_rfl) _ _ q 72 #[.int .i64 0,.int .i64 0,.int .u64 0,.string ⟨#[]⟩,.int .i64 (nv)] (0,0) _ rfl (HA1.out.setRow _) Tryz.underlying72 rfl info_node) rfl (got_row HB.out.1 HB.out.2.2.1 (by rw [HB.out.2.2.2];exact Nat.le_refl _) (H.out.1.lt) HR.out.1 HR.out.2)
theorem gc2_any (w:World) (g k:Nat) (xs:List UInt8) (c:Nat) (st:Option Nat) (p:Nat) (hp:w.cell? ⟨p,0,none⟩=some (.pointer (some ⟨g,0,none⟩))) (hl:p < w.heap.size) (h:W.RSt w g k xs c st) :
  Calls Tryz.prog 252 #[.pointer (some ⟨p,0,none⟩)] w (GotR g k xs c w (.agg #[.int .i64 0,.int .i64 (IntKind.i64.wrap (W.numV xs st 8)),.int .u64 0,.string ⟨#[]⟩,.int .i64 0]) (W.numS xs st 8)):=by
 have hA:=Lies.new w zNode 72
 have hb:Below w.heap.size w (w.alloc (.cells zNode 72)):=(Below.refl _ _).alloc (Nat.le_refl _) _
 have H:=Hj (Aj h (Aj hp hl))
 clear h hp hl
 unfold zNode at hA hb
 obtain ⟨nv,hnv⟩:∃ n,n=IntKind.i64.wrap (W.numV xs st 8):=⟨_,rfl⟩
 have HV:=Hj hnv
 rw [← hnv]
 clear hnv
 go_enter Tryz.func252,Tryz.ntmps252
 go_upto_region 1 with fail
 generalize w.alloc (.cells #[.int .i64 0,.int .i64 0,.int .u64 0,.string ⟨#[]⟩,.int .i64 0] 72)=W0 at hA hb ⊢
 obtain ⟨q,hq⟩:∃ q,q=w.heap.size:=⟨_,rfl⟩
 rw [← hq] at hA ⊢
 have cp:=(hb.cell (p:=⟨p,0,none⟩) H.out.2.2).trans H.out.2.1
 have HC:=Hj (W.ask56_st W0 g k xs c st (H.out.1.below hb))
 rw [← HV.out] at HC
 have hqg:q≠g:=by have:=H.out.1.lt;omega
 have HB:=Hj (Aj hb (Aj hA (Aj hqg hq)))
 clear hA hb hqg hq
 go_wp2_with fail
 refine HC.out.mono ?_
 rintro e w1 ⟨rfl,hr,ho⟩
 have HR:=Hj (Aj hr ho)
 have HA1:=Hj (ho.lies HB.out.2.1 HB.out.2.2.1)
 clear hr ho cp HC
 go_wp2_with (first
  | (at_builtin;fail)
  | (refine wpList_store_row rfl 72 _ _ rfl q #[.int .i64 0,.int .i64 (nv),.int .u64 0,.string ⟨#[]⟩,.int .i64 0] rfl rfl 72 _ HA1.out info_node rfl (by simp [Value.oneCell']) ?_))
 exact bodyPost_ret (v:=.agg #[.int .i64 0,.int .i64 (nv),.int .u64 0,.string ⟨#[]⟩,.int .i64 0]) (results_cell_row (p:=1) (ty:=72) (by kernel_rfl) _ _ q 72 #[.int .i64 0,.int .i64 (nv),.int .u64 0,.string ⟨#[]⟩,.int .i64 0] (0,0) _ rfl (HA1.out.setRow _) Tryz.underlying72 rfl info_node) rfl (got_row HB.out.1 HB.out.2.2.1 (by rw [HB.out.2.2.2];exact Nat.le_refl _) (H.out.1.lt) HR.out.1 HR.out.2)
theorem gc3_any (w:World) (g k:Nat) (xs:List UInt8) (c:Nat) (st:Option Nat) (p:Nat) (hp:w.cell? ⟨p,0,none⟩=some (.pointer (some ⟨g,0,none⟩))) (hl:p < w.heap.size) (h:W.RSt w g k xs c st) :
  Calls Tryz.prog 253 #[.pointer (some ⟨p,0,none⟩)] w (GotR g k xs c w (.agg #[.int .i64 0,.int .i64 0,.int .u64 0,.string ((⟨(W.textV xs st 200).toArray⟩:ByteArray)),.int .i64 0]) (W.textS xs st 200)):=by
 have hA:=Lies.new w zNode 72
 have hb:Below w.heap.size w (w.alloc (.cells zNode 72)):=(Below.refl _ _).alloc (Nat.le_refl _) _
 have H:=Hj (Aj h (Aj hp hl))
 clear h hp hl
 unfold zNode at hA hb
 obtain ⟨nv,hnv⟩:∃ n,n=(⟨(W.textV xs st 200).toArray⟩:ByteArray):=⟨_,rfl⟩
 have HV:=Hj hnv
 rw [← hnv]
 clear hnv
 go_enter Tryz.func253,Tryz.ntmps253
 go_upto_region 1 with fail
 generalize w.alloc (.cells #[.int .i64 0,.int .i64 0,.int .u64 0,.string ⟨#[]⟩,.int .i64 0] 72)=W0 at hA hb ⊢
 obtain ⟨q,hq⟩:∃ q,q=w.heap.size:=⟨_,rfl⟩
 rw [← hq] at hA ⊢
 have cp:=(hb.cell (p:=⟨p,0,none⟩) H.out.2.2).trans H.out.2.1
 have HC:=Hj (W.text_rst W0 g k xs c st 200 (H.out.1.below hb))
 rw [← HV.out] at HC
 have hqg:q≠g:=by have:=H.out.1.lt;omega
 have HB:=Hj (Aj hb (Aj hA (Aj hqg hq)))
 clear hA hb hqg hq
 go_wp2_with fail
 refine HC.out.mono ?_
 rintro e w1 ⟨rfl,hr,ho⟩
 have HR:=Hj (Aj hr ho)
 have HA1:=Hj (ho.lies HB.out.2.1 HB.out.2.2.1)
 clear hr ho cp HC
 go_wp2_with (first
  | (at_builtin;fail)
  | (refine wpList_store_row rfl 72 _ _ rfl q #[.int .i64 0,.int .i64 0,.int .u64 0,.string (nv),.int .i64 0] rfl rfl 72 _ HA1.out info_node rfl (by simp [Value.oneCell']) ?_))
 exact bodyPost_ret (v:=.agg #[.int .i64 0,.int .i64 0,.int .u64 0,.string (nv),.int .i64 0]) (results_cell_row (p:=1) (ty:=72) (by kernel_rfl) _ _ q 72 #[.int .i64 0,.int .i64 0,.int .u64 0,.string (nv),.int .i64 0] (0,0) _ rfl (HA1.out.setRow _) Tryz.underlying72 rfl info_node) rfl (got_row HB.out.1 HB.out.2.2.1 (by rw [HB.out.2.2.2];exact Nat.le_refl _) (H.out.1.lt) HR.out.1 HR.out.2)
theorem gc4_any (w:World) (g k:Nat) (xs:List UInt8) (c:Nat) (st:Option Nat) (p:Nat) (hp:w.cell? ⟨p,0,none⟩=some (.pointer (some ⟨g,0,none⟩))) (hl:p < w.heap.size) (h:W.RSt w g k xs c st) :
  Calls Tryz.prog 255 #[.pointer (some ⟨p,0,none⟩)] w (GotR g k xs c w (.agg #[.int .i64 0,.int .i64 0,.int .u64 (W.numV xs st 8),.string ⟨#[]⟩,.int .i64 0]) (W.numS xs st 8)):=by
 have hA:=Lies.new w zNode 72
 have hb:Below w.heap.size w (w.alloc (.cells zNode 72)):=(Below.refl _ _).alloc (Nat.le_refl _) _
 have H:=Hj (Aj h (Aj hp hl))
 clear h hp hl
 unfold zNode at hA hb
 obtain ⟨nv,hnv⟩:∃ n,n=W.numV xs st 8:=⟨_,rfl⟩
 have HV:=Hj hnv
 rw [← hnv]
 clear hnv
 go_enter Tryz.func255,Tryz.ntmps255
 go_upto_region 1 with fail
 generalize w.alloc (.cells #[.int .i64 0,.int .i64 0,.int .u64 0,.string ⟨#[]⟩,.int .i64 0] 72)=W0 at hA hb ⊢
 obtain ⟨q,hq⟩:∃ q,q=w.heap.size:=⟨_,rfl⟩
 rw [← hq] at hA ⊢
 have cp:=(hb.cell (p:=⟨p,0,none⟩) H.out.2.2).trans H.out.2.1
 have HC:=Hj (W.ask55_st W0 g k xs c st (H.out.1.below hb))
 rw [← HV.out] at HC
 have hqg:q≠g:=by have:=H.out.1.lt;omega
 have HB:=Hj (Aj hb (Aj hA (Aj hqg hq)))
 clear hA hb hqg hq
 go_wp2_with fail
 refine HC.out.mono ?_
 rintro e w1 ⟨rfl,hr,ho⟩
 have HR:=Hj (Aj hr ho)
 have HA1:=Hj (ho.lies HB.out.2.1 HB.out.2.2.1)
 clear hr ho cp HC
 go_wp2_with (first
  | (at_builtin;fail)
  | (refine wpList_store_row rfl 72 _ _ rfl q #[.int .i64 0,.int .i64 0,.int .u64 (nv),.string ⟨#[]⟩,.int .i64 0] rfl rfl 72 _ HA1.out info_node rfl (by simp [Value.oneCell']) ?_))
 exact bodyPost_ret (v:=.agg #[.int .i64 0,.int .i64 0,.int .u64 (nv),.string ⟨#[]⟩,.int .i64 0]) (results_cell_row (p:=1) (ty:=72) (by kernel_rfl) _ _ q 72 #[.int .i64 0,.int .i64 0,.int .u64 (nv),.string ⟨#[]⟩,.int .i64 0] (0,0) _ rfl (HA1.out.setRow _) Tryz.underlying72 rfl info_node) rfl (got_row HB.out.1 HB.out.2.2.1 (by rw [HB.out.2.2.2];exact Nat.le_refl _) (H.out.1.lt) HR.out.1 HR.out.2)
end Go.Proofs.YtilbbemdinpjcaaGreat.P
namespace Go.Proofs.YtilbbemdinpjcaaGreat.P
set_option maxRecDepth 100000
open Go.RowKit Go.Sort
theorem wpOp_storeRow {P:Program} {ops:Array Oper} {Q:Exit→Act→World→Prop} {i:Nat} {o:Oper} {a:Act} {w:World} {K:Act→World→Prop} (hi:ops[i]? = some o) (hg:o.guard=none) (hd:o.dst=none) (ty:TypeId) (x y:Operand) (ho:o.op=.store ty x y)
  (g:Nat) (cells:Array Value) (hx:a.eval x=.pointer (some ⟨g,0,none⟩)) (hy:a.eval y=.agg cells) (t:TypeId) (old:Array Value) (hgg:w.heap[g]? = some (.cells old t (0,0))) (hii:(P.info? ty).map (·.size)=some cells.size)
  (hold:old.size=cells.size) (h1:cells.all (·.oneCell')=true) (h:K a (w.setRow g cells)):wpOp P ops Q i K a w:=by
 refine W.wpOp_wp hi hg (wp_store_row ty x y ho g cells hx hy t old hgg hii hold h1 ?_)
 rw [hd]
 exact h
theorem gc5_any (w:World) (g k:Nat) (xs:List UInt8) (c:Nat) (st:Option Nat) (p:Nat) (hp:w.cell? ⟨p,0,none⟩=some (.pointer (some ⟨g,0,none⟩))) (hl:p < w.heap.size) (hpg:p≠g) (h:W.RSt w g k xs c st) :
  Calls Tryz.prog 257 #[.pointer (some ⟨p,0,none⟩)] w (GotR g k xs c w (.agg #[.int .i64 0,.int .i64 (W.numV xs st 4),.int .u64 0,.string ⟨#[]⟩,.int .i64 (W.numV xs (W.numS xs st 4) 2)]) (W.numS xs (W.numS xs st 4) 2)):=by
 have hA:=Lies.new w zNode 72
 have hb:Below w.heap.size w (w.alloc (.cells zNode 72)):=(Below.refl _ _).alloc (Nat.le_refl _) _
 have H:=Hj (Aj h (Aj hp (Aj hl hpg)))
 clear h hp hl hpg
 unfold zNode at hA hb
 obtain ⟨nv,hnv⟩:∃ n,n=W.numV xs st 4:=⟨_,rfl⟩
 obtain ⟨mv,hmv⟩:∃ n,n=W.numV xs (W.numS xs st 4) 2:=⟨_,rfl⟩
 have HV:=Hj (Aj hnv hmv)
 rw [← hnv,← hmv]
 clear hnv hmv
 go_enter Tryz.func257,Tryz.ntmps257
 go_upto_region 1 with fail
 generalize w.alloc (.cells #[.int .i64 0,.int .i64 0,.int .u64 0,.string ⟨#[]⟩,.int .i64 0] 72)=W0 at hA hb ⊢
 obtain ⟨q,hq⟩:∃ q,q=w.heap.size:=⟨_,rfl⟩
 rw [← hq] at hA ⊢
 have hqg:q≠g:=by have:=H.out.1.lt;omega
 have cp:=(hb.cell (p:=⟨p,0,none⟩) H.out.2.2.1).trans H.out.2.1
 have hpl:p < W0.heap.size:=Nat.lt_of_lt_of_le H.out.2.2.1 hb.size
 have HB:=Hj (Aj hb (Aj hA (Aj hqg (Aj hq (Aj hpl cp)))))
 clear hA hb hqg hq cp hpl
 refine wp_region_held (S:=fun V=>V.cell? ⟨p,0,none⟩=some (.pointer (some ⟨g,0,none⟩))) (by kernel_rfl) ?_
 change wpAnyH _ _ _ _ _ 8 _ _ (World.drew W0)
 have hcur:(World.drew W0).cell? ⟨p,0,none⟩=some (.pointer (some ⟨g,0,none⟩)):=HB.out.2.2.2.2.2
 have hd:Below W0.heap.size W0 W0.drew:=(Below.refl _ _).drew
 refine tk 0 (.pointer (some ⟨p,0,none⟩)) 2 rfl rfl hcur ?_
 refine tk 1 (.pointer (some ⟨g,0,none⟩)) 3 rfl rfl hcur ?_ (by intro w' hS';unfold execOp;simp [go_sem,hS'])
 refine tk 3 (.pointer (some ⟨p,0,none⟩)) 5 rfl rfl hcur ?_
 refine tk 4 (.pointer (some ⟨g,0,none⟩)) 6 rfl rfl hcur ?_ (by intro w' hS';unfold execOp;simp [go_sem,hS'])
 have hrs:=H.out.1.below (HB.out.1.trans (hd.mono HB.out.1.size))
 generalize W0.drew=V0 at hcur hd hrs ⊢
 refine held_one (i:=2) (by kernel_rfl) _ rfl (wpOp_callG rfl (by rfl) 4 rfl 224 #[.pointer (some ⟨g,0,none⟩)] (by unfold execOp;simp [go_sem]) (fun v w'=>v=.int .i64 (nv:Int)∧W.RSt w' g k xs c (W.numS xs st 4)∧W.Only g V0 w' none) ((W.ask54_st V0 g k xs c st hrs).mono fun e w' k=>⟨_,k.1,by rw [HV.out.1],k.2.1,k.2.2⟩) ?_)
 rintro _ U1 ⟨rfl,hr1,ho1⟩
 have hcur:=(onlyCell ho1 (Nat.lt_of_lt_of_le HB.out.2.2.2.2.1 hd.size) H.out.2.2.2).trans hcur
 refine ⟨hcur,?_⟩
 simp only [Sj]
 refine held_one (i:=5) (by kernel_rfl) _ rfl (wpOp_callG rfl (by rfl) 7 rfl 251 #[.pointer (some ⟨g,0,none⟩)] (by unfold execOp;simp [go_sem]) (fun v w'=>v=.int .i64 (mv:Int)∧W.RSt w' g k xs c (W.numS xs (W.numS xs st 4) 2)∧W.Only g U1 w' none) ((W.ask53_st U1 g k xs c _ hr1).mono fun e w' k=>⟨_,k.1,by rw [HV.out.2],k.2.1,k.2.2⟩) ?_)
 rintro _ U2 ⟨rfl,hr2,ho2⟩
 have hcur:=(onlyCell ho2 (Nat.lt_of_lt_of_le (Nat.lt_of_lt_of_le HB.out.2.2.2.2.1 hd.size) ho1.size) H.out.2.2.2).trans hcur
 refine ⟨hcur,?_⟩
 simp only [Sj]
 refine tk 6 (.agg #[.int .i64 0,.int .i64 (nv:Int),.int .u64 0,.string ⟨#[]⟩,.int .i64 (mv:Int)]) 8 rfl rfl hcur ?_
 have hoo:W.Only g W0 U2 none:=(W.only_below hd).trans0 (ho1.trans0 ho2)
 have hA2:=hoo.lies HB.out.2.1 HB.out.2.2.1
 refine held_one (i:=7) (by kernel_rfl) _ rfl (wpOp_storeRow rfl rfl rfl 72 (.tmp 1) (.tmp 8) rfl q #[.int .i64 0,.int .i64 (nv:Int),.int .u64 0,.string ⟨#[]⟩,.int .i64 (mv:Int)] rfl rfl 72 _ hA2 info_node rfl (by simp [Value.oneCell']) ?_)
 have hpq:p≠q:=by rw [HB.out.2.2.2.1];have:=H.out.2.2.1;omega
 refine ⟨by rw [show (U2.setRow q #[.int .i64 0,.int .i64 (nv:Int),.int .u64 0,.string ⟨#[]⟩,.int .i64 (mv:Int)]).cell? ⟨p,0,none⟩=U2.cell? ⟨p,0,none⟩ by simp only [World.cell?];rw [setRow_other _ _ _ _ (by omega)]];exact hcur,?_⟩
 refine held_done (by kernel_rfl) ?_
 have HR:=Hj (Aj hr2 (Aj hoo hA2))
 clear hcur hd hrs hr1 ho1 hr2 ho2 hoo hA2
 go_wp2_with fail
 exact bodyPost_ret (v:=.agg #[.int .i64 0,.int .i64 (nv:Int),.int .u64 0,.string ⟨#[]⟩,.int .i64 (mv:Int)]) (results_cell_row (p:=1) (ty:=72) (by kernel_rfl) _ _ q 72 #[.int .i64 0,.int .i64 (nv:Int),.int .u64 0,.string ⟨#[]⟩,.int .i64 (mv:Int)] (0,0) _ rfl (HR.out.2.2.setRow _) Tryz.underlying72 rfl info_node) rfl (got_row HB.out.1 HB.out.2.2.1 (by rw [HB.out.2.2.2.1];exact Nat.le_refl _) (H.out.1.lt) HR.out.1 HR.out.2.1)
theorem uMapG:Tryz.prog.underlying 250=some (.map 67 252):=by kernel_rfl
theorem run_insertG (w:World) (es:Array MapEntry) (clock:Nat) (key:Int) (v:Value) (h:Instr.findNow (.int .i64) (.int .i64 key) es.toList 0=some none) :
  (Instr.mapUpdate 250 (.map (some w.heap.size)) (.int .i64 key) v).run Tryz.prog (w.alloc (.map es clock))=.ok () (w.alloc (.map (es.push ⟨.int .i64 key,v,clock⟩) (clock+1))):=by
 have hb:(w.alloc (.map es clock)).heap[w.heap.size]? = some (.map es clock):=(MapKept.heap_alloc w _).1
 have hk:=MapKept.run_checkKey (P:=Tryz.prog) (w:=w.alloc (.map es clock)) (k:=.int .i64 key) T.u29 (by simp [MapKept.IsKey]) false 9999
 simp [Instr.mapUpdate,run_underlying uMapG,MapKept.run_getObj_map hb,hk,MapKept.run_findKey T.u29 h,MapKept.run_setObj_map _ hb,Result.andThen]
 simp [World.alloc,-World.alloc_eq,T.push_set]
theorem run_foundG (w:World) (b:Nat) (es:Array MapEntry) (clock:Nat) (key:Int) (i:Nat) (v:Value) (hb:w.heap[b]? = some (.map es clock)) (h:Instr.findNow (.int .i64) (.int .i64 key) es.toList 0=some (some (i,v))) :
  (Instr.lookup 250 (.map (some b)) (.int .i64 key) false).run Tryz.prog w=.ok v w:=by
 have hk:=MapKept.run_checkKey (P:=Tryz.prog) (w:=w) (k:=.int .i64 key) T.u29 (by simp [MapKept.IsKey]) es.isEmpty 9999
 simp [Instr.lookup,run_underlying uMapG,MapKept.run_getObj_map hb,hk,MapKept.run_findKey T.u29 h,Result.andThen]
theorem run_missedG (w:World) (b:Nat) (es:Array MapEntry) (clock:Nat) (key:Int) (hb:w.heap[b]? = some (.map es clock)) (h:Instr.findNow (.int .i64) (.int .i64 key) es.toList 0=some none) :
  (Instr.lookup 250 (.map (some b)) (.int .i64 key) false).run Tryz.prog w=.ok .nilFunc w:=by
 have hk:=MapKept.run_checkKey (P:=Tryz.prog) (w:=w) (k:=.int .i64 key) T.u29 (by simp [MapKept.IsKey]) es.isEmpty 9999
 simp [Instr.lookup,run_underlying uMapG,MapKept.run_getObj_map hb,hk,MapKept.run_findKey T.u29 h,Result.andThen]
def kindsG (p:Nat):Array MapEntry:=#[entP 1 252 p 0,entP 2 253 p 1,entP 3 255 p 2,entP 4 250 p 3,entP 5 257 p 4,entP 6 250 p 5]
theorem kindsG_any (w:World) (g:Nat) :
  Calls Tryz.prog 199 #[.agg #[.pointer (some ⟨g,0,none⟩)]] w fun e w'=>e=.returned (.map (some (w.heap.size+1)))∧w'.cell? ⟨w.heap.size,0,none⟩=some (.pointer (some ⟨g,0,none⟩))∧w'.heap[w.heap.size+1]? = some (.map (kindsG w.heap.size) 6)∧Below w.heap.size w w'∧w'.heap.size=w.heap.size+2:=by
 have hmf:∀ (fn:Fn) (first cap:Array Value) (w:World),(Instr.makeFunc fn first cap).run Tryz.prog w=.ok (.func fn first cap) w:=fun _ _ _ _=>rfl
 have hmm:=@run_makeMap Tryz.prog
 have k1:=fun (W:World) (v1:Value)=>run_insertG W #[] 0 1 v1 rfl
 have k2:=fun (W:World) (v1 v2:Value)=>run_insertG W #[⟨.int .i64 1,v1,0⟩] 1 2 v2 rfl
 have k3:=fun (W:World) (v1 v2 v3:Value)=>run_insertG W #[⟨.int .i64 1,v1,0⟩,⟨.int .i64 2,v2,1⟩] 2 3 v3 rfl
 have k4:=fun (W:World) (v1 v2 v3 v4:Value)=>run_insertG W #[⟨.int .i64 1,v1,0⟩,⟨.int .i64 2,v2,1⟩,⟨.int .i64 3,v3,2⟩] 3 4 v4 rfl
 have k5:=fun (W:World) (v1 v2 v3 v4 v5:Value)=>run_insertG W #[⟨.int .i64 1,v1,0⟩,⟨.int .i64 2,v2,1⟩,⟨.int .i64 3,v3,2⟩,⟨.int .i64 4,v4,3⟩] 4 5 v5 rfl
 have k6:=fun (W:World) (v1 v2 v3 v4 v5 v6:Value)=>run_insertG W #[⟨.int .i64 1,v1,0⟩,⟨.int .i64 2,v2,1⟩,⟨.int .i64 3,v3,2⟩,⟨.int .i64 4,v4,3⟩,⟨.int .i64 5,v5,4⟩] 5 6 v6 rfl
 simp only [List.push_toArray,List.cons_append,List.nil_append,Nat.reduceAdd] at k1 k2 k3 k4 k5 k6
 have hA:=Lies.new w #[.pointer (some ⟨g,0,none⟩)] 174
 have hb0:Below w.heap.size w (w.alloc (.cells #[.pointer (some ⟨g,0,none⟩)] 174)):=(Below.refl _ _).alloc (Nat.le_refl _) _
 have hz:(w.alloc (.cells #[.pointer (some ⟨g,0,none⟩)] 174)).heap.size=w.heap.size+1:=by simp
 go_enter Tryz.func199,Tryz.ntmps199
 go_upto_region 1 with fail
 generalize w.alloc (.cells #[.pointer (some ⟨g,0,none⟩)] 174)=W0 at *
 have H:=Hj (Aj hA (Aj hb0 hz))
 clear hA hb0 hz
 go_wp2_with fail
 go_ret
 refine ⟨by rw [H.out.2.2];rfl,(H.out.1.alloc _).cell 0 rfl,?_,H.out.2.1.alloc H.out.2.1.size _,by simp [H.out.2.2]⟩
 rw [← H.out.2.2]
 exact (MapKept.heap_alloc _ _).1
theorem sound_any (w:World) (g k:Nat) (xs:List UInt8) (c:Nat) (st:Option Nat) (h:W.RSt w g k xs c st) :
 Calls Tryz.prog 198 #[.agg #[.pointer (some ⟨g,0,none⟩)]] w fun e w'=>e=.returned (.bool st.isSome)∧Below w.heap.size w w':=by
 have hA:=Lies.new w #[.pointer (some ⟨g,0,none⟩)] 174
 have hb:Below w.heap.size w (w.alloc (.cells #[.pointer (some ⟨g,0,none⟩)] 174)):=(Below.refl _ _).alloc (Nat.le_refl _) _
 have hr:=h.below hb
 obtain ⟨b,hbb⟩:∃ b,b=st.isSome:=⟨_,rfl⟩
 have he:W.errV st=if b then 0 else 4:=by rw [hbb];cases st <;> rfl
 rw [← hbb]
 clear h hbb
 go_enter Tryz.func198,Tryz.ntmps198
 go_upto_region 1 with fail
 generalize w.alloc (.cells #[.pointer (some ⟨g,0,none⟩)] 174)=W0 at hA hb hr ⊢
 have c0:=hA.cell 0 (v:=.pointer (some ⟨g,0,none⟩)) rfl
 have HC:=Hj (W.err_rst W0 g k xs c st hr)
 rw [he] at HC
 have HB:=Hj hb
 clear hA hb hr he
 cases b with
 | true =>
   simp only [if_true] at HC
   go_wp2_with fail
   refine HC.out.mono ?_
   rintro e w1 ⟨rfl,rfl⟩
   clear HC
   go_wp2_with fail
   go_ret
   exact ⟨rfl,HB.out⟩
 | false =>
   simp only [Bool.false_eq_true,if_false] at HC
   go_wp2_with fail
   refine HC.out.mono ?_
   rintro e w1 ⟨rfl,rfl⟩
   clear HC
   go_wp2_with fail
   go_ret
   exact ⟨rfl,HB.out⟩
end Go.Proofs.YtilbbemdinpjcaaGreat.P
namespace Go.Proofs.YtilbbemdinpjcaaGreat.P
set_option maxRecDepth 100000
open Go.RowKit
def ndV (xs:List UInt8) (st:Option Nat) (kd:Int):T.Nd :=
 if kd=1 then ⟨kd,IntKind.i64.wrap (W.numV xs st 8),0,⟨#[]⟩,0⟩
 else if kd=2 then ⟨kd,0,0,⟨(W.textV xs st 200).toArray⟩,0⟩
 else if kd=3 then ⟨kd,0,W.numV xs st 8,⟨#[]⟩,0⟩
 else if kd=5 then ⟨kd,W.numV xs st 4,0,⟨#[]⟩,W.numV xs (W.numS xs st 4) 2⟩
 else ⟨kd,0,0,⟨#[]⟩,W.numV xs st 2⟩
def ndP (xs:List UInt8) (st:Option Nat) (kd:Int):Option Nat :=
 if kd=1 then W.numS xs st 8
 else if kd=2 then W.textS xs st 200
 else if kd=3 then W.numS xs st 8
 else if kd=5 then W.numS xs (W.numS xs st 4) 2
 else W.numS xs st 2
def kindIn (kd:Int):Bool:=decide (1≤kd) && decide (kd≤6)
def decT (xs:List UInt8):Nat→Nat→List T.Nd→Option Nat→Option (List T.Nd × Nat)
 | _,0,acc,st=>st.map fun p=>(acc,p)
 | 0,_+1,_,_=>none
 | f+1,l+1,acc,st=>if kindIn (W.numV xs st 1) then decT xs f (l+(ndV xs (W.numS xs st 1) (W.numV xs st 1)).kids.toNat) (acc ++ [ndV xs (W.numS xs st 1) (W.numV xs st 1)]) (ndP xs (W.numS xs st 1) (W.numV xs st 1)) else none
theorem numV_two (xs:List UInt8) (st:Option Nat):W.numV xs st 2 < 65536:=by have:=W.numV_lt xs st 2;omega
theorem numV_four (xs:List UInt8) (st:Option Nat):W.numV xs st 4 < 4294967296:=by have:=W.numV_lt xs st 4;omega
theorem numV_eight (xs:List UInt8) (st:Option Nat):W.numV xs st 8 < 18446744073709551616:=by have:=W.numV_lt xs st 8;omega
theorem textV_len (xs:List UInt8) (st:Option Nat) (m:Nat):(W.textV xs st m).length≤m:=by
 cases st with
 | none=>exact Nat.zero_le _
 | some a =>
   simp only [W.textV]
   split
   · rename_i h
     have:=h.2.1
     rw [List.length_take]
     omega
   · exact Nat.zero_le _
theorem ndV_kids (xs:List UInt8) (st:Option Nat) (kd:Int):0≤(ndV xs st kd).kids∧(ndV xs st kd).kids < 65536:=by
 have h1:=numV_two xs st
 have h2:=numV_two xs (W.numS xs st 4)
 unfold ndV
 repeat' split
 all_goals (simp only;omega)
theorem ndV_in (xs:List UInt8) (st:Option Nat) (kd:Int) (hk:kindIn kd=true):NdIn (ndV xs st kd):=by
 unfold kindIn at hk
 rw [Bool.and_eq_true,decide_eq_true_iff,decide_eq_true_iff] at hk
 have h1:=ndV_kids xs st kd
 have h4:=numV_four xs st
 have h8:=numV_eight xs st
 have ht:=textV_len xs st 200
 refine ⟨?_,?_,?_,?_,⟨by omega,by omega⟩⟩
 · unfold ndV I64
   repeat' split
   all_goals (simp only;omega)
 · unfold ndV I64
   repeat' split
   all_goals simp only
   · rw [IntKind.wrap_i64];omega
   all_goals omega
 · unfold ndV
   repeat' split
   all_goals (simp only;omega)
 · unfold ndV
   repeat' split
   all_goals simp only
   all_goals first
    | (show (#[]:Array UInt8).size≤_;simp;done)
    | (show (W.textV xs st 200).toArray.size≤_
       rw [List.size_toArray]
       exact Nat.le_trans ht (by decide))
def restC (x:T.Nd):Array Value:=#[.int .i64 0,.int .i64 x.num,.int .u64 x.bits,.string x.txt,.int .i64 x.kids]
def KindG (kd:Int) (K:Nat):Prop :=
 (∀ V b p,V.heap[b]? = some (.map (kindsG p) 6)→(Instr.lookup 250 (.map (some b)) (.int .i64 kd) false).run Tryz.prog V=.ok (.func (Fn.func K) #[] #[.pointer (some ⟨p,0,none⟩)]) V) ∧
 (∀ cap V,(callFunc K cap).run Tryz.prog V=.ok (.enter K cap) V) ∧
 ∀ (w:World) (g k:Nat) (xs:List UInt8) (c:Nat) (st:Option Nat) (p:Nat),w.cell? ⟨p,0,none⟩=some (.pointer (some ⟨g,0,none⟩))→p < w.heap.size→p≠g→W.RSt w g k xs c st→Calls Tryz.prog K #[.pointer (some ⟨p,0,none⟩)] w (GotR g k xs c w (.agg (restC (ndV xs st kd))) (ndP xs st kd))
theorem kindG_at (kd:Int) (hk:kindIn kd=true):∃ K,KindG kd K:=by
 unfold kindIn at hk
 rw [Bool.and_eq_true,decide_eq_true_iff,decide_eq_true_iff] at hk
 unfold KindG
 by_cases e1:kd=1
 ·
  refine ⟨252,fun V b p hb => ?_,fun cap V=>T.callK 252 Tryz.f252 Tryz.func252 (by kernel_rfl) (by kernel_rfl) cap V,fun w g k xs c st p hp hl _ h => ?_⟩
  ·
   rw [e1];exact run_foundG V b _ 6 1 0 _ hb rfl
  ·
   have:=gc2_any w g k xs c st p hp hl h
   unfold ndV ndP
   rw [if_pos e1,if_pos e1]
   exact this
 by_cases e2:kd=2
 ·
  refine ⟨253,fun V b p hb => ?_,fun cap V=>T.callK 253 Tryz.f253 Tryz.func253 (by kernel_rfl) (by kernel_rfl) cap V,fun w g k xs c st p hp hl _ h => ?_⟩
  ·
   rw [e2];exact run_foundG V b _ 6 2 1 _ hb rfl
  ·
   have:=gc3_any w g k xs c st p hp hl h
   unfold ndV ndP
   rw [if_neg e1,if_pos e2,if_neg e1,if_pos e2]
   exact this
 by_cases e3:kd=3
 ·
  refine ⟨255,fun V b p hb => ?_,fun cap V=>T.callK 255 Tryz.f255 Tryz.func255 (by kernel_rfl) (by kernel_rfl) cap V,fun w g k xs c st p hp hl _ h => ?_⟩
  ·
   rw [e3];exact run_foundG V b _ 6 3 2 _ hb rfl
  ·
   have:=gc4_any w g k xs c st p hp hl h
   unfold ndV ndP
   rw [if_neg e1,if_neg e2,if_pos e3,if_neg e1,if_neg e2,if_pos e3]
   exact this
 by_cases e5:kd=5
 ·
  refine ⟨257,fun V b p hb => ?_,fun cap V=>T.callK 257 Tryz.f257 Tryz.func257 (by kernel_rfl) (by kernel_rfl) cap V,fun w g k xs c st p hp hl hpg h => ?_⟩
  ·
   rw [e5];exact run_foundG V b _ 6 5 4 _ hb rfl
  ·
   have:=gc5_any w g k xs c st p hp hl hpg h
   unfold ndV ndP
   rw [if_neg e1,if_neg e2,if_neg e3,if_pos e5,if_neg e1,if_neg e2,if_neg e3,if_pos e5]
   exact this
 refine ⟨250,fun V b p hb => ?_,fun cap V=>T.callK 250 Tryz.f250 Tryz.func250 (by kernel_rfl) (by kernel_rfl) cap V,fun w g k xs c st p hp hl _ h => ?_⟩
 ·
  by_cases e4:kd=4
  ·
   rw [e4];exact run_foundG V b _ 6 4 3 _ hb rfl
  ·
   rw [show kd=6 by omega];exact run_foundG V b _ 6 6 5 _ hb rfl
 ·
  have:=gc1_any w g k xs c st p hp hl h
  unfold ndV ndP
  rw [if_neg e1,if_neg e2,if_neg e3,if_neg e5,if_neg e1,if_neg e2,if_neg e3,if_neg e5]
  exact this
theorem kindG_no (kd:Int) (hk:kindIn kd=false) (V:World) (b p:Nat) (hb:V.heap[b]? = some (.map (kindsG p) 6)):(Instr.lookup 250 (.map (some b)) (.int .i64 kd) false).run Tryz.prog V=.ok .nilFunc V:=by
 refine run_missedG V b _ 6 kd hb ?_
 unfold kindIn at hk
 rw [Bool.and_eq_false_iff,decide_eq_false_iff_not,decide_eq_false_iff_not] at hk
 have b1:(kd == 1)=false:=by simp only [beq_eq_false_iff_ne];omega
 have b2:(kd == 2)=false:=by simp only [beq_eq_false_iff_ne];omega
 have b3:(kd == 3)=false:=by simp only [beq_eq_false_iff_ne];omega
 have b4:(kd == 4)=false:=by simp only [beq_eq_false_iff_ne];omega
 have b5:(kd == 5)=false:=by simp only [beq_eq_false_iff_ne];omega
 have b6:(kd == 6)=false:=by simp only [beq_eq_false_iff_ne];omega
 simp [kindsG,entP,Instr.findNow,Instr.sameNow,b1,b2,b3,b4,b5,b6]
theorem nilG_nil (W:World):(binOp .neq 252 .nilFunc .nilFunc).run Tryz.prog W=.ok (.bool false) W:=by kernel_rfl
theorem funcG_nil (K:Nat) (c1:Value) (W:World):(binOp .neq 252 (.func (Fn.func K) #[] #[c1]) .nilFunc).run Tryz.prog W=.ok (.bool true) W:=by kernel_rfl
end Go.Proofs.YtilbbemdinpjcaaGreat.P
