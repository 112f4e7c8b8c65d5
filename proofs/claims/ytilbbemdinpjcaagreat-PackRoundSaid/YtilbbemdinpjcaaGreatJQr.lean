/-
  pack: the getter's asset, total, address, ref (the walks written by tools/gen_get.py).
-/
import Derived.Test.YtilbbemdinpjcaaGreatJQo
import Derived.Test.YtilbbemdinpjcaaGreatJQq
set_option maxHeartbeats 16000000
namespace Go.Proofs.YtilbbemdinpjcaaGreat.P
set_option maxRecDepth 100000
open Go.RowKit
def asV (xs:List UInt8) (st:Option Nat):As:=⟨(W.hashV xs st,W.textV xs (W.numS xs st 32) 32),IntKind.i64.wrap (W.numV xs (W.textS xs (W.numS xs st 32) 32) 8)⟩
def asE (xs:List UInt8) (st:Option Nat):Option Nat:=W.numS xs (W.textS xs (W.numS xs st 32) 32) 8
def toV (xs:List UInt8) (st:Option Nat):To:=⟨(W.hashV xs st,W.textV xs (W.numS xs st 32) 32),BitVec.ofNat 128 (W.numV xs (W.textS xs (W.numS xs st 32) 32) 8 * 18446744073709551616+W.numV xs (W.numS xs (W.textS xs (W.numS xs st 32) 32) 8) 8)⟩
def toE (xs:List UInt8) (st:Option Nat):Option Nat:=W.numS xs (W.numS xs (W.textS xs (W.numS xs st 32) 32) 8) 8
def adE (xs:List UInt8) (st:Option Nat):Option Nat:=W.numS xs (W.flagS xs st) 32
def rfV (xs:List UInt8) (st:Option Nat):Rf:=⟨W.hashV xs st,W.countV xs (W.numS xs st 32) 30⟩
def rfE (xs:List UInt8) (st:Option Nat):Option Nat:=W.countS xs (W.numS xs st 32) 30
theorem hashV_len (xs:List UInt8) (st:Option Nat):(W.hashV xs st).length=32:=by
 unfold W.hashV
 cases st with
 | none=>simp
 | some a =>
   simp only
   split
   · rw [List.length_take,List.length_drop];omega
   · simp
theorem hiS_of (a b:Nat) (ha:a < 18446744073709551616) (hb:b < 18446744073709551616):hiS (BitVec.ofNat 128 (a * 18446744073709551616+b))=IntKind.i64.wrap a∧loN (BitVec.ofNat 128 (a * 18446744073709551616+b))=b:=by
 have h:a * 18446744073709551616+b < 2 ^ 128:=by
  have:(2:Nat) ^ 128=340282366920938463463374607431768211456:=by decide
  omega
 unfold hiS loN
 rw [BitVec.toNat_ofNat,Nat.mod_eq_of_lt h]
 refine ⟨?_,by omega⟩
 rw [show (a * 18446744073709551616+b) / 18446744073709551616=a by omega]
theorem built_assetG (xs:List UInt8) (st:Option Nat):Tryz.prog.built 146 [(0,.agg (W.B8 (W.hashV xs st))),(1,.string (⟨(W.textV xs (W.numS xs st 32) 32).toArray⟩:ByteArray)),(2,.int .i64 (IntKind.i64.wrap (W.numV xs (W.textS xs (W.numS xs st 32) 32) 8)))]=some (asC (asV xs st)):=built_asset (asV xs st) (hashV_len xs st)
theorem built_totalG (xs:List UInt8) (st:Option Nat):Tryz.prog.built 150 [(0,.agg (W.B8 (W.hashV xs st))),(1,.string (⟨(W.textV xs (W.numS xs st 32) 32).toArray⟩:ByteArray)),(2,.agg #[.int .i64 (IntKind.i64.wrap (W.numV xs (W.textS xs (W.numS xs st 32) 32) 8)),.int .u64 ((W.numV xs (W.numS xs (W.textS xs (W.numS xs st 32) 32) 8) 8:Nat):Int)])]=some (toC (toV xs st)):=by
 have h:=built_total (toV xs st) (hashV_len xs st)
 obtain ⟨h1,h2⟩:=hiS_of _ _ (numV_eight xs (W.textS xs (W.numS xs st 32) 32)) (numV_eight xs (W.numS xs (W.textS xs (W.numS xs st 32) 32) 8))
 rw [show hiS (toV xs st).w=_ from h1,show loN (toV xs st).w=_ from h2] at h
 exact h
theorem built_adG (b:Bool) (p:List UInt8) (hp:p.length=32):Tryz.prog.built 32 [(0,.bool b),(1,.agg (B8 p))]=some (adC b p):=by
 obtain ⟨a0,a1,a2,a3,a4,a5,a6,a7,a8,a9,a10,a11,a12,a13,a14,a15,a16,a17,a18,a19,a20,a21,a22,a23,a24,a25,a26,a27,a28,a29,a30,a31,rfl⟩:=list32 p hp
 kernel_rfl
theorem built_addressG (xs:List UInt8) (st:Option Nat):Tryz.prog.built 32 [(0,.bool (W.flagV xs st)),(1,.agg (W.B8 (W.hashV xs (W.flagS xs st))))]=some (adC (W.flagV xs st) (W.hashV xs (W.flagS xs st))):=built_adG _ _ (hashV_len _ _)
theorem built_rfG (p:List UInt8) (hp:p.length=32) (x:Int):Tryz.prog.built 37 [(0,.agg (B8 p)),(1,.int .i64 x)]=some (refC ⟨p,x⟩):=by
 obtain ⟨a0,a1,a2,a3,a4,a5,a6,a7,a8,a9,a10,a11,a12,a13,a14,a15,a16,a17,a18,a19,a20,a21,a22,a23,a24,a25,a26,a27,a28,a29,a30,a31,rfl⟩:=list32 p hp
 kernel_rfl
theorem built_refG (xs:List UInt8) (st:Option Nat):Tryz.prog.built 37 [(0,.agg (W.B8 (W.hashV xs st))),(1,.int .i64 ((W.countV xs (W.numS xs st 32) 30:Nat):Int))]=some (refC (rfV xs st)):=built_rfG _ (hashV_len _ _) _
theorem assetG_size (xs:List UInt8) (st:Option Nat):(Tryz.prog.info? 146).map (·.size)=some (asC (asV xs st)).size:=by rw [asC_size _ (hashV_len xs st)];exact info_asset
theorem totalG_size (xs:List UInt8) (st:Option Nat):(Tryz.prog.info? 150).map (·.size)=some (toC (toV xs st)).size:=by rw [toC_size _ (hashV_len xs st)];exact info_total
theorem addressG_size (xs:List UInt8) (st:Option Nat):(Tryz.prog.info? 32).map (·.size)=some (adC (W.flagV xs st) (W.hashV xs (W.flagS xs st))).size:=by
 rw [show (adC (W.flagV xs st) (W.hashV xs (W.flagS xs st))).size=33 by simp [adC,B8_size,hashV_len]]
 exact info_address
theorem refG_size (xs:List UInt8) (st:Option Nat):(Tryz.prog.info? 37).map (·.size)=some (refC (rfV xs st)).size:=by rw [refC_size _ (hashV_len xs st)];exact info_ref
theorem assetG_one (xs:List UInt8) (st:Option Nat):(asC (asV xs st)).all (·.oneCell')=true:=asC_one _
theorem totalG_one (xs:List UInt8) (st:Option Nat):(toC (toV xs st)).all (·.oneCell')=true:=toC_one _
theorem addressG_one (xs:List UInt8) (st:Option Nat):(adC (W.flagV xs st) (W.hashV xs (W.flagS xs st))).all (·.oneCell')=true:=by
 unfold adC
 rw [Array.all_append,B8_one]
 simp [Value.oneCell']
theorem refG_one (xs:List UInt8) (st:Option Nat):(refC (rfV xs st)).all (·.oneCell')=true:=by
 unfold refC
 rw [Array.all_append,B8_one]
 simp [Value.oneCell']
theorem exec_build {P:Program} {ρ:Operand→Value} {o:Oper} {w:World} {t:TypeId} {parts:Array (Nat × Operand)} {v:Value} (ho:o.op=.build t parts) (h:(Instr.build t (parts.map fun (i,x)=>(i,ρ x))).run P w=.ok v w):(execOp ρ o).run P w=.ok (.value v) w:=by
 unfold execOp
 simp only [ho,Sem.run_bind,h,Result.andThen_ok]
 rfl
theorem getterAsset_any (w:World) (g k:Nat) (xs:List UInt8) (c:Nat) (st:Option Nat) (h:W.RSt w g k xs c st) :
  Calls Tryz.prog 218 #[.agg #[.pointer (some ⟨g,0,none⟩)]] w (GotR g k xs c w (.agg (asC (asV xs st))) (asE xs st)):=by
 obtain ⟨v0,e0⟩:∃ x:Array Value,x=W.B8 (W.hashV xs st):=⟨_,rfl⟩
 obtain ⟨v1,e1⟩:∃ x:ByteArray,x=(⟨(W.textV xs (W.numS xs st 32) 32).toArray⟩:ByteArray):=⟨_,rfl⟩
 obtain ⟨v2,e2⟩:∃ x:Int,x=IntKind.i64.wrap (W.numV xs (W.textS xs (W.numS xs st 32) 32) 8):=⟨_,rfl⟩
 obtain ⟨cs,hcs⟩:∃ x,x=asC (asV xs st):=⟨_,rfl⟩
 have hbd:∀ W,(Instr.build 146 #[(0,.agg (v0)),(1,.string (v1)),(2,.int .i64 (v2))]).run Tryz.prog W=.ok (.agg cs) W:=fun W=>by
  rw [e0,e1,e2,hcs]
  exact run_build W 146 _ _ (built_assetG xs st)
 have hsz:(Tryz.prog.info? 146).map (·.size)=some cs.size:=by rw [hcs];exact assetG_size xs st
 have hone:cs.all (·.oneCell')=true:=by rw [hcs];exact assetG_one xs st
 have hzs:(#[.int .u8 0,.int .u8 0,.int .u8 0,.int .u8 0,.int .u8 0,.int .u8 0,.int .u8 0,.int .u8 0,.int .u8 0,.int .u8 0,.int .u8 0,.int .u8 0,.int .u8 0,.int .u8 0,.int .u8 0,.int .u8 0,.int .u8 0,.int .u8 0,.int .u8 0,.int .u8 0,.int .u8 0,.int .u8 0,.int .u8 0,.int .u8 0,.int .u8 0,.int .u8 0,.int .u8 0,.int .u8 0,.int .u8 0,.int .u8 0,.int .u8 0,.int .u8 0,.string ⟨#[]⟩,.int .i64 0]:Array Value).size=cs.size:=by
  have h1:(Tryz.prog.info? 146).map (·.size)=some (#[.int .u8 0,.int .u8 0,.int .u8 0,.int .u8 0,.int .u8 0,.int .u8 0,.int .u8 0,.int .u8 0,.int .u8 0,.int .u8 0,.int .u8 0,.int .u8 0,.int .u8 0,.int .u8 0,.int .u8 0,.int .u8 0,.int .u8 0,.int .u8 0,.int .u8 0,.int .u8 0,.int .u8 0,.int .u8 0,.int .u8 0,.int .u8 0,.int .u8 0,.int .u8 0,.int .u8 0,.int .u8 0,.int .u8 0,.int .u8 0,.int .u8 0,.int .u8 0,.string ⟨#[]⟩,.int .i64 0]:Array Value).size:=by kernel_rfl
  exact Option.some.inj (h1.symm.trans hsz)
 rw [← hcs]
 have E0:=Hj e0
 have E1:=Hj e1
 have E2:=Hj e2
 have HBD:=Hj hbd
 have HSZ:=Hj (Aj hsz (Aj hone hzs))
 have hlt:=h.lt
 have H:=Hj (Aj h hlt)
 obtain ⟨b1,b2,b3,b4⟩:=box_two w #[.pointer (some ⟨g,0,none⟩)] (#[.int .u8 0,.int .u8 0,.int .u8 0,.int .u8 0,.int .u8 0,.int .u8 0,.int .u8 0,.int .u8 0,.int .u8 0,.int .u8 0,.int .u8 0,.int .u8 0,.int .u8 0,.int .u8 0,.int .u8 0,.int .u8 0,.int .u8 0,.int .u8 0,.int .u8 0,.int .u8 0,.int .u8 0,.int .u8 0,.int .u8 0,.int .u8 0,.int .u8 0,.int .u8 0,.int .u8 0,.int .u8 0,.int .u8 0,.int .u8 0,.int .u8 0,.int .u8 0,.string ⟨#[]⟩,.int .i64 0]:Array Value) 174 146
 clear h hlt hbd hsz hone hzs hcs e0 e1 e2
 obtain ⟨W0,HW⟩:∃ W0,(w.alloc (.cells #[.pointer (some ⟨g,0,none⟩)] 174)).alloc (.cells (#[.int .u8 0,.int .u8 0,.int .u8 0,.int .u8 0,.int .u8 0,.int .u8 0,.int .u8 0,.int .u8 0,.int .u8 0,.int .u8 0,.int .u8 0,.int .u8 0,.int .u8 0,.int .u8 0,.int .u8 0,.int .u8 0,.int .u8 0,.int .u8 0,.int .u8 0,.int .u8 0,.int .u8 0,.int .u8 0,.int .u8 0,.int .u8 0,.int .u8 0,.int .u8 0,.int .u8 0,.int .u8 0,.int .u8 0,.int .u8 0,.int .u8 0,.int .u8 0,.string ⟨#[]⟩,.int .i64 0]:Array Value) 146)=W0:=⟨_,rfl⟩
 go_enter Tryz.func218,Tryz.ntmps218
 go_upto_region 1 with fail
 rw [HW] at b1 b2 b3 b4
 clear HW
 obtain ⟨p,hp⟩:∃ p,p=w.heap.size:=⟨_,rfl⟩
 obtain ⟨q,hq⟩:∃ q,q=w.heap.size+1:=⟨_,rfl⟩
 rw [← hq] at b2 ⊢
 rw [← hp] at b1 ⊢
 have hpg:p≠g:=by have:=H.out.2;omega
 have hqg:q≠g:=by have:=H.out.2;omega
 have HB:=Hj (Aj b1 (Aj b2 (Aj b3 (Aj hp (Aj hq (Aj hpg hqg))))))
 clear b1 b2 b3 b4 hp hq hpg hqg
 refine wp_region_held (S:=fun V=>V.cell? ⟨p,0,none⟩=some (.pointer (some ⟨g,0,none⟩))) (by kernel_rfl) ?_
 change wpAnyH _ _ _ _ _ 11 _ _ (World.drew W0)
 have hcur:(World.drew W0).cell? ⟨p,0,none⟩=some (.pointer (some ⟨g,0,none⟩)):=HB.out.1.cell 0 rfl
 have hd:Below W0.heap.size W0 W0.drew:=(Below.refl _ _).drew
 refine tk 0 (.pointer (some ⟨p,0,none⟩)) 3 rfl rfl hcur ?_
 refine tk 1 (.pointer (some ⟨g,0,none⟩)) 4 rfl rfl hcur ?_ (by intro w' hS';unfold execOp;simp [go_sem,hS'])
 refine tk 3 (.pointer (some ⟨p,0,none⟩)) 6 rfl rfl hcur ?_
 refine tk 4 (.pointer (some ⟨g,0,none⟩)) 7 rfl rfl hcur ?_ (by intro w' hS';unfold execOp;simp [go_sem,hS'])
 refine tk 6 (.pointer (some ⟨p,0,none⟩)) 9 rfl rfl hcur ?_
 refine tk 7 (.pointer (some ⟨g,0,none⟩)) 10 rfl rfl hcur ?_ (by intro w' hS';unfold execOp;simp [go_sem,hS'])
 have hr0:=H.out.1.below (HB.out.2.2.1.trans (hd.mono HB.out.2.2.1.size))
 have ho0:W.Only g W0 W0.drew none:=W.only_below hd
 generalize W0.drew=U0 at hcur hr0 ho0 ⊢
 clear hd
 refine held_one (i:=2) (by kernel_rfl) _ rfl (wpOp_callG rfl (by rfl) 5 rfl 228 #[.pointer (some ⟨g,0,none⟩)] (by unfold execOp;simp [go_sem]) (fun v w'=>v=.agg (v0)∧W.RSt w' g k xs c (W.numS xs st 32)∧W.Only g U0 w' none) ((W.hash_rst U0 g k xs c _ hr0).mono fun e w' k=>⟨_,k.1,by rw [E0.out],k.2.1,k.2.2⟩) ?_)
 rintro _ U1 ⟨rfl,hr1,hn⟩
 have hcur:=(onlyCell hn (Nat.lt_of_lt_of_le HB.out.1.lt ho0.size) HB.out.2.2.2.2.2.1).trans hcur
 have ho1:=ho0.trans0 hn
 refine ⟨hcur,?_⟩
 simp only [Sj]
 clear hn hr0 ho0
 refine held_one (i:=5) (by kernel_rfl) _ rfl (wpOp_callG rfl (by rfl) 8 rfl 254 #[.pointer (some ⟨g,0,none⟩),.int .i64 32] (by unfold execOp;simp [go_sem]) (fun v w'=>v=.string (v1)∧W.RSt w' g k xs c (W.textS xs (W.numS xs st 32) 32)∧W.Only g U1 w' none) ((W.text_rst U1 g k xs c _ 32 hr1).mono fun e w' k=>⟨_,k.1,by rw [E1.out],k.2.1,k.2.2⟩) ?_)
 rintro _ U2 ⟨rfl,hr2,hn⟩
 have hcur:=(onlyCell hn (Nat.lt_of_lt_of_le HB.out.1.lt ho1.size) HB.out.2.2.2.2.2.1).trans hcur
 have ho2:=ho1.trans0 hn
 refine ⟨hcur,?_⟩
 simp only [Sj]
 clear hn hr1 ho1
 refine held_one (i:=8) (by kernel_rfl) _ rfl (wpOp_callG rfl (by rfl) 11 rfl 221 #[.pointer (some ⟨g,0,none⟩)] (by unfold execOp;simp [go_sem]) (fun v w'=>v=.int .i64 (v2)∧W.RSt w' g k xs c (W.numS xs (W.textS xs (W.numS xs st 32) 32) 8)∧W.Only g U2 w' none) ((W.ask56_st U2 g k xs c _ hr2).mono fun e w' k=>⟨_,k.1,by rw [E2.out],k.2.1,k.2.2⟩) ?_)
 rintro _ U3 ⟨rfl,hr3,hn⟩
 have hcur:=(onlyCell hn (Nat.lt_of_lt_of_le HB.out.1.lt ho2.size) HB.out.2.2.2.2.2.1).trans hcur
 have ho3:=ho2.trans0 hn
 refine ⟨hcur,?_⟩
 simp only [Sj]
 clear hn hr2 ho2
 refine tk 9 (.agg cs) 12 rfl rfl hcur ?_ (by intro w' hS';refine exec_build rfl ?_;simpa [Act.eval] using HBD.out w')
 have hA2:=ho3.lies HB.out.2.1 HB.out.2.2.2.2.2.2
 refine held_one (i:=10) (by kernel_rfl) _ rfl (wpOp_storeRow rfl rfl rfl 146 (.tmp 2) (.tmp 12) rfl q cs rfl rfl 146 _ hA2 HSZ.out.1 HSZ.out.2.2 HSZ.out.2.1 ?_)
 refine ⟨by rw [show (U3.setRow q cs).cell? ⟨p,0,none⟩=U3.cell? ⟨p,0,none⟩ by simp only [World.cell?];rw [setRow_other _ _ _ _ (by have:=HB.out.2.2.2.1;have:=HB.out.2.2.2.2.1;omega)]];exact hcur,?_⟩
 refine held_done (by kernel_rfl) ?_
 have HR:=Hj (Aj hr3 (Aj ho3 hA2))
 clear hcur hr3 ho3 hA2
 go_wp2_with fail
 exact bodyPost_ret (v:=.agg cs) (results_cell_row (p:=2) (ty:=146) (by kernel_rfl) _ _ q 146 cs (0,0) _ rfl (HR.out.2.2.setRow _) Tryz.underlying146 rfl HSZ.out.1) rfl (got_row HB.out.2.2.1 HB.out.2.2.2.2.2.2 (by rw [HB.out.2.2.2.2.1];exact Nat.le_succ _) H.out.1.lt HR.out.1 HR.out.2.1)
theorem getterTotal_any (w:World) (g k:Nat) (xs:List UInt8) (c:Nat) (st:Option Nat) (h:W.RSt w g k xs c st) :
  Calls Tryz.prog 225 #[.agg #[.pointer (some ⟨g,0,none⟩)]] w (GotR g k xs c w (.agg (toC (toV xs st))) (toE xs st)):=by
 obtain ⟨v0,e0⟩:∃ x:Array Value,x=W.B8 (W.hashV xs st):=⟨_,rfl⟩
 obtain ⟨v1,e1⟩:∃ x:ByteArray,x=(⟨(W.textV xs (W.numS xs st 32) 32).toArray⟩:ByteArray):=⟨_,rfl⟩
 obtain ⟨v2,e2⟩:∃ x:Int,x=IntKind.i64.wrap (W.numV xs (W.textS xs (W.numS xs st 32) 32) 8):=⟨_,rfl⟩
 obtain ⟨v3,e3⟩:∃ x:Int,x=((W.numV xs (W.numS xs (W.textS xs (W.numS xs st 32) 32) 8) 8:Nat):Int):=⟨_,rfl⟩
 obtain ⟨cs,hcs⟩:∃ x,x=toC (toV xs st):=⟨_,rfl⟩
 have hbd:∀ W,(Instr.build 150 #[(0,.agg (v0)),(1,.string (v1)),(2,.agg #[.int .i64 (v2),.int .u64 (v3)])]).run Tryz.prog W=.ok (.agg cs) W:=fun W=>by
  rw [e0,e1,e2,e3,hcs]
  exact run_build W 150 _ _ (built_totalG xs st)
 have hsz:(Tryz.prog.info? 150).map (·.size)=some cs.size:=by rw [hcs];exact totalG_size xs st
 have hone:cs.all (·.oneCell')=true:=by rw [hcs];exact totalG_one xs st
 have hzs:(#[.int .u8 0,.int .u8 0,.int .u8 0,.int .u8 0,.int .u8 0,.int .u8 0,.int .u8 0,.int .u8 0,.int .u8 0,.int .u8 0,.int .u8 0,.int .u8 0,.int .u8 0,.int .u8 0,.int .u8 0,.int .u8 0,.int .u8 0,.int .u8 0,.int .u8 0,.int .u8 0,.int .u8 0,.int .u8 0,.int .u8 0,.int .u8 0,.int .u8 0,.int .u8 0,.int .u8 0,.int .u8 0,.int .u8 0,.int .u8 0,.int .u8 0,.int .u8 0,.string ⟨#[]⟩,.int .i64 0,.int .u64 0]:Array Value).size=cs.size:=by
  have h1:(Tryz.prog.info? 150).map (·.size)=some (#[.int .u8 0,.int .u8 0,.int .u8 0,.int .u8 0,.int .u8 0,.int .u8 0,.int .u8 0,.int .u8 0,.int .u8 0,.int .u8 0,.int .u8 0,.int .u8 0,.int .u8 0,.int .u8 0,.int .u8 0,.int .u8 0,.int .u8 0,.int .u8 0,.int .u8 0,.int .u8 0,.int .u8 0,.int .u8 0,.int .u8 0,.int .u8 0,.int .u8 0,.int .u8 0,.int .u8 0,.int .u8 0,.int .u8 0,.int .u8 0,.int .u8 0,.int .u8 0,.string ⟨#[]⟩,.int .i64 0,.int .u64 0]:Array Value).size:=by kernel_rfl
  exact Option.some.inj (h1.symm.trans hsz)
 rw [← hcs]
 have E0:=Hj e0
 have E1:=Hj e1
 have E2:=Hj e2
 have E3:=Hj e3
 have HBD:=Hj hbd
 have HSZ:=Hj (Aj hsz (Aj hone hzs))
 have hlt:=h.lt
 have H:=Hj (Aj h hlt)
 obtain ⟨b1,b2,b3,b4⟩:=box_two w #[.pointer (some ⟨g,0,none⟩)] (#[.int .u8 0,.int .u8 0,.int .u8 0,.int .u8 0,.int .u8 0,.int .u8 0,.int .u8 0,.int .u8 0,.int .u8 0,.int .u8 0,.int .u8 0,.int .u8 0,.int .u8 0,.int .u8 0,.int .u8 0,.int .u8 0,.int .u8 0,.int .u8 0,.int .u8 0,.int .u8 0,.int .u8 0,.int .u8 0,.int .u8 0,.int .u8 0,.int .u8 0,.int .u8 0,.int .u8 0,.int .u8 0,.int .u8 0,.int .u8 0,.int .u8 0,.int .u8 0,.string ⟨#[]⟩,.int .i64 0,.int .u64 0]:Array Value) 174 150
 clear h hlt hbd hsz hone hzs hcs e0 e1 e2 e3
 obtain ⟨W0,HW⟩:∃ W0,(w.alloc (.cells #[.pointer (some ⟨g,0,none⟩)] 174)).alloc (.cells (#[.int .u8 0,.int .u8 0,.int .u8 0,.int .u8 0,.int .u8 0,.int .u8 0,.int .u8 0,.int .u8 0,.int .u8 0,.int .u8 0,.int .u8 0,.int .u8 0,.int .u8 0,.int .u8 0,.int .u8 0,.int .u8 0,.int .u8 0,.int .u8 0,.int .u8 0,.int .u8 0,.int .u8 0,.int .u8 0,.int .u8 0,.int .u8 0,.int .u8 0,.int .u8 0,.int .u8 0,.int .u8 0,.int .u8 0,.int .u8 0,.int .u8 0,.int .u8 0,.string ⟨#[]⟩,.int .i64 0,.int .u64 0]:Array Value) 150)=W0:=⟨_,rfl⟩
 go_enter Tryz.func225,Tryz.ntmps225
 go_upto_region 1 with fail
 rw [HW] at b1 b2 b3 b4
 clear HW
 obtain ⟨p,hp⟩:∃ p,p=w.heap.size:=⟨_,rfl⟩
 obtain ⟨q,hq⟩:∃ q,q=w.heap.size+1:=⟨_,rfl⟩
 rw [← hq] at b2 ⊢
 rw [← hp] at b1 ⊢
 have hpg:p≠g:=by have:=H.out.2;omega
 have hqg:q≠g:=by have:=H.out.2;omega
 have HB:=Hj (Aj b1 (Aj b2 (Aj b3 (Aj hp (Aj hq (Aj hpg hqg))))))
 clear b1 b2 b3 b4 hp hq hpg hqg
 refine wp_region_held (S:=fun V=>V.cell? ⟨p,0,none⟩=some (.pointer (some ⟨g,0,none⟩))) (by kernel_rfl) ?_
 change wpAnyH _ _ _ _ _ 15 _ _ (World.drew W0)
 have hcur:(World.drew W0).cell? ⟨p,0,none⟩=some (.pointer (some ⟨g,0,none⟩)):=HB.out.1.cell 0 rfl
 have hd:Below W0.heap.size W0 W0.drew:=(Below.refl _ _).drew
 refine tk 0 (.pointer (some ⟨p,0,none⟩)) 3 rfl rfl hcur ?_
 refine tk 1 (.pointer (some ⟨g,0,none⟩)) 4 rfl rfl hcur ?_ (by intro w' hS';unfold execOp;simp [go_sem,hS'])
 refine tk 3 (.pointer (some ⟨p,0,none⟩)) 6 rfl rfl hcur ?_
 refine tk 4 (.pointer (some ⟨g,0,none⟩)) 7 rfl rfl hcur ?_ (by intro w' hS';unfold execOp;simp [go_sem,hS'])
 refine tk 6 (.pointer (some ⟨p,0,none⟩)) 9 rfl rfl hcur ?_
 refine tk 7 (.pointer (some ⟨g,0,none⟩)) 10 rfl rfl hcur ?_ (by intro w' hS';unfold execOp;simp [go_sem,hS'])
 refine tk 9 (.pointer (some ⟨p,0,none⟩)) 12 rfl rfl hcur ?_
 refine tk 10 (.pointer (some ⟨g,0,none⟩)) 13 rfl rfl hcur ?_ (by intro w' hS';unfold execOp;simp [go_sem,hS'])
 have hr0:=H.out.1.below (HB.out.2.2.1.trans (hd.mono HB.out.2.2.1.size))
 have ho0:W.Only g W0 W0.drew none:=W.only_below hd
 generalize W0.drew=U0 at hcur hr0 ho0 ⊢
 clear hd
 refine held_one (i:=2) (by kernel_rfl) _ rfl (wpOp_callG rfl (by rfl) 5 rfl 228 #[.pointer (some ⟨g,0,none⟩)] (by unfold execOp;simp [go_sem]) (fun v w'=>v=.agg (v0)∧W.RSt w' g k xs c (W.numS xs st 32)∧W.Only g U0 w' none) ((W.hash_rst U0 g k xs c _ hr0).mono fun e w' k=>⟨_,k.1,by rw [E0.out],k.2.1,k.2.2⟩) ?_)
 rintro _ U1 ⟨rfl,hr1,hn⟩
 have hcur:=(onlyCell hn (Nat.lt_of_lt_of_le HB.out.1.lt ho0.size) HB.out.2.2.2.2.2.1).trans hcur
 have ho1:=ho0.trans0 hn
 refine ⟨hcur,?_⟩
 simp only [Sj]
 clear hn hr0 ho0
 refine held_one (i:=5) (by kernel_rfl) _ rfl (wpOp_callG rfl (by rfl) 8 rfl 254 #[.pointer (some ⟨g,0,none⟩),.int .i64 32] (by unfold execOp;simp [go_sem]) (fun v w'=>v=.string (v1)∧W.RSt w' g k xs c (W.textS xs (W.numS xs st 32) 32)∧W.Only g U1 w' none) ((W.text_rst U1 g k xs c _ 32 hr1).mono fun e w' k=>⟨_,k.1,by rw [E1.out],k.2.1,k.2.2⟩) ?_)
 rintro _ U2 ⟨rfl,hr2,hn⟩
 have hcur:=(onlyCell hn (Nat.lt_of_lt_of_le HB.out.1.lt ho1.size) HB.out.2.2.2.2.2.1).trans hcur
 have ho2:=ho1.trans0 hn
 refine ⟨hcur,?_⟩
 simp only [Sj]
 clear hn hr1 ho1
 refine held_one (i:=8) (by kernel_rfl) _ rfl (wpOp_callG rfl (by rfl) 11 rfl 221 #[.pointer (some ⟨g,0,none⟩)] (by unfold execOp;simp [go_sem]) (fun v w'=>v=.int .i64 (v2)∧W.RSt w' g k xs c (W.numS xs (W.textS xs (W.numS xs st 32) 32) 8)∧W.Only g U2 w' none) ((W.ask56_st U2 g k xs c _ hr2).mono fun e w' k=>⟨_,k.1,by rw [E2.out],k.2.1,k.2.2⟩) ?_)
 rintro _ U3 ⟨rfl,hr3,hn⟩
 have hcur:=(onlyCell hn (Nat.lt_of_lt_of_le HB.out.1.lt ho2.size) HB.out.2.2.2.2.2.1).trans hcur
 have ho3:=ho2.trans0 hn
 refine ⟨hcur,?_⟩
 simp only [Sj]
 clear hn hr2 ho2
 refine held_one (i:=11) (by kernel_rfl) _ rfl (wpOp_callG rfl (by rfl) 14 rfl 256 #[.pointer (some ⟨g,0,none⟩)] (by unfold execOp;simp [go_sem]) (fun v w'=>v=.int .u64 (v3)∧W.RSt w' g k xs c (W.numS xs (W.numS xs (W.textS xs (W.numS xs st 32) 32) 8) 8)∧W.Only g U3 w' none) ((W.ask55_st U3 g k xs c _ hr3).mono fun e w' k=>⟨_,k.1,by rw [E3.out],k.2.1,k.2.2⟩) ?_)
 rintro _ U4 ⟨rfl,hr4,hn⟩
 have hcur:=(onlyCell hn (Nat.lt_of_lt_of_le HB.out.1.lt ho3.size) HB.out.2.2.2.2.2.1).trans hcur
 have ho4:=ho3.trans0 hn
 refine ⟨hcur,?_⟩
 simp only [Sj]
 clear hn hr3 ho3
 refine tk 12 (.agg #[.int .i64 (v2),.int .u64 (v3)]) 15 rfl rfl hcur ?_
 refine tk 13 (.agg cs) 16 rfl rfl hcur ?_ (by intro w' hS';refine exec_build rfl ?_;simpa [Act.eval] using HBD.out w')
 have hA2:=ho4.lies HB.out.2.1 HB.out.2.2.2.2.2.2
 refine held_one (i:=14) (by kernel_rfl) _ rfl (wpOp_storeRow rfl rfl rfl 150 (.tmp 2) (.tmp 16) rfl q cs rfl rfl 150 _ hA2 HSZ.out.1 HSZ.out.2.2 HSZ.out.2.1 ?_)
 refine ⟨by rw [show (U4.setRow q cs).cell? ⟨p,0,none⟩=U4.cell? ⟨p,0,none⟩ by simp only [World.cell?];rw [setRow_other _ _ _ _ (by have:=HB.out.2.2.2.1;have:=HB.out.2.2.2.2.1;omega)]];exact hcur,?_⟩
 refine held_done (by kernel_rfl) ?_
 have HR:=Hj (Aj hr4 (Aj ho4 hA2))
 clear hcur hr4 ho4 hA2
 go_wp2_with fail
 exact bodyPost_ret (v:=.agg cs) (results_cell_row (p:=2) (ty:=150) (by kernel_rfl) _ _ q 150 cs (0,0) _ rfl (HR.out.2.2.setRow _) Tryz.underlying150 rfl HSZ.out.1) rfl (got_row HB.out.2.2.1 HB.out.2.2.2.2.2.2 (by rw [HB.out.2.2.2.2.1];exact Nat.le_succ _) H.out.1.lt HR.out.1 HR.out.2.1)
theorem getterAddress_any (w:World) (g k:Nat) (xs:List UInt8) (c:Nat) (st:Option Nat) (h:W.RSt w g k xs c st) :
  Calls Tryz.prog 227 #[.agg #[.pointer (some ⟨g,0,none⟩)]] w (GotR g k xs c w (.agg (adC (W.flagV xs st) (W.hashV xs (W.flagS xs st)))) (adE xs st)):=by
 obtain ⟨v0,e0⟩:∃ x:Bool,x=W.flagV xs st:=⟨_,rfl⟩
 obtain ⟨v1,e1⟩:∃ x:Array Value,x=W.B8 (W.hashV xs (W.flagS xs st)):=⟨_,rfl⟩
 obtain ⟨cs,hcs⟩:∃ x,x=adC (W.flagV xs st) (W.hashV xs (W.flagS xs st)):=⟨_,rfl⟩
 have hbd:∀ W,(Instr.build 32 #[(0,.bool (v0)),(1,.agg (v1))]).run Tryz.prog W=.ok (.agg cs) W:=fun W=>by
  rw [e0,e1,hcs]
  exact run_build W 32 _ _ (built_addressG xs st)
 have hsz:(Tryz.prog.info? 32).map (·.size)=some cs.size:=by rw [hcs];exact addressG_size xs st
 have hone:cs.all (·.oneCell')=true:=by rw [hcs];exact addressG_one xs st
 have hzs:(#[.bool false,.int .u8 0,.int .u8 0,.int .u8 0,.int .u8 0,.int .u8 0,.int .u8 0,.int .u8 0,.int .u8 0,.int .u8 0,.int .u8 0,.int .u8 0,.int .u8 0,.int .u8 0,.int .u8 0,.int .u8 0,.int .u8 0,.int .u8 0,.int .u8 0,.int .u8 0,.int .u8 0,.int .u8 0,.int .u8 0,.int .u8 0,.int .u8 0,.int .u8 0,.int .u8 0,.int .u8 0,.int .u8 0,.int .u8 0,.int .u8 0,.int .u8 0,.int .u8 0]:Array Value).size=cs.size:=by
  have h1:(Tryz.prog.info? 32).map (·.size)=some (#[.bool false,.int .u8 0,.int .u8 0,.int .u8 0,.int .u8 0,.int .u8 0,.int .u8 0,.int .u8 0,.int .u8 0,.int .u8 0,.int .u8 0,.int .u8 0,.int .u8 0,.int .u8 0,.int .u8 0,.int .u8 0,.int .u8 0,.int .u8 0,.int .u8 0,.int .u8 0,.int .u8 0,.int .u8 0,.int .u8 0,.int .u8 0,.int .u8 0,.int .u8 0,.int .u8 0,.int .u8 0,.int .u8 0,.int .u8 0,.int .u8 0,.int .u8 0,.int .u8 0]:Array Value).size:=by kernel_rfl
  exact Option.some.inj (h1.symm.trans hsz)
 rw [← hcs]
 have E0:=Hj e0
 have E1:=Hj e1
 have HBD:=Hj hbd
 have HSZ:=Hj (Aj hsz (Aj hone hzs))
 have hlt:=h.lt
 have H:=Hj (Aj h hlt)
 obtain ⟨b1,b2,b3,b4⟩:=box_two w #[.pointer (some ⟨g,0,none⟩)] (#[.bool false,.int .u8 0,.int .u8 0,.int .u8 0,.int .u8 0,.int .u8 0,.int .u8 0,.int .u8 0,.int .u8 0,.int .u8 0,.int .u8 0,.int .u8 0,.int .u8 0,.int .u8 0,.int .u8 0,.int .u8 0,.int .u8 0,.int .u8 0,.int .u8 0,.int .u8 0,.int .u8 0,.int .u8 0,.int .u8 0,.int .u8 0,.int .u8 0,.int .u8 0,.int .u8 0,.int .u8 0,.int .u8 0,.int .u8 0,.int .u8 0,.int .u8 0,.int .u8 0]:Array Value) 174 32
 clear h hlt hbd hsz hone hzs hcs e0 e1
 obtain ⟨W0,HW⟩:∃ W0,(w.alloc (.cells #[.pointer (some ⟨g,0,none⟩)] 174)).alloc (.cells (#[.bool false,.int .u8 0,.int .u8 0,.int .u8 0,.int .u8 0,.int .u8 0,.int .u8 0,.int .u8 0,.int .u8 0,.int .u8 0,.int .u8 0,.int .u8 0,.int .u8 0,.int .u8 0,.int .u8 0,.int .u8 0,.int .u8 0,.int .u8 0,.int .u8 0,.int .u8 0,.int .u8 0,.int .u8 0,.int .u8 0,.int .u8 0,.int .u8 0,.int .u8 0,.int .u8 0,.int .u8 0,.int .u8 0,.int .u8 0,.int .u8 0,.int .u8 0,.int .u8 0]:Array Value) 32)=W0:=⟨_,rfl⟩
 go_enter Tryz.func227,Tryz.ntmps227
 go_upto_region 1 with fail
 rw [HW] at b1 b2 b3 b4
 clear HW
 obtain ⟨p,hp⟩:∃ p,p=w.heap.size:=⟨_,rfl⟩
 obtain ⟨q,hq⟩:∃ q,q=w.heap.size+1:=⟨_,rfl⟩
 rw [← hq] at b2 ⊢
 rw [← hp] at b1 ⊢
 have hpg:p≠g:=by have:=H.out.2;omega
 have hqg:q≠g:=by have:=H.out.2;omega
 have HB:=Hj (Aj b1 (Aj b2 (Aj b3 (Aj hp (Aj hq (Aj hpg hqg))))))
 clear b1 b2 b3 b4 hp hq hpg hqg
 refine wp_region_held (S:=fun V=>V.cell? ⟨p,0,none⟩=some (.pointer (some ⟨g,0,none⟩))) (by kernel_rfl) ?_
 change wpAnyH _ _ _ _ _ 8 _ _ (World.drew W0)
 have hcur:(World.drew W0).cell? ⟨p,0,none⟩=some (.pointer (some ⟨g,0,none⟩)):=HB.out.1.cell 0 rfl
 have hd:Below W0.heap.size W0 W0.drew:=(Below.refl _ _).drew
 refine tk 0 (.pointer (some ⟨p,0,none⟩)) 3 rfl rfl hcur ?_
 refine tk 1 (.pointer (some ⟨g,0,none⟩)) 4 rfl rfl hcur ?_ (by intro w' hS';unfold execOp;simp [go_sem,hS'])
 refine tk 3 (.pointer (some ⟨p,0,none⟩)) 6 rfl rfl hcur ?_
 refine tk 4 (.pointer (some ⟨g,0,none⟩)) 7 rfl rfl hcur ?_ (by intro w' hS';unfold execOp;simp [go_sem,hS'])
 have hr0:=H.out.1.below (HB.out.2.2.1.trans (hd.mono HB.out.2.2.1.size))
 have ho0:W.Only g W0 W0.drew none:=W.only_below hd
 generalize W0.drew=U0 at hcur hr0 ho0 ⊢
 clear hd
 refine held_one (i:=2) (by kernel_rfl) _ rfl (wpOp_callG rfl (by rfl) 5 rfl 273 #[.pointer (some ⟨g,0,none⟩)] (by unfold execOp;simp [go_sem]) (fun v w'=>v=.bool (v0)∧W.RSt w' g k xs c (W.flagS xs st)∧W.Only g U0 w' none) ((W.flag_rst U0 g k xs c _ hr0).mono fun e w' k=>⟨_,k.1,by rw [E0.out],k.2.1,k.2.2⟩) ?_)
 rintro _ U1 ⟨rfl,hr1,hn⟩
 have hcur:=(onlyCell hn (Nat.lt_of_lt_of_le HB.out.1.lt ho0.size) HB.out.2.2.2.2.2.1).trans hcur
 have ho1:=ho0.trans0 hn
 refine ⟨hcur,?_⟩
 simp only [Sj]
 clear hn hr0 ho0
 refine held_one (i:=5) (by kernel_rfl) _ rfl (wpOp_callG rfl (by rfl) 8 rfl 228 #[.pointer (some ⟨g,0,none⟩)] (by unfold execOp;simp [go_sem]) (fun v w'=>v=.agg (v1)∧W.RSt w' g k xs c (W.numS xs (W.flagS xs st) 32)∧W.Only g U1 w' none) ((W.hash_rst U1 g k xs c _ hr1).mono fun e w' k=>⟨_,k.1,by rw [E1.out],k.2.1,k.2.2⟩) ?_)
 rintro _ U2 ⟨rfl,hr2,hn⟩
 have hcur:=(onlyCell hn (Nat.lt_of_lt_of_le HB.out.1.lt ho1.size) HB.out.2.2.2.2.2.1).trans hcur
 have ho2:=ho1.trans0 hn
 refine ⟨hcur,?_⟩
 simp only [Sj]
 clear hn hr1 ho1
 refine tk 6 (.agg cs) 9 rfl rfl hcur ?_ (by intro w' hS';refine exec_build rfl ?_;simpa [Act.eval] using HBD.out w')
 have hA2:=ho2.lies HB.out.2.1 HB.out.2.2.2.2.2.2
 refine held_one (i:=7) (by kernel_rfl) _ rfl (wpOp_storeRow rfl rfl rfl 32 (.tmp 2) (.tmp 9) rfl q cs rfl rfl 32 _ hA2 HSZ.out.1 HSZ.out.2.2 HSZ.out.2.1 ?_)
 refine ⟨by rw [show (U2.setRow q cs).cell? ⟨p,0,none⟩=U2.cell? ⟨p,0,none⟩ by simp only [World.cell?];rw [setRow_other _ _ _ _ (by have:=HB.out.2.2.2.1;have:=HB.out.2.2.2.2.1;omega)]];exact hcur,?_⟩
 refine held_done (by kernel_rfl) ?_
 have HR:=Hj (Aj hr2 (Aj ho2 hA2))
 clear hcur hr2 ho2 hA2
 go_wp2_with fail
 exact bodyPost_ret (v:=.agg cs) (results_cell_row (p:=2) (ty:=32) (by kernel_rfl) _ _ q 32 cs (0,0) _ rfl (HR.out.2.2.setRow _) Tryz.underlying32 rfl HSZ.out.1) rfl (got_row HB.out.2.2.1 HB.out.2.2.2.2.2.2 (by rw [HB.out.2.2.2.2.1];exact Nat.le_succ _) H.out.1.lt HR.out.1 HR.out.2.1)
theorem getterRef_any (w:World) (g k:Nat) (xs:List UInt8) (c:Nat) (st:Option Nat) (h:W.RSt w g k xs c st) :
  Calls Tryz.prog 156 #[.agg #[.pointer (some ⟨g,0,none⟩)]] w (GotR g k xs c w (.agg (refC (rfV xs st))) (rfE xs st)):=by
 obtain ⟨v0,e0⟩:∃ x:Array Value,x=W.B8 (W.hashV xs st):=⟨_,rfl⟩
 obtain ⟨v1,e1⟩:∃ x:Int,x=((W.countV xs (W.numS xs st 32) 30:Nat):Int):=⟨_,rfl⟩
 obtain ⟨cs,hcs⟩:∃ x,x=refC (rfV xs st):=⟨_,rfl⟩
 have hbd:∀ W,(Instr.build 37 #[(0,.agg (v0)),(1,.int .i64 (v1))]).run Tryz.prog W=.ok (.agg cs) W:=fun W=>by
  rw [e0,e1,hcs]
  exact run_build W 37 _ _ (built_refG xs st)
 have hsz:(Tryz.prog.info? 37).map (·.size)=some cs.size:=by rw [hcs];exact refG_size xs st
 have hone:cs.all (·.oneCell')=true:=by rw [hcs];exact refG_one xs st
 have hzs:(#[.int .u8 0,.int .u8 0,.int .u8 0,.int .u8 0,.int .u8 0,.int .u8 0,.int .u8 0,.int .u8 0,.int .u8 0,.int .u8 0,.int .u8 0,.int .u8 0,.int .u8 0,.int .u8 0,.int .u8 0,.int .u8 0,.int .u8 0,.int .u8 0,.int .u8 0,.int .u8 0,.int .u8 0,.int .u8 0,.int .u8 0,.int .u8 0,.int .u8 0,.int .u8 0,.int .u8 0,.int .u8 0,.int .u8 0,.int .u8 0,.int .u8 0,.int .u8 0,.int .i64 0]:Array Value).size=cs.size:=by
  have h1:(Tryz.prog.info? 37).map (·.size)=some (#[.int .u8 0,.int .u8 0,.int .u8 0,.int .u8 0,.int .u8 0,.int .u8 0,.int .u8 0,.int .u8 0,.int .u8 0,.int .u8 0,.int .u8 0,.int .u8 0,.int .u8 0,.int .u8 0,.int .u8 0,.int .u8 0,.int .u8 0,.int .u8 0,.int .u8 0,.int .u8 0,.int .u8 0,.int .u8 0,.int .u8 0,.int .u8 0,.int .u8 0,.int .u8 0,.int .u8 0,.int .u8 0,.int .u8 0,.int .u8 0,.int .u8 0,.int .u8 0,.int .i64 0]:Array Value).size:=by kernel_rfl
  exact Option.some.inj (h1.symm.trans hsz)
 rw [← hcs]
 have E0:=Hj e0
 have E1:=Hj e1
 have HBD:=Hj hbd
 have HSZ:=Hj (Aj hsz (Aj hone hzs))
 have hlt:=h.lt
 have H:=Hj (Aj h hlt)
 obtain ⟨b1,b2,b3,b4⟩:=box_two w #[.pointer (some ⟨g,0,none⟩)] (#[.int .u8 0,.int .u8 0,.int .u8 0,.int .u8 0,.int .u8 0,.int .u8 0,.int .u8 0,.int .u8 0,.int .u8 0,.int .u8 0,.int .u8 0,.int .u8 0,.int .u8 0,.int .u8 0,.int .u8 0,.int .u8 0,.int .u8 0,.int .u8 0,.int .u8 0,.int .u8 0,.int .u8 0,.int .u8 0,.int .u8 0,.int .u8 0,.int .u8 0,.int .u8 0,.int .u8 0,.int .u8 0,.int .u8 0,.int .u8 0,.int .u8 0,.int .u8 0,.int .i64 0]:Array Value) 174 37
 clear h hlt hbd hsz hone hzs hcs e0 e1
 obtain ⟨W0,HW⟩:∃ W0,(w.alloc (.cells #[.pointer (some ⟨g,0,none⟩)] 174)).alloc (.cells (#[.int .u8 0,.int .u8 0,.int .u8 0,.int .u8 0,.int .u8 0,.int .u8 0,.int .u8 0,.int .u8 0,.int .u8 0,.int .u8 0,.int .u8 0,.int .u8 0,.int .u8 0,.int .u8 0,.int .u8 0,.int .u8 0,.int .u8 0,.int .u8 0,.int .u8 0,.int .u8 0,.int .u8 0,.int .u8 0,.int .u8 0,.int .u8 0,.int .u8 0,.int .u8 0,.int .u8 0,.int .u8 0,.int .u8 0,.int .u8 0,.int .u8 0,.int .u8 0,.int .i64 0]:Array Value) 37)=W0:=⟨_,rfl⟩
 go_enter Tryz.func156,Tryz.ntmps156
 go_upto_region 1 with fail
 rw [HW] at b1 b2 b3 b4
 clear HW
 obtain ⟨p,hp⟩:∃ p,p=w.heap.size:=⟨_,rfl⟩
 obtain ⟨q,hq⟩:∃ q,q=w.heap.size+1:=⟨_,rfl⟩
 rw [← hq] at b2 ⊢
 rw [← hp] at b1 ⊢
 have hpg:p≠g:=by have:=H.out.2;omega
 have hqg:q≠g:=by have:=H.out.2;omega
 have HB:=Hj (Aj b1 (Aj b2 (Aj b3 (Aj hp (Aj hq (Aj hpg hqg))))))
 clear b1 b2 b3 b4 hp hq hpg hqg
 refine wp_region_held (S:=fun V=>V.cell? ⟨p,0,none⟩=some (.pointer (some ⟨g,0,none⟩))) (by kernel_rfl) ?_
 change wpAnyH _ _ _ _ _ 8 _ _ (World.drew W0)
 have hcur:(World.drew W0).cell? ⟨p,0,none⟩=some (.pointer (some ⟨g,0,none⟩)):=HB.out.1.cell 0 rfl
 have hd:Below W0.heap.size W0 W0.drew:=(Below.refl _ _).drew
 refine tk 0 (.pointer (some ⟨p,0,none⟩)) 3 rfl rfl hcur ?_
 refine tk 1 (.pointer (some ⟨g,0,none⟩)) 4 rfl rfl hcur ?_ (by intro w' hS';unfold execOp;simp [go_sem,hS'])
 refine tk 3 (.pointer (some ⟨p,0,none⟩)) 6 rfl rfl hcur ?_
 refine tk 4 (.pointer (some ⟨g,0,none⟩)) 7 rfl rfl hcur ?_ (by intro w' hS';unfold execOp;simp [go_sem,hS'])
 have hr0:=H.out.1.below (HB.out.2.2.1.trans (hd.mono HB.out.2.2.1.size))
 have ho0:W.Only g W0 W0.drew none:=W.only_below hd
 generalize W0.drew=U0 at hcur hr0 ho0 ⊢
 clear hd
 refine held_one (i:=2) (by kernel_rfl) _ rfl (wpOp_callG rfl (by rfl) 5 rfl 228 #[.pointer (some ⟨g,0,none⟩)] (by unfold execOp;simp [go_sem]) (fun v w'=>v=.agg (v0)∧W.RSt w' g k xs c (W.numS xs st 32)∧W.Only g U0 w' none) ((W.hash_rst U0 g k xs c _ hr0).mono fun e w' k=>⟨_,k.1,by rw [E0.out],k.2.1,k.2.2⟩) ?_)
 rintro _ U1 ⟨rfl,hr1,hn⟩
 have hcur:=(onlyCell hn (Nat.lt_of_lt_of_le HB.out.1.lt ho0.size) HB.out.2.2.2.2.2.1).trans hcur
 have ho1:=ho0.trans0 hn
 refine ⟨hcur,?_⟩
 simp only [Sj]
 clear hn hr0 ho0
 refine held_one (i:=5) (by kernel_rfl) _ rfl (wpOp_callG rfl (by rfl) 8 rfl 217 #[.pointer (some ⟨g,0,none⟩),.int .i64 30] (by unfold execOp;simp [go_sem]) (fun v w'=>v=.int .i64 (v1)∧W.RSt w' g k xs c (W.countS xs (W.numS xs st 32) 30)∧W.Only g U1 w' none) ((W.count_rst U1 g k xs c _ 30 hr1).mono fun e w' k=>⟨_,k.1,by rw [E1.out],k.2.1,k.2.2⟩) ?_)
 rintro _ U2 ⟨rfl,hr2,hn⟩
 have hcur:=(onlyCell hn (Nat.lt_of_lt_of_le HB.out.1.lt ho1.size) HB.out.2.2.2.2.2.1).trans hcur
 have ho2:=ho1.trans0 hn
 refine ⟨hcur,?_⟩
 simp only [Sj]
 clear hn hr1 ho1
 refine tk 6 (.agg cs) 9 rfl rfl hcur ?_ (by intro w' hS';refine exec_build rfl ?_;simpa [Act.eval] using HBD.out w')
 have hA2:=ho2.lies HB.out.2.1 HB.out.2.2.2.2.2.2
 refine held_one (i:=7) (by kernel_rfl) _ rfl (wpOp_storeRow rfl rfl rfl 37 (.tmp 2) (.tmp 9) rfl q cs rfl rfl 37 _ hA2 HSZ.out.1 HSZ.out.2.2 HSZ.out.2.1 ?_)
 refine ⟨by rw [show (U2.setRow q cs).cell? ⟨p,0,none⟩=U2.cell? ⟨p,0,none⟩ by simp only [World.cell?];rw [setRow_other _ _ _ _ (by have:=HB.out.2.2.2.1;have:=HB.out.2.2.2.2.1;omega)]];exact hcur,?_⟩
 refine held_done (by kernel_rfl) ?_
 have HR:=Hj (Aj hr2 (Aj ho2 hA2))
 clear hcur hr2 ho2 hA2
 go_wp2_with fail
 exact bodyPost_ret (v:=.agg cs) (results_cell_row (p:=2) (ty:=37) (by kernel_rfl) _ _ q 37 cs (0,0) _ rfl (HR.out.2.2.setRow _) Tryz.underlying37 rfl HSZ.out.1) rfl (got_row HB.out.2.2.1 HB.out.2.2.2.2.2.2 (by rw [HB.out.2.2.2.2.1];exact Nat.le_succ _) H.out.1.lt HR.out.1 HR.out.2.1)
end Go.Proofs.YtilbbemdinpjcaaGreat.P
