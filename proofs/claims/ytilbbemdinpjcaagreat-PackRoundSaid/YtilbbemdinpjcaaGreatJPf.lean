/-
  pack: RightOutput.
-/
import Derived.Test.YtilbbemdinpjcaaGreatJVq
import Derived.Defers
import Derived.Test.YtilbbemdinpjcaaGreatJVk
import Derived.Test.YtilbbemdinpjcaaGreatJVl
import Derived.Test.YtilbbemdinpjcaaGreatJTTjp
import Derived.Deep.WholeRow
set_option maxHeartbeats 16000000
namespace Go.Proofs.YtilbbemdinpjcaaGreat.P
set_option maxRecDepth 100000
open Go.RowKit Go.Sort
def Must (b:Bool) (e:Ending):Prop:=(b=true∧e=.returned (.tuple #[])) ∨ (b=false∧Fault e)
def bools (bs:List Bool):Array Value:=(bs.map Value.bool).toArray
theorem bools_get {bs:List Bool} {k:Nat} {b:Bool} (h:bs[k]? = some b):(bools bs)[k]? = some (.bool b):=by simp [bools,h]
theorem below_setCell {B:Nat} {a w:World} (h:Below B a w) (p:Addr) (v:Value) (hp:B≤p.block):Below B a (w.setCell p v):=h.trans ⟨rfl,rfl,rfl,by rw [size_set];exact Nat.le_refl _,fun k hk=>heap_setCell_other w p k v (by omega)⟩
theorem held_done {P:Program} {ops:Array Oper} {Q:Exit→Act→World→Prop} {md:Region.Mode} {S:World→Prop} {fuel:Nat} {listed:Array Bool} {a:Act} {w:World} (hr:Region.ready md ops listed=[]) (h:Q .normal a w):wpAnyH P md ops Q S fuel listed a w:=by
 cases fuel with
 | zero=>exact ⟨hr,h⟩
 | succ f=>exact ⟨fun _=>h,fun i hi=>by rw [hr] at hi;cases hi⟩
def IndexRes (bs:List Bool) (e:Ending):Prop:=∃ z:Int,e=.returned (.int .i64 z)∧((bs.all id=true∧z=-1) ∨ (bs.all id=false∧0≤z))
theorem all_cut {bs:List Bool} {k:Nat} (h:∀ i,i < k→bs[i]? = some true) (hk:bs.length≤k):bs.all id=true:=by
 rw [List.all_eq_true]
 intro b hb
 obtain ⟨i,hi,e⟩:=List.getElem_of_mem hb
 have h1:=h i (by omega)
 rw [List.getElem?_eq_getElem hi,e] at h1
 exact Option.some.inj h1
theorem index_any (w:World) (g c:Nat) (t:TypeId) (bs:List Bool) (h:Lies w g (bools bs) t) (hl:bs.length≤1000) :
 Calls Tryz.prog 204 #[.slice (some ⟨g,0,none⟩) bs.length c,.bool false] w fun e w'=>IndexRes bs e∧Below w.heap.size w w':=by
 obtain ⟨N,hN⟩:∃ N,N=bs.length:=⟨_,rfl⟩
 have hNi:(N:Int)≤1000:=by omega
 have HC:Hid (∀ V,Below w.heap.size w V→∀ (k:Nat) b,bs[k]? = some b→V.cell? ⟨g,k,none⟩=some (.bool b)):=Hj fun V hV k b hb=>(h.below hV h.lt).cell k (bools_get hb)
 rw [← hN]
 have HN:=Hj hN
 clear h hl hN
 go_enter Tryz.func204,Tryz.ntmps204
 go_wp2_with fail
 go_loopw [8] (fun i W=>∃ k:Nat,k≤N∧i=.int .i64 k∧Below w.heap.size w W∧∀ i,i < k→bs[i]? = some true) (fun i _=>N - (intOf i).toNat)
 case atStart=>exact ⟨0,Nat.zero_le _,rfl,Below.refl _ _,fun i hi=>absurd hi (by omega)⟩
 case round =>
  obtain ⟨k,hk,rfl,hb,hall⟩:=hrel
  have m0:(0:Int)≤(k:Int):=by omega
  by_cases hlt:k < N
  · have m1:(k:Int) < (N:Int):=by omega
    have hNl:=HN.out
    obtain ⟨b,hkb⟩:∃ b,bs[k]? = some b:=⟨bs[k]'(by omega),List.getElem?_eq_getElem _⟩
    have c0:=HC.out wr hb k b hkb
    have HR:=Hj (Aj hb (Aj hall (Aj hkb hlt)))
    clear hb hall hkb hlt hk hNl
    cases b with
    | true =>
      go_wp2_with fail
      refine ⟨⟨k+1,HR.out.2.2.2,by go_num,HR.out.1,fun i hi => ?_⟩,?_⟩
      · by_cases e:i=k
        · rw [e];exact HR.out.2.2.1
        · exact HR.out.2.1 i (by omega)
      · have:=HR.out.2.2.2;simp [intOf];omega
    | false =>
      go_wp2_with fail
      go_ret
      refine ⟨⟨k,rfl,.inr ⟨?_,m0⟩⟩,HR.out.1⟩
      rw [← Bool.not_eq_true,List.all_eq_true]
      intro h
      exact absurd (h false (List.mem_of_getElem? HR.out.2.2.1)) (by simp)
  · have m1:¬ (k:Int) < (N:Int):=by omega
    have HE:=Hj (Aj hb (all_cut hall (by have:=HN.out;omega)))
    clear hb hall hlt hk
    go_wp2_with fail
    go_ret
    exact ⟨⟨-1,rfl,.inl ⟨HE.out.2,rfl⟩⟩,HE.out.1⟩
theorem contains_any (w:World) (g c:Nat) (t:TypeId) (bs:List Bool) (h:Lies w g (bools bs) t) (hl:bs.length≤1000) :
  Calls Tryz.prog 128 #[.slice (some ⟨g,0,none⟩) bs.length c,.bool false] w fun e w'=>e=.returned (.bool (!bs.all id))∧Below w.heap.size w w':=by
 have HI:=Hj (index_any w g c t bs h hl)
 clear h hl
 go_enter Tryz.func128,Tryz.ntmps128
 go_wp2_with fail
 refine HI.out.mono ?_
 rintro e w1 ⟨⟨z,rfl,hz⟩,hb⟩
 have HB:=Hj hb
 clear hb
 rcases hz with ⟨ha,rfl⟩ | ⟨ha,hz⟩
 ·
  go_wp2_with fail
  go_ret
  exact ⟨by rw [ha];rfl,HB.out⟩
 ·
  go_wp2_with fail
  go_ret
  exact ⟨by rw [ha];rfl,HB.out⟩
theorem must_any (w:World) (g c:Nat) (t:TypeId) (bs:List Bool) (h:Lies w g (bools bs) t) (hl:bs.length≤1000) :
 Calls Tryz.prog 62 #[.slice (some ⟨g,0,none⟩) bs.length c] w fun e w'=>Must (bs.all id) e∧Below w.heap.size w w':=by
 have hi:=contains_any w g c t bs h hl
 obtain ⟨b,hb⟩:∃ b,b=bs.all id:=⟨_,rfl⟩
 rw [← hb] at hi ⊢
 clear h hl hb
 have HI:=Hj hi
 clear hi
 go_enter Tryz.func62,Tryz.ntmps62
 go_wp2_with fail
 refine HI.out.mono ?_
 rintro e w1 ⟨rfl,hb⟩
 have HB:=Hj hb
 clear hb HI
 cases b with
 | true =>
   go_wp2_with fail
   go_end0
   exact ⟨.inl ⟨rfl,rfl⟩,HB.out⟩
 | false =>
   go_wp2_with fail
   exact ⟨rfl,.inr ⟨rfl,4,rfl⟩,HB.out⟩
end Go.Proofs.YtilbbemdinpjcaaGreat.P
namespace Go.Proofs.YtilbbemdinpjcaaGreat.P
set_option maxRecDepth 100000
open Go.RowKit Go.Sort
theorem met1_panicking (p:Addr) (u:TypeId) (pv x:Value) (older:List PanicEntry) (w:World) (h0:w.cell? p=some x) (f0:w.frozen? p=false) :
  CallsD Tryz.prog 127 #[.pointer (some p)] (.panicking ({ v:=.iface u pv,recovered:=false } :: older)) w fun e u' w' =>
   e=.returned (.tuple #[])∧u'=.panicking ({ v:=.iface u pv,recovered:=true } :: older)∧w'=w.setCell p (.bool false):=by
 refine callsD_of_wpS Tryz.func127 rfl fun c₀ cs hu => ?_
 apply wpS_seq
 apply wpS_region
 simp [wpOpsS,go_sem,recoverD,hu,Tryz.ntmps127,Exit.thenS]
 refine wpS_cond (t:=true) (by simp [Act.eval,Array.replicate]) ?_
 simp only [if_true]
 apply wpS_region
 simp [wpOpsS,go_sem,h0,f0,bodyPostS,results,Tryz.results127]
theorem met1_idle (p:Addr) (w:World) :
  CallsD Tryz.prog 127 #[.pointer (some p)] .returning w fun e u' w'=>e=.returned (.tuple #[])∧u'=.returning∧w'=w:=by
 refine callsD_of_wpS Tryz.func127 rfl fun c₀ cs hu => ?_
 apply wpS_seq
 apply wpS_region
 simp [wpOpsS,go_sem,recoverD,hu,Tryz.ntmps127,Exit.thenS]
 refine wpS_cond (t:=false) (by simp [Act.eval,Array.replicate]) ?_
 simp only [Bool.false_eq_true,if_false]
 refine wpS_of_wp (wp_skip ?_)
 cases c₀
 simp_all [bodyPostS,results,Tryz.results127]
theorem met_any (w:World) (K:Nat) (cap:Array Value) (b:Bool)
  (hK:∀ w:World,(callFunc K cap).run Tryz.prog w=.ok (.enter K cap) w) (hbe:∀ w1,Below w.heap.size w w1→Calls Tryz.prog K cap w1 fun e w2=>Must b e∧Below w1.heap.size w1 w2) :
  Calls Tryz.prog 60 #[.func (Fn.func K) #[] cap] w fun e w'=>e=.returned (.bool b)∧Below w.heap.size w w':=by
 have hmf:∀ (fn:Fn) (first cap:Array Value) (w:World),(Instr.makeFunc fn first cap).run Tryz.prog w=.ok (.func fn first cap) w:=fun _ _ _ _=>rfl
 have hb:Below w.heap.size w (w.alloc (.cells #[.bool false] 4)):=(Below.refl _ _).alloc (Nat.le_refl _) _
 have hl0:Lies (w.alloc (.cells #[.bool false] 4)) w.heap.size #[.bool false] 4:=Lies.new _ _ _
 have hc2:=hbe _ hb
 have HC:=Hj hc2
 have HB:=Hj (Aj hb hl0)
 clear hb hc2 hbe hl0
 go_enter_defers Tryz.func60,Tryz.ntmps60
 go_wp2_with fail
 refine HC.out.mono ?_
 rintro e w2 ⟨ht,hb2⟩
 have hL0:=HB.out.2.below hb2 HB.out.2.lt
 have hbw:=HB.out.1.trans (hb2.mono HB.out.1.size)
 generalize w.alloc (.cells #[.bool false] 4)=W0 at hb2 HB ht ⊢
 have k0:=hL0.cell 0 (v:=.bool false) rfl
 have f0:=hL0.free 0
 rcases ht with ⟨rfl,rfl⟩ | ⟨rfl,n,rfl⟩
 ·
  have H2:=Hj (Aj hL0 hbw)
  clear hL0 hbw hb2
  go_wp2_with fail
  have hL1:=H2.out.1.set 0 (.bool true)
  have hbf:=below_setCell H2.out.2 ⟨w.heap.size,0,none⟩ (.bool true) (Nat.le_refl _)
  generalize w2.setCell ⟨w.heap.size,0,none⟩ (.bool true)=w3 at hL1 hbf ⊢
  have n0:=hL1.cell 0 (v:=.bool true) rfl
  refine leaves_cons (f:=127) (args:=#[.pointer (some ⟨w.heap.size,0,none⟩)]) (by simp) (by simp [go_sem]) ?_
  refine (met1_idle ⟨w.heap.size,0,none⟩ _).mono ?_
  rintro e u' w'' ⟨rfl,rfl,hw⟩
  subst hw
  have HZ:=Hj hbf
  clear hbf hL1 k0 f0
  simp [Leaves,settle,results,Tryz.results60,go_sem,n0]
  exact HZ.out
 ·
  have H2:=Hj (Aj hL0 hbw)
  clear hL0 hbw hb2
  go_wp2_with fail
  have hL1:=H2.out.1.set 0 (.bool false)
  have hbf:=below_setCell H2.out.2 ⟨w.heap.size,0,none⟩ (.bool false) (Nat.le_refl _)
  refine leaves_cons (f:=127) (args:=#[.pointer (some ⟨w.heap.size,0,none⟩)]) (by simp) (by simp [go_sem]) ?_
  refine (met1_panicking ⟨w.heap.size,0,none⟩ 64 _ _ [] _ k0 f0).mono ?_
  rintro e u' w'' ⟨rfl,rfl,hw⟩
  rw [hw]
  clear hw
  generalize w2.setCell ⟨w.heap.size,0,none⟩ (.bool false)=w3 at hL1 hbf ⊢
  have n0:=hL1.cell 0 (v:=.bool false) rfl
  have HZ:=Hj hbf
  clear hbf hL1 k0 f0
  simp [Leaves,settle,results,Tryz.results60,go_sem,n0]
  exact HZ.out
end Go.Proofs.YtilbbemdinpjcaaGreat.P
namespace Go.Proofs.YtilbbemdinpjcaaGreat.P
set_option maxRecDepth 100000
open Go.RowKit Go.Sort
structure Rf where
 tx:List UInt8
 place:Int
def refC (r:Rf):Array Value:=B8 r.tx ++ #[.int .i64 r.place]
def RfOk (r:Rf):Prop:=r.tx.length=32∧-9223372036854775808≤r.place∧r.place < 9223372036854775808
theorem refC_size (r:Rf) (h:r.tx.length=32):(refC r).size=33:=by simp [refC,B8_size,h]
theorem refC_get (r:Rf) (h:r.tx.length=32) (j:Nat) (hj:j < 32):(refC r)[j]? = some (.int .u8 (r.tx.getD j 0).toNat):=by
 unfold refC
 rw [Array.getElem?_append_left (by rw [B8_size];omega)]
 exact B8_get r.tx j (by omega)
theorem refC_place (r:Rf) (h:r.tx.length=32):(refC r)[32]? = some (.int .i64 r.place):=by
 unfold refC
 rw [Array.getElem?_append_right (by rw [B8_size];omega),B8_size,h]
 rfl
theorem refC_one (r:Rf):(refC r).all (·.oneCell')=true:=by
 unfold refC
 rw [Array.all_append,B8_one]
 simp [Value.oneCell']
def sgnI (a c:Int):Int:=if a < c then -1 else if c < a then 1 else 0
def cR (a b:Rf):Int:=if cmpB a.tx b.tx=0 then sgnI a.place b.place else cmpB a.tx b.tx
def lessR (a b:Rf):Bool:=decide (cR a b < 0)
theorem cR_nz (a b:Rf):firstNZ [cmpB a.tx b.tx,sgnI a.place b.place]=cR a b:=by
 unfold cR
 simp only [firstNZ]
 split
 ·
  split
  ·
   rename_i h;exact h.symm
  ·
   rfl
 ·
  rfl
theorem nanInt_any (x:Int) (w:World):Calls Tryz.prog 144 #[.int .i64 x] w fun e w'=>e=.returned (.bool false)∧w=w':=by
 go_enter Tryz.func144,Tryz.ntmps144
 go_wp2
 go_ret
 exact ⟨rfl,rfl⟩
theorem compareInt_any (w:World) (a c:Int):Calls Tryz.prog 78 #[.int .i64 a,.int .i64 c] w fun e w'=>e=.returned (.int .i64 (sgnI a c))∧w=w':=by
 obtain ⟨m,hm⟩:∃ m,m=sgnI a c:=⟨_,rfl⟩
 rw [← hm]
 unfold sgnI at hm
 have c1:=nanInt_any a w
 have c2:=nanInt_any c w
 have HM:=Hj hm
 clear hm
 go_enter Tryz.func78,Tryz.ntmps78
 go_wp2_with fail
 refine c1.mono ?_
 rintro e w' ⟨rfl,rfl⟩
 go_wp2_with fail
 refine c2.mono ?_
 rintro e w' ⟨rfl,rfl⟩
 clear c1 c2
 by_cases h1:a < c
 ·
  go_wp2_with fail
  go_ret
  exact ⟨ret_i (by rw [HM.out,if_pos h1]),rfl⟩
 ·
  by_cases h2:c < a
  ·
   go_wp2_with fail
   go_ret
   exact ⟨ret_i (by rw [HM.out,if_neg (by omega),if_pos h2]),rfl⟩
  ·
   go_wp2_with fail
   go_ret
   exact ⟨ret_i (by rw [HM.out,if_neg (by omega),if_neg (by omega)]),rfl⟩
theorem src_ref {w:World} {g:Nat} {r:Rf} (h:r.tx.length=32) (hl:Lies w g (refC r) 37):Src w g 0 r.tx:=fun j hj=>by
 rw [Nat.zero_add]
 exact hl.cell j (refC_get r h j (by omega))
theorem less_any (w:World) (a b:Rf) (ha:a.tx.length=32) (hb:b.tx.length=32) :
 Calls Tryz.prog 21 #[.agg (refC a),.agg (refC b)] w fun e w'=>e=.returned (.bool (lessR a b))∧Below w.heap.size w w':=by
 obtain ⟨va,hva⟩:∃ v,v=refC a:=⟨_,rfl⟩
 obtain ⟨vb,hvb⟩:∃ v,v=refC b:=⟨_,rfl⟩
 rw [← hva,← hvb]
 have HA:=Hj (Aj hva (Aj hvb (Aj ha hb)))
 clear hva hvb ha hb
 go_enter Tryz.func21,Tryz.ntmps21
 go_upto_region 1 with fail
 have hl1:Lies ((w.alloc (.cells va 37)).alloc (.cells vb 37)) w.heap.size va 37:=(Lies.new _ _ _).alloc _
 have hl2:Lies ((w.alloc (.cells va 37)).alloc (.cells vb 37)) (w.heap.size+1) vb 37:=by
  have:=Lies.new (w.alloc (.cells va 37)) vb 37
  simpa using this
 have hb0:Below w.heap.size w ((w.alloc (.cells va 37)).alloc (.cells vb 37)):=((Below.refl _ _).alloc (Nat.le_refl _) _).alloc (by simp) _
 generalize (w.alloc (.cells va 37)).alloc (.cells vb 37)=W0 at hl1 hl2 hb0 ⊢
 obtain ⟨g1,hg1⟩:∃ g,g=w.heap.size:=⟨_,rfl⟩
 obtain ⟨g2,hg2⟩:∃ g,g=w.heap.size+1:=⟨_,rfl⟩
 rw [← hg2] at hl2 ⊢
 rw [← hg1] at hl1 ⊢
 have hkk:∀ V,Below W0.heap.size W0 V→V.cell? ⟨g1,32,none⟩=some (.int .i64 a.place)∧V.cell? ⟨g2,32,none⟩=some (.int .i64 b.place):=fun V hV=>by
  have h1:=hl1.below hV hl1.lt
  have h2:=hl2.below hV hl2.lt
  rw [HA.out.1] at h1
  rw [HA.out.2.1] at h2
  exact ⟨h1.cell 32 (refC_place a HA.out.2.2.1),h2.cell 32 (refC_place b HA.out.2.2.2)⟩
 have hcmp:∀ V,Below W0.heap.size W0 V→Calls Tryz.prog 77 #[.slice (some ⟨g1,0,none⟩) 32 32,.slice (some ⟨g2,0,none⟩) 32 32] V fun e w'=>e=.returned (.int .i64 (cmpB a.tx b.tx))∧V=w':=fun V hV=>by
  have h1:=hl1.below hV hl1.lt
  have h2:=hl2.below hV hl2.lt
  rw [HA.out.1] at h1
  rw [HA.out.2.1] at h2
  have:=bytes_any V g1 0 32 g2 0 32 a.tx b.tx (src_ref HA.out.2.2.1 h1) (src_ref HA.out.2.2.2 h2)
  rw [HA.out.2.2.1,HA.out.2.2.2] at this
  exact this
 have hs0:=hkk _ ((Below.refl _ _).drew)
 have hstr:=fun V=>compareInt_any V a.place b.place
 obtain ⟨x,hx⟩:∃ x,x=cmpB a.tx b.tx:=⟨_,rfl⟩
 obtain ⟨y,hy⟩:∃ y,y=sgnI a.place b.place:=⟨_,rfl⟩
 have hor:∀ V:World,V.cell? ⟨W0.heap.size,0,none⟩=some (.int .i64 x)→V.cell? ⟨W0.heap.size,1,none⟩=some (.int .i64 y)→Calls Tryz.prog 76 #[.slice (some ⟨W0.heap.size,0,none⟩) 2 2] V fun e w'=>e=.returned (.int .i64 (cR a b))∧V=w':=fun V h1 h2=>by
  have:=or_any [x,y] W0.heap.size 2 V (fun j hj=>by
   have:j=0 ∨ j=1:=by simp at hj;omega
   rcases this with rfl | rfl
   ·
    exact h1
   ·
    exact h2) (by simp)
  rw [hx,hy,cR_nz] at this
  exact this
 rw [← hx] at hcmp
 rw [← hy] at hstr
 obtain ⟨pa,hpa⟩:∃ p,p=a.place:=⟨_,rfl⟩
 obtain ⟨pb,hpb⟩:∃ p,p=b.place:=⟨_,rfl⟩
 rw [← hpa,← hpb] at hs0 hstr
 simp only [← hpa,← hpb] at hkk
 obtain ⟨z,hz⟩:∃ z,z=cR a b:=⟨_,rfl⟩
 rw [← hz] at hor
 have HZ:=Hj hz.symm
 clear hz
 have HK:=Hj hkk
 have HC:=Hj hcmp
 have HT:=Hj hstr
 have HO:=Hj hor
 have HB:=Hj (show ∀ V,Below W0.heap.size W0 V→Below w.heap.size w V from fun V hV=>hb0.trans (hV.mono hb0.size))
 have d0:Below W0.heap.size W0 W0.drew:=(Below.refl _ _).drew
 clear hl1 hl2 hkk hcmp hstr hor hx hy hb0 hg1 hg2 HA hpa hpb
 have d1:∀ c:Array Value,Below W0.heap.size W0 (W0.drew.alloc (.cells c 3)):=fun c=>d0.alloc (Nat.le_refl _) _
 have s1:=HK.out _ (d1 #[.int .i64 x,.int .i64 y])
 have h0:=(Lies.new W0.drew #[.int .i64 x,.int .i64 y] 3).cell 0 (v:=.int .i64 x) rfl
 have h1:=(Lies.new W0.drew #[.int .i64 x,.int .i64 y] 3).cell 1 (v:=.int .i64 y) rfl
 go_region_held3 (fun V=>V.cell? ⟨g1,32,none⟩=some (.int .i64 pa)∧V.cell? ⟨g2,32,none⟩=some (.int .i64 pb))
  (first | exact hs0 | exact s1)
  (first
   | (with_reducible refine (HC.out _ d0).mono ?_;rintro e w5 ⟨rfl,rfl⟩)
   | (with_reducible refine (HT.out _).mono ?_;rintro e w5 ⟨rfl,rfl⟩)
   | (with_reducible refine (HO.out _ h0 h1).mono ?_;rintro e w5 ⟨rfl,rfl⟩))
 go_wp2_with fail
 go_ret
 exact ⟨by unfold lessR;rw [HZ.out];rfl,HB.out _ (((Below.refl _ _).alloc (Nat.le_refl _) _).drew)⟩
def rightRefB (r:Rf):Bool:=decide (0≤r.place) && decide (r.place≤30)
theorem rightRef_any (w:World) (r:Rf) (h:r.tx.length=32) :
  Calls Tryz.prog 68 #[.agg (refC r)] w fun e w'=>e=.returned (.bool (rightRefB r))∧Below w.heap.size w w':=by
 obtain ⟨v,hv⟩:∃ v,v=refC r:=⟨_,rfl⟩
 have hc:(Lies (w.alloc (.cells v 37)) w.heap.size v 37):=Lies.new _ _ _
 have hb0:Below w.heap.size w (w.alloc (.cells v 37)):=(Below.refl _ _).alloc (Nat.le_refl _) _
 have c32:=hc.cell 32 (by rw [hv];exact refC_place r h)
 rw [← hv]
 have HB:=Hj hb0
 obtain ⟨p,hp⟩:∃ p,p=r.place:=⟨_,rfl⟩
 rw [← hp] at c32
 have HP:=Hj hp
 clear hc hb0 hv h hp
 go_enter Tryz.func68,Tryz.ntmps68
 go_upto_region 1 with fail
 generalize w.alloc (.cells v 37)=W0 at HB c32 ⊢
 by_cases h0:0≤p
 ·
  go_wp2_with fail
  go_ret
  exact ⟨by unfold rightRefB;rw [← HP.out];simp [h0],HB.out⟩
 ·
  go_wp2_with fail
  go_ret
  exact ⟨by unfold rightRefB;rw [← HP.out];simp [show ¬ 0≤p by omega],HB.out⟩
end Go.Proofs.YtilbbemdinpjcaaGreat.P
namespace Go.Proofs.YtilbbemdinpjcaaGreat.P
set_option maxRecDepth 100000
open Go.RowKit Go.Sort
theorem keyed_hash:Tryz.prog.keyTypeAt 5 30=true:=by kernel_rfl
theorem formed_hash (p:List UInt8) (h:p.length=32):(Value.agg (B8 p)).formed Tryz.prog 30=true:=by
 obtain ⟨a0,a1,a2,a3,a4,a5,a6,a7,a8,a9,a10,a11,a12,a13,a14,a15,a16,a17,a18,a19,a20,a21,a22,a23,a24,a25,a26,a27,a28,a29,a30,a31,rfl⟩:=list32 p h
 kernel_rfl
theorem eq_hash (w:World) (p q:List UInt8) (hp:p.length=32) (hq:q.length=32):(Op.equalIn 10000 30 (.agg (B8 p)) (.agg (B8 q))).run Tryz.prog w=.ok (decide (p=q)) w:=by
 obtain ⟨r,hr,hi⟩:=run_equalIn_deep 9995 5 30 keyed_hash w 5 5 (.agg (B8 p)) (.agg (B8 q)) _ _ (formed_hash p hp) (formed_hash q hq) (litsH 3 p hp) (litsH 3 q hq)
 have e:r=decide (p=q):=by
  rw [Bool.eq_iff_iff,decide_eq_true_iff,hi]
  exact ⟨map_u8_inj,fun e=>by rw [e]⟩
 rw [← e]
 exact hr
structure Ot where
 prog:Bool
 ah:List UInt8
 v:Va
 kind:Int
 dh:List UInt8
 tp:Option Addr
 ns:List T.Nd
 tc:Nat
def otC (o:Ot):Array Value:=#[.bool o.prog] ++ B8 o.ah ++ #[.int .i64 o.v.coin,.slice o.v.pa o.v.l.length o.v.c,.int .i64 o.kind] ++ B8 o.dh ++ #[.slice o.tp o.ns.length o.tc]
structure OtOk (w:World) (o:Ot):Prop where
 ah:o.ah.length=32
 v:VaOk w o.v
 dh:o.dh.length=32
 t:T.TAt w o.tp o.ns
 tc:o.ns.length≤o.tc
theorem OtOk.below {w w':World} {o:Ot} {B:Nat} (h:OtOk w o) (hb:Below B w w') (hB:w.heap.size≤B):OtOk w' o:=⟨h.ah,⟨h.v.1,h.v.2.1,h.v.2.2.below hb hB⟩,h.dh,h.t.below hb hB,h.tc⟩
theorem otC_size (o:Ot) (h1:o.ah.length=32) (h2:o.dh.length=32):(otC o).size=69:=by simp [otC,B8_size,h1,h2]
theorem otC_one (o:Ot):(otC o).all (·.oneCell')=true:=by
 unfold otC
 simp only [Array.all_append,B8_one]
 simp [Value.oneCell']
theorem otC_list (o:Ot):otC o=(Value.bool o.prog :: ((B8 o.ah).toList ++ (Value.int .i64 o.v.coin :: Value.slice o.v.pa o.v.l.length o.v.c :: Value.int .i64 o.kind :: ((B8 o.dh).toList ++ [Value.slice o.tp o.ns.length o.tc])))).toArray:=by
 simp [otC]
theorem otC_head (o:Ot) (h1:o.ah.length=32):(otC o)[33]? = some (.int .i64 o.v.coin)∧(otC o)[34]? = some (.slice o.v.pa o.v.l.length o.v.c)∧(otC o)[35]? = some (.int .i64 o.kind):=by
 have hl:(B8 o.ah).toList.length=32:=by rw [Array.length_toList,B8_size,h1]
 rw [otC_list]
 refine ⟨?_,?_,?_⟩ <;> rw [List.getElem?_toArray,List.getElem?_cons_succ,List.getElem?_append_right (by omega),hl] <;> rfl
theorem otC_tail (o:Ot) (h1:o.ah.length=32) (h2:o.dh.length=32):(otC o)[68]? = some (.slice o.tp o.ns.length o.tc):=by
 have hl:(B8 o.ah).toList.length=32:=by rw [Array.length_toList,B8_size,h1]
 have hm:(B8 o.dh).toList.length=32:=by rw [Array.length_toList,B8_size,h2]
 rw [otC_list,List.getElem?_toArray,List.getElem?_cons_succ,List.getElem?_append_right (by omega),hl]
 show (Value.int .i64 o.v.coin :: Value.slice o.v.pa o.v.l.length o.v.c :: Value.int .i64 o.kind :: ((B8 o.dh).toList ++ [Value.slice o.tp o.ns.length o.tc]))[35]? = _
 rw [List.getElem?_cons_succ,List.getElem?_cons_succ,List.getElem?_cons_succ,List.getElem?_append_right (by omega),hm]
 rfl
theorem otC_dh (o:Ot) (h1:o.ah.length=32) (j:Nat) (v:Value) (h:(B8 o.dh).toList[j]? = some v):(otC o)[36+j]? = some v:=by
 have hl:(B8 o.ah).toList.length=32:=by rw [Array.length_toList,B8_size,h1]
 have hj:=(List.getElem?_eq_some_iff.1 h).1
 rw [otC_list,List.getElem?_toArray,show 36+j=(35+j)+1 by omega,List.getElem?_cons_succ,List.getElem?_append_right (by omega),hl,show 35+j - 32=j+1+1+1 by omega,List.getElem?_cons_succ,List.getElem?_cons_succ,List.getElem?_cons_succ,List.getElem?_append_left hj]
 exact h
structure OtAt (w:World) (g off:Nat) (o:Ot):Prop where
 coin:w.cell? ⟨g,off+33,none⟩=some (.int .i64 o.v.coin)
 assets:w.cell? ⟨g,off+34,none⟩=some (.slice o.v.pa o.v.l.length o.v.c)
 kind:w.cell? ⟨g,off+35,none⟩=some (.int .i64 o.kind)
 dh:w.rangeAt g (off+36) (B8 o.dh).toList
 term:w.cell? ⟨g,off+68,none⟩=some (.slice o.tp o.ns.length o.tc)
theorem otAt_of {w:World} {g off:Nat} {o:Ot} (h:w.rangeAt g off (otC o).toList) (h1:o.ah.length=32) (h2:o.dh.length=32):OtAt w g off o:=by
 have key:∀ j v,(otC o)[j]? = some v→w.cell? ⟨g,off+j,none⟩=some v:=fun j v hv=>h j v (by rw [Array.getElem?_toList];exact hv)
 obtain ⟨a,b,c⟩:=otC_head o h1
 exact ⟨key _ _ a,key _ _ b,key _ _ c,fun j v hv=>by rw [Nat.add_assoc];exact key _ _ (otC_dh o h1 j v hv),key _ _ (otC_tail o h1 h2)⟩
theorem lies_range {w:World} {g:Nat} {cs:Array Value} {t:TypeId} (h:Lies w g cs t):w.rangeAt g 0 cs.toList:=fun j v hv=>by
 rw [Nat.zero_add]
 exact h.cell j (by rw [← Array.getElem?_toList];exact hv)
theorem lies_at {w:World} {g:Nat} {o:Ot} {t:TypeId} (h:Lies w g (otC o) t) (h1:o.ah.length=32) (h2:o.dh.length=32):OtAt w g 0 o:=otAt_of (lies_range h) h1 h2
def zeroH:List UInt8:=List.replicate 32 0
def haveB (o:Ot):Bool :=
 if o.kind=0 then decide (o.dh=zeroH) && decide (o.ns.length=0)
 else if o.kind=1 then decide (o.ns.length=0)
 else if o.kind=2 then decide (o.dh=zeroH) && T.rightB o.ns
 else false
theorem must1 (U:World) (a:Bool):Calls Tryz.prog 62 #[.slice (some ⟨U.heap.size,0,none⟩) 1 1] (U.alloc (.cells #[.bool a] 4)) fun e w'=>Must a e∧Below U.heap.size U w':=by
 have h:=must_any (U.alloc (.cells #[.bool a] 4)) U.heap.size 1 4 [a] (Lies.new _ _ _) (by simp)
 have hb:Below U.heap.size U (U.alloc (.cells #[.bool a] 4)):=(Below.refl _ _).alloc (Nat.le_refl _) _
 rw [show [a].all id=a by simp] at h
 exact h.mono fun e w' k=>⟨k.1,hb.trans (k.2.mono hb.size)⟩
theorem must2 (U:World) (a b:Bool):Calls Tryz.prog 62 #[.slice (some ⟨U.heap.size,0,none⟩) 2 2] (U.alloc (.cells #[.bool a,.bool b] 4)) fun e w'=>Must (a && b) e∧Below U.heap.size U w':=by
 have h:=must_any (U.alloc (.cells #[.bool a,.bool b] 4)) U.heap.size 2 4 [a,b] (Lies.new _ _ _) (by simp)
 have hb:Below U.heap.size U (U.alloc (.cells #[.bool a,.bool b] 4)):=(Below.refl _ _).alloc (Nat.le_refl _) _
 rw [show [a,b].all id=(a && b) by simp] at h
 exact h.mono fun e w' k=>⟨k.1,hb.trans (k.2.mono hb.size)⟩
theorem must3 (U:World) (a b c:Bool):Calls Tryz.prog 62 #[.slice (some ⟨U.heap.size,0,none⟩) 3 3] (U.alloc (.cells #[.bool a,.bool b,.bool c] 4)) fun e w'=>Must (a && b && c) e∧Below U.heap.size U w':=by
 have h:=must_any (U.alloc (.cells #[.bool a,.bool b,.bool c] 4)) U.heap.size 3 4 [a,b,c] (Lies.new _ _ _) (by simp)
 have hb:Below U.heap.size U (U.alloc (.cells #[.bool a,.bool b,.bool c] 4)):=(Below.refl _ _).alloc (Nat.le_refl _) _
 rw [show [a,b,c].all id=(a && b && c) by simp [Bool.and_assoc]] at h
 exact h.mono fun e w' k=>⟨k.1,hb.trans (k.2.mono hb.size)⟩
end Go.Proofs.YtilbbemdinpjcaaGreat.P
namespace Go.Proofs.YtilbbemdinpjcaaGreat.P
set_option maxRecDepth 100000
open Go.RowKit Go.Sort
attribute [-go_sem] Instr.build
theorem built_zeroH:Tryz.prog.built 30 []=some (B8 zeroH):=by kernel_rfl
theorem mustHave_any (w:World) (o:Ot) (h:OtOk w o) :
  Calls Tryz.prog 64 #[.agg (otC o)] w fun e w'=>Must (haveB o) e∧Below w.heap.size w w':=by
 obtain ⟨ov,hov⟩:∃ v,v=otC o:=⟨_,rfl⟩
 have hL:Lies (w.alloc (.cells ov 35)) w.heap.size (otC o) 35:=by rw [hov];exact Lies.new _ _ _
 have hb0:Below w.heap.size w (w.alloc (.cells ov 35)):=(Below.refl _ _).alloc (Nat.le_refl _) _
 have hO:=h.below hb0 (Nat.le_refl _)
 rw [← hov]
 clear hov h
 obtain ⟨noT,hnT⟩:∃ b,b=decide (o.ns.length=0):=⟨_,rfl⟩
 obtain ⟨noH,hnH⟩:∃ b,b=decide (o.dh=zeroH):=⟨_,rfl⟩
 obtain ⟨rT,hrT⟩:∃ b,b=T.rightB o.ns:=⟨_,rfl⟩
 obtain ⟨hv,hhv⟩:∃ v,v=B8 o.dh:=⟨_,rfl⟩
 obtain ⟨zv,hzv⟩:∃ v,v=B8 zeroH:=⟨_,rfl⟩
 have heq:∀ W,(Op.equalIn 10000 30 (.agg hv) (.agg zv)).run Tryz.prog W=.ok noH W:=fun W=>by
  rw [hhv,hzv,hnH];exact eq_hash W _ _ hO.dh (by decide)
 have hbld:∀ W,(Instr.build 30 #[]).run Tryz.prog W=.ok (.agg zv) W:=fun W=>by rw [hzv];exact run_build W 30 _ _ built_zeroH
 obtain ⟨n,hn⟩:∃ n,n=o.ns.length:=⟨_,rfl⟩
 have hlen:((n:Int) == 0)=noT:=by
  rw [hnT,hn,Bool.eq_iff_iff,beq_iff_eq,decide_eq_true_iff];omega
 have HS:Hid (∀ V,Below (w.alloc (.cells ov 35)).heap.size (w.alloc (.cells ov 35)) V→V.rangeAt w.heap.size 36 hv.toList∧V.cell? ⟨w.heap.size,68,none⟩=some (.slice o.tp n o.tc)∧V.cell? ⟨w.heap.size,35,none⟩=some (.int .i64 o.kind)):=Hj fun V hV=>by
  have h1:=lies_at (hL.below hV hL.lt) hO.ah hO.dh
  rw [hhv,hn]
  exact ⟨by simpa using h1.dh,by simpa using h1.term,by simpa using h1.kind⟩
 have HT:Hid (∀ V,Below (w.alloc (.cells ov 35)).heap.size (w.alloc (.cells ov 35)) V→Calls Tryz.prog 118 #[.agg #[.slice o.tp n o.tc]] V fun e w'=>e=.returned (.bool rT)∧Below V.heap.size V w'):=Hj fun V hV=>by
  rw [hrT,hn]
  exact T.rightT_any V o.tp o.tc o.ns (hO.t.below hV (Nat.le_refl _)) hO.tc
 have hsz:hv.size=32:=by rw [hhv,B8_size,hO.dh]
 have hinfo:(Tryz.prog.info? 30).map (·.size)=some hv.size:=by rw [hsz];exact info_hash
 have HB:=Hj (Aj hb0 (show haveB o=if o.kind=0 then noH && noT else if o.kind=1 then noT else if o.kind=2 then noH && rT else false by unfold haveB;rw [← hnH,← hnT,← hrT]))
 have HM:=Hj (Aj must1 must2)
 obtain ⟨kd,hkd⟩:∃ k,k=o.kind:=⟨_,rfl⟩
 rw [← hkd] at HS HB
 clear hL hb0 hO hnT hnH hrT hhv hzv hn hsz hkd
 go_enter Tryz.func64,Tryz.ntmps64
 go_upto_region 1 with fail
 generalize w.alloc (.cells ov 35)=W0 at HS HT HB ⊢
 obtain ⟨g,hg⟩:∃ g,g=w.heap.size:=⟨_,rfl⟩
 rw [← hg] at HS ⊢
 clear hg
 refine wp_region_held (S:=Below W0.heap.size W0) (by kernel_rfl) ?_
 change wpAnyH _ _ _ _ _ 11 _ _ (World.drew W0)
 have hcur:Below W0.heap.size W0 W0.drew:=(Below.refl _ _).drew
 refine tk 0 (.pointer (some ⟨g,36,none⟩)) 4 rfl rfl hcur ?_
 refine tk 1 (.agg hv) 5 rfl rfl hcur ?_ (by intro w' hS';exact exec_loadM 30 (.tmp 4) rfl g 36 rfl hv (HS.out w' hS').1 Tryz.underlying30 rfl hinfo)
 refine tk 2 (.agg zv) 6 rfl rfl hcur ?_ (by intro w' hS';unfold execOp;simp [go_sem,hbld])
 refine tk 3 (.bool noH) 7 rfl rfl hcur ?_ (by intro w' hS';unfold execOp;simp [go_sem,heq])
 refine tk 4 (.pointer (some ⟨g,68,none⟩)) 8 rfl rfl hcur ?_
 refine tk 5 (.pointer (some ⟨g,68,none⟩)) 9 rfl rfl hcur ?_
 refine tk 6 (.slice o.tp n o.tc) 10 rfl rfl hcur ?_ (by intro w' hS';have c0:=(HS.out w' hS').2.1;unfold execOp;simp [go_sem,c0])
 refine tk 7 (.int .i64 (n:Int)) 11 rfl rfl hcur ?_
 refine tk 8 (.bool noT) 12 rfl rfl hcur ?_ (by intro w' hS';unfold execOp;simp [go_sem,hlen])
 refine tk 9 (.bool noH) 2 rfl rfl hcur ?_
 refine tk 10 (.bool noT) 3 rfl rfl hcur ?_
 refine held_done (by kernel_rfl) ?_
 generalize W0.drew=W1 at hcur ⊢
 have c35:=(HS.out _ hcur).2.2
 have c68:=(HS.out _ hcur).2.1
 have H1:=Hj (Aj hcur (HB.out.1.trans (hcur.mono HB.out.1.size)))
 clear heq hbld hlen hinfo hcur
 by_cases k0:kd=0
 ·
  go_wp2_with fail
  refine (HM.out.2 _ _ _).mono ?_
  rintro e U ⟨hm,hb⟩
  have HU:=Hj (H1.out.2.trans (hb.mono H1.out.2.size))
  have hh:=HB.out.2
  rw [if_pos k0] at hh
  have HH:=Hj hh
  clear hb hh k0
  rcases hm with ⟨hx,rfl⟩ | ⟨hx,m,rfl⟩
  ·
   go_wp2_with fail
   go_end0
   exact ⟨.inl ⟨by rw [HH.out];exact hx,rfl⟩,HU.out⟩
  ·
   go_wp2_with fail
   exact ⟨rfl,.inr ⟨by rw [HH.out];exact hx,m,rfl⟩,HU.out⟩
 ·
  by_cases k1:kd=1
  ·
   go_wp2_with fail
   refine (HM.out.1 _ _).mono ?_
   rintro e U ⟨hm,hb⟩
   have HU:=Hj (H1.out.2.trans (hb.mono H1.out.2.size))
   have hh:=HB.out.2
   rw [if_neg k0,if_pos k1] at hh
   have HH:=Hj hh
   clear hb hh k0 k1
   rcases hm with ⟨hx,rfl⟩ | ⟨hx,m,rfl⟩
   ·
    go_wp2_with fail
    go_end0
    exact ⟨.inl ⟨by rw [HH.out];exact hx,rfl⟩,HU.out⟩
   ·
    go_wp2_with fail
    exact ⟨rfl,.inr ⟨by rw [HH.out];exact hx,m,rfl⟩,HU.out⟩
  ·
   by_cases k2:kd=2
   ·
    go_wp2_with fail
    refine (HT.out _ H1.out.1).mono ?_
    rintro e U1 ⟨rfl,hb1⟩
    have HU1:=Hj (H1.out.2.trans (hb1.mono H1.out.2.size))
    clear hb1
    go_wp2_with fail
    refine (HM.out.2 _ _ _).mono ?_
    rintro e U ⟨hm,hb⟩
    have HU:=Hj (HU1.out.trans (hb.mono HU1.out.size))
    have hh:=HB.out.2
    rw [if_neg k0,if_neg k1,if_pos k2] at hh
    have HH:=Hj hh
    clear hb hh k0 k1 k2
    rcases hm with ⟨hx,rfl⟩ | ⟨hx,m,rfl⟩
    ·
     go_wp2_with fail
     go_end0
     exact ⟨.inl ⟨by rw [HH.out];exact hx,rfl⟩,HU.out⟩
    ·
     go_wp2_with fail
     exact ⟨rfl,.inr ⟨by rw [HH.out];exact hx,m,rfl⟩,HU.out⟩
   ·
    have hh:=HB.out.2
    rw [if_neg k0,if_neg k1,if_neg k2] at hh
    have HH:=Hj hh
    clear hh
    go_wp2_with fail
    exact ⟨rfl,.inr ⟨HH.out,4,rfl⟩,H1.out.2⟩
end Go.Proofs.YtilbbemdinpjcaaGreat.P
namespace Go.Proofs.YtilbbemdinpjcaaGreat.P
set_option maxRecDepth 100000
open Go.RowKit Go.Sort
def rightOB (o:Ot):Bool:=rightV o.v && haveB o
theorem info_output:(Tryz.prog.info? 35).map (·.size)=some 69:=by kernel_rfl
theorem callFn (K:Nat) {fn:Func} (hf:Tryz.prog.funcs[K]? = some fn) (hn:(fn.name == "runtime.NumGoroutine")=false) {c:Code} (hb:fn.body=some c) (args:Array Value):∀ w:World,(callFunc K args).run Tryz.prog w=.ok (.enter K args) w:=fun w=>enter_of hf hn hb args w
theorem rightO1_any (w:World) (p:Nat) (o:Ot) (hL:Lies w p (otC o) 35) (h:OtOk w o) :
  Calls Tryz.prog 61 #[.pointer (some ⟨p,0,none⟩)] w fun e w'=>Must (rightOB o) e∧Below w.heap.size w w':=by
 have h1:=lies_at hL h.ah h.dh
 have c33:w.cell? ⟨p,33,none⟩=some (.int .i64 o.v.coin):=by simpa using h1.coin
 have c34:w.cell? ⟨p,34,none⟩=some (.slice o.v.pa o.v.l.length o.v.c):=by simpa using h1.assets
 have hr:=right_any w o.v.coin o.v.pa o.v.l o.v.c h.v.2.2
 obtain ⟨b,hbb⟩:∃ b,b=rightV o.v:=⟨_,rfl⟩
 have hr:Calls Tryz.prog 63 #[.agg #[.int .i64 o.v.coin,.slice o.v.pa o.v.l.length o.v.c]] w fun e w'=>e=.returned (.bool b)∧Below w.heap.size w w':=by rw [hbb];exact hr
 obtain ⟨ov,hov⟩:∃ v,v=otC o:=⟨_,rfl⟩
 have hsz:ov.size=69:=by rw [hov];exact otC_size o h.ah h.dh
 have HM:Hid (∀ V,Below w.heap.size w V→Calls Tryz.prog 64 #[.agg ov] V fun e w'=>Must (haveB o) e∧Below V.heap.size V w'):=Hj fun V hV=>by rw [hov];exact mustHave_any V o (h.below hV (Nat.le_refl _))
 have HL:Hid (∀ V,Below w.heap.size w V→Lies V p ov 35):=Hj fun V hV=>by rw [hov];exact hL.below hV hL.lt
 have HI:=Hj (show (Tryz.prog.info? 35).map (·.size)=some ov.size by rw [hsz];exact info_output)
 have HR:=Hj hr
 have HB:=Hj (show rightOB o=(b && haveB o) by unfold rightOB;rw [← hbb])
 clear hL h h1 hr hbb hov hsz
 go_enter Tryz.func61,Tryz.ntmps61
 go_wp2_with fail
 refine HR.out.mono ?_
 rintro e U1 ⟨rfl,hb1⟩
 have H1:=Hj hb1
 clear hb1 c33 c34
 go_wp2_with fail
 refine (must1 _ _).mono ?_
 rintro e U2 ⟨hm,hb2⟩
 have H2:=Hj (H1.out.trans (hb2.mono H1.out.size))
 clear hb2
 rcases hm with ⟨hx,rfl⟩ | ⟨hx,m,rfl⟩
 ·
  have HX:=Hj hx
  clear hx
  go_wp2_with (refine wpList_load_row rfl 35 _ rfl p rfl 35 ov (0,0) _ (HL.out _ H2.out) Tryz.underlying35 rfl HI.out ?_)
  refine (HM.out _ H2.out).mono ?_
  rintro e U3 ⟨hm,hb3⟩
  have H3:=Hj (H2.out.trans (hb3.mono H2.out.size))
  clear hb3
  rcases hm with ⟨hy,rfl⟩ | ⟨hy,m,rfl⟩
  ·
   have HY:=Hj hy
   clear hy
   go_wp2_with fail
   go_end0
   exact ⟨.inl ⟨by rw [HB.out,HX.out,HY.out];rfl,rfl⟩,H3.out⟩
  ·
   have HY:=Hj hy
   clear hy
   go_wp2_with fail
   exact ⟨rfl,.inr ⟨by rw [HB.out,HX.out,HY.out];rfl,m,rfl⟩,H3.out⟩
 ·
  have HX:=Hj hx
  clear hx
  go_wp2_with fail
  exact ⟨rfl,.inr ⟨by rw [HB.out,HX.out];rfl,m,rfl⟩,H2.out⟩
theorem rightOutput_any (w:World) (o:Ot) (h:OtOk w o) :
  Calls Tryz.prog 13 #[.agg (otC o)] w fun e w'=>e=.returned (.bool (rightOB o))∧Below w.heap.size w w':=by
 have hmf:∀ (fn:Fn) (first cap:Array Value) (w:World),(Instr.makeFunc fn first cap).run Tryz.prog w=.ok (.func fn first cap) w:=fun _ _ _ _=>rfl
 obtain ⟨ov,hov⟩:∃ v,v=otC o:=⟨_,rfl⟩
 have hL:Lies (w.alloc (.cells ov 35)) w.heap.size ov 35:=Lies.new _ _ _
 have hb0:Below w.heap.size w (w.alloc (.cells ov 35)):=(Below.refl _ _).alloc (Nat.le_refl _) _
 have hm:=met_any (w.alloc (.cells ov 35)) 61 #[.pointer (some ⟨w.heap.size,0,none⟩)] (rightOB o) (callFn _ Tryz.func61 (by kernel_rfl) rfl _) (fun w1 hw1=>rightO1_any w1 w.heap.size o (by rw [← hov];exact hL.below hw1 hL.lt) (h.below (hb0.trans (hw1.mono hb0.size)) (Nat.le_refl _)))
 rw [← hov]
 have HM:=Hj (Aj hm hb0)
 obtain ⟨b,hb⟩:∃ b,b=rightOB o:=⟨_,rfl⟩
 rw [← hb] at HM ⊢
 clear hm hb0 hL hov h hb
 go_enter Tryz.func13,Tryz.ntmps13
 go_wp2_with fail
 refine HM.out.1.mono ?_
 rintro e U ⟨rfl,hb⟩
 have HU:=Hj (HM.out.2.trans (hb.mono HM.out.2.size))
 clear hb
 go_wp2_with fail
 go_ret
 exact ⟨rfl,HU.out⟩
end Go.Proofs.YtilbbemdinpjcaaGreat.P
