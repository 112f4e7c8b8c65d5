/-
  Order (13) and Same (17).
-/
import Derived.Test.YtilbbemdinpjcaaGreatJTTlb
import Derived.Deep.CutRange
set_option maxHeartbeats 16000000
namespace Go.Proofs.YtilbbemdinpjcaaGreat.T
open Go.RowKit
theorem catchB_panicking (p q:Addr) (x:Bool) (y:Value) (u:TypeId) (pv:Value) (older:List PanicEntry) (w:World) (hp:w.cell? p=some (Value.bool x)) (hc:w.cell? q=some y) (hz:w.frozen? q=false) :
  CallsD Tryz.prog 277 #[.pointer (some p),.pointer (some q)] (.panicking ({ v:=.iface u pv,recovered:=false } :: older)) w fun e u' w' =>
   e=.returned (.tuple #[])∧u'=.panicking ({ v:=.iface u pv,recovered:=true } :: older)∧w'=w.setCell q (Value.bool x):=by
 refine callsD_of_wpS Tryz.func277 rfl fun c₀ cs hu => ?_
 apply wpS_seq
 apply wpS_region
 simp [wpOpsS,go_sem,recoverD,hu,Tryz.ntmps277,Exit.thenS]
 refine wpS_cond (t:=true) (by simp [Act.eval,Array.replicate]) ?_
 simp only [if_true]
 apply wpS_region
 simp [wpOpsS,go_sem,hp,hc,hz,bodyPostS,results,Tryz.results277]
theorem catchB_idle (p q:Addr) (w:World) :
  CallsD Tryz.prog 277 #[.pointer (some p),.pointer (some q)] .returning w fun e u' w'=>e=.returned (.tuple #[])∧u'=.returning∧w'=w:=by
 refine callsD_of_wpS Tryz.func277 rfl fun c₀ cs hu => ?_
 apply wpS_seq
 apply wpS_region
 simp [wpOpsS,go_sem,recoverD,hu,Tryz.ntmps277,Exit.thenS]
 refine wpS_cond (t:=false) (by simp [Act.eval,Array.replicate]) ?_
 simp only [Bool.false_eq_true,if_false]
 refine wpS_of_wp (wp_skip ?_)
 cases c₀
 simp_all [bodyPostS,results,Tryz.results277]
set_option maxRecDepth 100000 in
theorem askB_ok (w:World) (x r:Bool) (K:Nat) (cap:Array Value)
  (hK:∀ w:World,(callFunc K cap).run Tryz.prog w=.ok (.enter K cap) w) (hbe:∀ w1,Below w.heap.size w w1→Calls Tryz.prog K cap w1 fun e w2=>e=.returned (Value.bool r)∧Below w1.heap.size w1 w2) :
  Calls Tryz.prog 241 #[Value.bool x,.func (Fn.func K) #[] cap] w fun e w'=>e=.returned (Value.bool r)∧Below w.heap.size w w':=by
 have hmf:∀ (fn:Fn) (first cap:Array Value) (w:World),(Instr.makeFunc fn first cap).run Tryz.prog w=.ok (.func fn first cap) w:=fun _ _ _ _=>rfl
 have hb:Below w.heap.size w ((w.alloc (.cells #[Value.bool x] 4)).alloc (.cells #[Value.bool false] 4)):=((Below.refl _ _).alloc (Nat.le_refl _) _).alloc (by simp) _
 have hc2:=hbe _ hb
 have HC:=Lib.hid hc2
 have HB:=Lib.hid hb
 clear hb hc2 hbe
 go_enter_defers Tryz.func241,Tryz.ntmps241
 go_wp2_with fail
 refine HC.out.mono ?_
 rintro e w2 ⟨rfl,hb2⟩
 have hz2:w.heap.size+1 < w2.heap.size:=by have:=hb2.size;simp at this;omega
 obtain ⟨hcc,hff⟩:=bcell hb2
 have k1:w2.cell? ⟨w.heap.size+1,0,none⟩=some (Value.bool false):=by rw [hcc _ _ (by simp)];simp [go_sem]
 have k2:w2.frozen? ⟨w.heap.size+1,0,none⟩=false:=by rw [hff _ _ (by simp)];simp [go_sem]
 have HB2:=Lib.hid hb2
 clear hcc hff hb2
 go_wp2_with fail
 refine leaves_cons (f:=277) (args:=#[.pointer (some ⟨w.heap.size,0,none⟩),.pointer (some ⟨w.heap.size+1,0,none⟩)]) (by simp) (by simp [go_sem]) ?_
 refine (catchB_idle ⟨w.heap.size,0,none⟩ ⟨w.heap.size+1,0,none⟩ _).mono ?_
 rintro e u' w'' ⟨rfl,rfl,hw⟩
 subst hw
 simp [Leaves,settle,results,Tryz.results241,go_sem,k1]
 exact ((HB.out.trans (HB2.out.mono (by simp;omega))).setCell (by simp) _)
set_option maxRecDepth 100000 in
theorem askB_thrown (w:World) (x:Bool) (K:Nat) (cap:Array Value)
  (hK:∀ w:World,(callFunc K cap).run Tryz.prog w=.ok (.enter K cap) w) (hbe:∀ w1,Below w.heap.size w w1→Calls Tryz.prog K cap w1 fun e w2=>ThrownT e∧Below w1.heap.size w1 w2) :
  Calls Tryz.prog 241 #[Value.bool x,.func (Fn.func K) #[] cap] w fun e w'=>e=.returned (Value.bool x)∧Below w.heap.size w w':=by
 have hmf:∀ (fn:Fn) (first cap:Array Value) (w:World),(Instr.makeFunc fn first cap).run Tryz.prog w=.ok (.func fn first cap) w:=fun _ _ _ _=>rfl
 have hb:Below w.heap.size w ((w.alloc (.cells #[Value.bool x] 4)).alloc (.cells #[Value.bool false] 4)):=((Below.refl _ _).alloc (Nat.le_refl _) _).alloc (by simp) _
 have hc2:=hbe _ hb
 have HC:=Lib.hid hc2
 have HB:=Lib.hid hb
 clear hb hc2 hbe
 go_enter_defers Tryz.func241,Tryz.ntmps241
 go_wp2_with fail
 refine HC.out.mono ?_
 rintro e w2 ⟨⟨v,rfl⟩,hb2⟩
 have hz2:w.heap.size+1 < w2.heap.size:=by have:=hb2.size;simp at this;omega
 obtain ⟨hcc,hff⟩:=bcell hb2
 have k0:w2.cell? ⟨w.heap.size,0,none⟩=some (Value.bool x):=by rw [hcc _ _ (by simp;omega)];simp [go_sem]
 have k1:w2.cell? ⟨w.heap.size+1,0,none⟩=some (Value.bool false):=by rw [hcc _ _ (by simp)];simp [go_sem]
 have k2:w2.frozen? ⟨w.heap.size+1,0,none⟩=false:=by rw [hff _ _ (by simp)];simp [go_sem]
 have HB2:=Lib.hid hb2
 clear hcc hff hb2
 go_wp2_with fail
 refine leaves_cons (f:=277) (args:=#[.pointer (some ⟨w.heap.size,0,none⟩),.pointer (some ⟨w.heap.size+1,0,none⟩)]) (by simp) (by simp [go_sem]) ?_
 refine (catchB_panicking ⟨w.heap.size,0,none⟩ ⟨w.heap.size+1,0,none⟩ x (Value.bool false) 64 _ [] _ k0 k1 k2).mono ?_
 rintro e u' w'' ⟨rfl,rfl,hw⟩
 subst hw
 simp [Leaves,settle,results,Tryz.results241,go_sem,k1]
 exact ((HB.out.trans (HB2.out.mono (by simp;omega))).setCell (by simp) _)
end Go.Proofs.YtilbbemdinpjcaaGreat.T
namespace Go.Proofs.YtilbbemdinpjcaaGreat.T
open Go.RowKit
def layOf (ks:Nat→Int) (n:Nat):Option ((Nat→Nat) × (Nat→Nat)):=match layN ks n n with
 | none=>none
 | some (E,D)=>if 0 < n∧E 0=n then some (E,D) else none
def inOrd (ks:Nat→Int) (n:Nat):Bool:=(layOf ks n).isSome
def deepOf (ks:Nat→Int) (n:Nat):Nat:=match layOf ks n with
 | none=>0
 | some (_,D)=>D 0
theorem layOf_some {ks:Nat→Int} {n:Nat} {E D:Nat→Nat} (h:layOf ks n=some (E,D)):Laid ks n E D:=by
 unfold layOf at h
 cases hl:layN ks n n with
 | none=>rw [hl] at h;cases h
 | some x =>
   obtain ⟨E0,D0⟩:=x
   rw [hl] at h
   simp only at h
   split at h
   · rename_i hc
     cases h
     exact ⟨hc.1,hl,hc.2⟩
   · cases h
theorem layOf_none {ks:Nat→Int} {n:Nat} (h:layOf ks n=none):layN ks n n=none ∨ ∃ E D,layN ks n n=some (E,D)∧(n=0 ∨ E 0≠n):=by
 unfold layOf at h
 cases hl:layN ks n n with
 | none=>exact .inl rfl
 | some x =>
   obtain ⟨E0,D0⟩:=x
   rw [hl] at h
   simp only at h
   split at h
   · cases h
   · rename_i hc
     refine .inr ⟨E0,D0,rfl,?_⟩
     by_cases h0:n=0
     · exact .inl h0
     · exact .inr fun e=>hc ⟨by omega,e⟩
end Go.Proofs.YtilbbemdinpjcaaGreat.T
namespace Go.Proofs.YtilbbemdinpjcaaGreat.T
open Go.RowKit
def aheadR:List Nd→List Nd→Int→Int→Option Int
 | [],_,d,l=>if l≤0 then some d else none
 | x :: xs,ys,d,l=>if l≤0 then some d else match ys with
   | []=>none
   | y :: ys=>if partO x y≠0 then some (partO x y) else if x.kids=y.kids then aheadR xs ys d (l+(x.kids - 1)) else aheadR xs ys (cmpI x.kids y.kids) (min x.kids y.kids)
theorem aheadR_end {xs ys:List Nd} {d l r:Int} (h:aheadR xs ys d l=some r) (hl:l≤0):r=d:=by
 cases xs <;> simp only [aheadR,if_pos hl] at h <;> exact (Option.some.inj h).symm
theorem aheadR_step {xs ys:List Nd} {d l r:Int} (h:aheadR xs ys d l=some r) (hl:0 < l):∃ x xs' y ys',xs=x :: xs'∧ys=y :: ys' ∧
 (partO x y≠0→r=partO x y)∧(partO x y=0→x.kids=y.kids→aheadR xs' ys' d (l+(x.kids - 1))=some r)∧(partO x y=0→x.kids≠y.kids→aheadR xs' ys' (cmpI x.kids y.kids) (min x.kids y.kids)=some r):=by
 have hn:¬ l≤0:=by omega
 cases xs with
 | nil=>simp only [aheadR,if_neg hn] at h;cases h
 | cons x xs' =>
   cases ys with
   | nil=>simp only [aheadR,if_neg hn] at h;cases h
   | cons y ys' =>
     simp only [aheadR,if_neg hn] at h
     refine ⟨x,xs',y,ys',rfl,rfl,fun hp => ?_,fun hp hk => ?_,fun hp hk => ?_⟩
     · rw [if_pos hp] at h;exact (Option.some.inj h).symm
     · rw [if_neg (by simpa using hp),if_pos hk] at h;exact h
     · rw [if_neg (by simpa using hp),if_neg hk] at h;exact h
theorem drop_cons {α:Type} {xs:List α} {j:Nat} {x:α} {l:List α} (h:xs.drop j=x :: l):∃ hj:j < xs.length,xs[j]=x∧xs.drop (j+1)=l:=by
 have hj:j < xs.length:=by
  rcases Nat.lt_or_ge j xs.length with h1 | h1
  ·
   exact h1
  ·
   rw [List.drop_eq_nil_of_le h1] at h;cases h
 rw [List.drop_eq_getElem_cons hj] at h
 exact ⟨hj,(List.cons.inj h).1,(List.cons.inj h).2⟩
def KidsIn (xs:List Nd):Prop:=∀ x ∈ xs,0≤x.kids∧x.kids≤1000000
theorem two_rows (w:World) (A B:Array Value) (t:TypeId):Lies ((w.alloc (.cells A t)).alloc (.cells B t)).drew w.heap.size A t∧Lies ((w.alloc (.cells A t)).alloc (.cells B t)).drew (w.heap.size+1) B t∧Below w.heap.size w ((w.alloc (.cells A t)).alloc (.cells B t)).drew:=by
 have h1:Lies ((w.alloc (.cells A t)).alloc (.cells B t)) w.heap.size A t:=(Lies.new _ _ _).alloc _
 have h2:Lies ((w.alloc (.cells A t)).alloc (.cells B t)) (w.heap.size+1) B t:=by
  have:=Lies.new (w.alloc (.cells A t)) B t
  simpa using this
 exact ⟨h1,h2,(((Below.refl _ _).alloc (Nat.le_refl _) _).alloc (by simp) _).drew⟩
set_option maxRecDepth 100000 in
theorem ahead_any (w:World) (g1 o1 c1 g2 o2 c2:Nat) (xs ys:List Nd) (r:Int) (hx:NAt w g1 o1 xs) (hy:NAt w g2 o2 ys) (hl1:xs.length≤1000000) (hl2:ys.length≤1000000) (hk1:KidsIn xs) (hk2:KidsIn ys)
  (hr:aheadR xs ys 0 1=some r) :
  Calls Tryz.prog 308 #[.slice (some ⟨g1,o1,none⟩) xs.length c1,.slice (some ⟨g2,o2,none⟩) ys.length c2] w fun e w'=>e=.returned (.int .i64 r)∧Below w.heap.size w w':=by
 have H:=Lib.hid (And.intro hx (And.intro hy (And.intro hk1 (And.intro hk2 (And.intro hl1 (And.intro hl2 hr))))))
 clear hx hy hk1 hk2 hr hl1 hl2
 go_enter Tryz.func308,Tryz.ntmps308
 go_wp2_with fail
 go_loopw [5,6,7] (fun e l i W=>∃ (d m:Int) (j:Nat),e=.int .i64 d∧l=.int .i64 m∧i=.int .i64 j∧j≤1000000∧0≤m∧m≤(j+1) * 1000000∧aheadR (xs.drop j) (ys.drop j) d m=some r∧Below w.heap.size w W) (fun _ _ i _=>(1000000 - intOf i).toNat)
 case atStart=>exact ⟨0,1,0,rfl,rfl,rfl,by omega,by omega,by omega,by simpa using H.out.2.2.2.2.2.2,Below.refl _ _⟩
 case round =>
  obtain ⟨d,m,j,rfl,rfl,rfl,hj,hm0,hm1,hah,hb⟩:=hrel
  by_cases hm:0 < m
  ·
   obtain ⟨x,xs',y,ys',ex,ey,a1,a2,a3⟩:=aheadR_step hah hm
   obtain ⟨jx,gx,dx⟩:=drop_cons ex
   obtain ⟨jy,gy,dy⟩:=drop_cons ey
   have kx:=H.out.2.2.1 x (by rw [← gx];exact List.getElem_mem jx)
   have ky:=H.out.2.2.2.1 y (by rw [← gy];exact List.getElem_mem jy)
   have lx:=H.out.2.2.2.2.1
   have ly:=H.out.2.2.2.2.2.1
   subst dx dy
   have hS:∀ V,Below wr.heap.size wr V→V.cell? ⟨g1,o1+j * 5+0,none⟩=some (.int .i64 x.kind)∧V.cell? ⟨g1,o1+j * 5+1,none⟩=some (.int .i64 x.num)∧V.cell? ⟨g1,o1+j * 5+2,none⟩=some (.int .u64 x.bits)∧V.cell? ⟨g1,o1+j * 5+3,none⟩=some (.string x.txt)∧V.cell? ⟨g1,o1+j * 5+4,none⟩=some (.int .i64 x.kids) ∧
     V.cell? ⟨g2,o2+j * 5+0,none⟩=some (.int .i64 y.kind)∧V.cell? ⟨g2,o2+j * 5+1,none⟩=some (.int .i64 y.num)∧V.cell? ⟨g2,o2+j * 5+2,none⟩=some (.int .u64 y.bits)∧V.cell? ⟨g2,o2+j * 5+3,none⟩=some (.string y.txt)∧V.cell? ⟨g2,o2+j * 5+4,none⟩=some (.int .i64 y.kids):=fun V hV=>by
    have hbw:=hb.trans (hV.mono hb.size)
    have n1:=(H.out.1.below hbw H.out.1.1).2 j jx
    have n2:=(H.out.2.1.below hbw H.out.2.1.1).2 j jy
    rw [gx] at n1
    rw [gy] at n2
    exact ⟨n1 0 _ rfl,n1 1 _ rfl,n1 2 _ rfl,n1 3 _ rfl,n1 4 _ rfl,n2 0 _ rfl,n2 1 _ rfl,n2 2 _ rfl,n2 3 _ rfl,n2 4 _ rfl⟩
   have hp:=fun V=>parts_any x y V
   obtain ⟨k1,n1,b1,t1,d1⟩:=x
   obtain ⟨k2,n2,b2,t2,d2⟩:=y
   simp only [Nd.cells,Nat.add_zero] at hS hp kx ky a1 a2 a3
   obtain ⟨pr,hpr⟩:∃ p,p=partO ⟨k1,n1,b1,t1,d1⟩ ⟨k2,n2,b2,t2,d2⟩:=⟨_,rfl⟩
   rw [← hpr] at a1 a2 a3
   simp only [← hpr] at hp
   have HS:=Lib.hid (And.intro hS (And.intro hb (And.intro a1 (And.intro a2 (And.intro a3 (And.intro kx (And.intro ky (And.intro hm1 (And.intro jx jy)))))))))
   have HP:=Lib.hid hp
   have q0:(0:Int)≤(j:Int):=by omega
   have q1:(j:Int) < (xs.length:Int):=by omega
   have q2:(j:Int) < (ys.length:Int):=by omega
   have s0:=hS wr (Below.refl _ _)
   have l1:=H.out.1.1
   have l2:=H.out.2.1.1
   have lw:=hb.size
   have z1:wr.heap.size≠g1:=by omega
   have z2:wr.heap.size≠g2:=by omega
   have z3:wr.heap.size+1≠g1:=by omega
   have z4:wr.heap.size+1≠g2:=by omega
   clear l1 l2 lw
   clear hS hp hb a1 a2 a3 kx ky gx gy ex ey hah hpr hm0 hm1 jx jy hj lx ly
   go_upto_region 5 with fail
   go_cut [8,9] from 11 to 48 (fun u v wx=>∃ p q,u=.pointer (some ⟨p,0,none⟩)∧v=.pointer (some ⟨q,0,none⟩)∧Lies wx p #[.int .i64 k1,.int .i64 n1,.int .u64 b1,.string t1,.int .i64 d1] 72∧Lies wx q #[.int .i64 k2,.int .i64 n2,.int .u64 b2,.string t2,.int .i64 d2] 72∧Below wr.heap.size wr wx)
   case first =>
    go_region_held3 (fun V=>V.cell? ⟨g1,o1+j * 5,none⟩=some (.int .i64 k1)∧V.cell? ⟨g1,o1+j * 5+1,none⟩=some (.int .i64 n1)∧V.cell? ⟨g1,o1+j * 5+2,none⟩=some (.int .u64 b1)∧V.cell? ⟨g1,o1+j * 5+3,none⟩=some (.string t1)∧V.cell? ⟨g1,o1+j * 5+4,none⟩=some (.int .i64 d1) ∧
     V.cell? ⟨g2,o2+j * 5,none⟩=some (.int .i64 k2)∧V.cell? ⟨g2,o2+j * 5+1,none⟩=some (.int .i64 n2)∧V.cell? ⟨g2,o2+j * 5+2,none⟩=some (.int .u64 b2)∧V.cell? ⟨g2,o2+j * 5+3,none⟩=some (.string t2)∧V.cell? ⟨g2,o2+j * 5+4,none⟩=some (.int .i64 d2)) (go_keep) (fail)
    all_goals
     go_wp2_with fail
     go_meet
     case rel =>
      first
       | exact ⟨_,_,rfl,rfl,(two_rows wr _ _ 72).1,(two_rows wr _ _ 72).2.1,(two_rows wr _ _ 72).2.2⟩
       | exact ⟨_,_,rfl,rfl,(two_rows wr _ _ 72).2.1,(two_rows wr _ _ 72).1,(two_rows wr _ _ 72).2.2⟩
   case rest =>
    obtain ⟨p,q,rfl,rfl,y1,y2,hbx⟩:=hcut
    rename World=>wx
    clear s0
    have hS:∀ V,Below wx.heap.size wx V→V.cell? ⟨p,0,none⟩=some (.int .i64 k1)∧V.cell? ⟨p,1,none⟩=some (.int .i64 n1)∧V.cell? ⟨p,2,none⟩=some (.int .u64 b1)∧V.cell? ⟨p,3,none⟩=some (.string t1)∧V.cell? ⟨p,4,none⟩=some (.int .i64 d1) ∧
      V.cell? ⟨q,0,none⟩=some (.int .i64 k2)∧V.cell? ⟨q,1,none⟩=some (.int .i64 n2)∧V.cell? ⟨q,2,none⟩=some (.int .u64 b2)∧V.cell? ⟨q,3,none⟩=some (.string t2)∧V.cell? ⟨q,4,none⟩=some (.int .i64 d2):=fun V hV=>by
     have u1:=y1.below hV y1.lt
     have u2:=y2.below hV y2.lt
     exact ⟨u1.cell 0 rfl,u1.cell 1 rfl,u1.cell 2 rfl,u1.cell 3 rfl,u1.cell 4 rfl,u2.cell 0 rfl,u2.cell 1 rfl,u2.cell 2 rfl,u2.cell 3 rfl,u2.cell 4 rfl⟩
    obtain ⟨s1,s2,s3,s4,s5,s6,s7,s8,s9,s10⟩:=hS wx (Below.refl _ _)
    have HC:=Lib.hid hS
    have HBX:=Lib.hid hbx
    clear hS hbx y1 y2
    go_wp2_with fail
    refine (HP.out _).mono ?_
    rintro e wy ⟨rfl,hby⟩
    clear s1 s2 s3 s4 s5 s6 s7 s8 s9 s10
    obtain ⟨-,-,-,-,v1,-,-,-,-,v2⟩:=HC.out wy hby
    have HBY:=Lib.hid (HBX.out.trans (hby.mono HBX.out.size))
    clear hby
    by_cases hp0:pr=0
    ·
     have hpb:(pr != 0)=false:=by rw [hp0];rfl
     have hm63:m≤1000001000000:=by have:=HS.out.2.2.2.2.2.2.2.1;have:=HS.out.2.2.2.2.2.2.2.2.1;have:=H.out.2.2.2.2.1;omega
     have HBA:=Lib.hid (HS.out.2.1.trans (HBY.out.mono HS.out.2.1.size))
     have hj1:j+1≤1000000:=by have:=HS.out.2.2.2.2.2.2.2.2.1;have:=H.out.2.2.2.2.1;omega
     have ew:IntKind.i64.wrap ((j:Int)+1)=((j+1:Nat):Int):=by rw [IntKind.wrap_i64];omega
     by_cases hd:d1=d2
     ·
      subst hd
      have hdd:(d1 == d1)=true:=by simp
      have hah:=HS.out.2.2.2.1 hp0 rfl
      have HA:=Lib.hid hah
      have e1:IntKind.i64.wrap (d1 - 1)=d1 - 1:=by have:=HS.out.2.2.2.2.2.1;rw [IntKind.wrap_i64];omega
      have e2:IntKind.i64.wrap (m+(d1 - 1))=m+(d1 - 1):=by have:=HS.out.2.2.2.2.2.1;rw [IntKind.wrap_i64];omega
      clear hah hp0
      go_wp2_with fail
      have hk0:=HS.out.2.2.2.2.2.1
      have hml:=HS.out.2.2.2.2.2.2.2.1
      exact ⟨⟨d,m+(d1 - 1),j+1,rfl,rfl,rfl,hj1,by omega,by push_cast;omega,HA.out,HBA.out⟩,by simp [intOf];omega⟩
     ·
      have hdd:(d1 == d2)=false:=by simpa using hd
      have hcm:=fun V=>compareN_any V d1 d2
      obtain ⟨cm,hcmd⟩:∃ c,c=cmpI d1 d2:=⟨_,rfl⟩
      rw [← hcmd] at hcm
      have hah:=HS.out.2.2.2.2.1 hp0 hd
      rw [← hcmd] at hah
      clear hp0
      rcases Int.lt_or_gt_of_ne hd with hlt | hlt
      ·
       have hl2:¬ d2 < d1:=by omega
       have hmin:min d1 d2=d1:=by omega
       have HA:=Lib.hid (And.intro hah hmin)
       clear hah hmin hcmd
       go_wp2_with fail
       go_region_held3 (fun V=>V.cell? ⟨p,4,none⟩=some (.int .i64 d1)∧V.cell? ⟨q,4,none⟩=some (.int .i64 d2)) (go_keep) (first | (with_reducible refine (hcm _).mono ?_;rintro e w1 ⟨rfl,rfl⟩))
       all_goals
        go_wp2_with fail
       all_goals
        have hk0:=HS.out.2.2.2.2.2.1
        have hk1:=HS.out.2.2.2.2.2.2.1
        have hmn:=HA.out.2
        have hj0:=HA.out.1
        refine ⟨⟨cm,_,j+1,rfl,congrArg _ ?_,rfl,hj1,?_,?_,hj0,HBA.out.drew⟩,by simp [intOf];omega⟩
        all_goals first | omega | (split <;> omega) | (push_cast;omega)
      ·
       have hl2:d2 < d1:=by omega
       have hl3:¬ d1 < d2:=by omega
       have hmin:min d1 d2=d2:=by omega
       have HA:=Lib.hid (And.intro hah hmin)
       clear hah hmin hcmd
       go_wp2_with fail
       go_region_held3 (fun V=>V.cell? ⟨p,4,none⟩=some (.int .i64 d1)∧V.cell? ⟨q,4,none⟩=some (.int .i64 d2)) (go_keep) (first | (with_reducible refine (hcm _).mono ?_;rintro e w1 ⟨rfl,rfl⟩))
       all_goals
        go_wp2_with fail
       all_goals
        have hk0:=HS.out.2.2.2.2.2.1
        have hk1:=HS.out.2.2.2.2.2.2.1
        have hmn:=HA.out.2
        have hj0:=HA.out.1
        refine ⟨⟨cm,_,j+1,rfl,congrArg _ ?_,rfl,hj1,?_,?_,hj0,HBA.out.drew⟩,by simp [intOf];omega⟩
        all_goals first | omega | (split <;> omega) | (push_cast;omega)
    ·
     have hpb:(pr != 0)=true:=by simpa using hp0
     have hr1:=HS.out.2.2.1 hp0
     go_wp2_with fail
     go_ret
     exact ⟨by rw [hr1];rfl,HS.out.2.1.trans (HBY.out.mono HS.out.2.1.size)⟩
  ·
   have hme:m=0:=by omega
   subst hme
   have hrd:=aheadR_end hah (by omega)
   subst hrd
   have HB:=Lib.hid hb
   clear hah hb hm hm1 hj
   go_wp2_with fail
   go_ret
   exact ⟨rfl,HB.out⟩
end Go.Proofs.YtilbbemdinpjcaaGreat.T
namespace Go.Proofs.YtilbbemdinpjcaaGreat.T
open Go.RowKit
def steps (E:Nat→Nat) (n:Nat):Nat→Nat→Option Nat
 | 0,p=>some p
 | m+1,p=>if n≤p then none else steps E n m (E p)
theorem steps_add (E:Nat→Nat) (n:Nat):∀ (k m p:Nat),steps E n (k+m) p=(steps E n k p).bind (steps E n m)
 | 0,m,p=>by rw [Nat.zero_add];rfl
 | k+1,m,p=>by
   rw [show k+1+m=(k+m)+1 by omega]
   simp only [steps]
   by_cases h:n≤p
   · rw [if_pos h,if_pos h];rfl
   · rw [if_neg h,if_neg h];exact steps_add E n k m (E p)
theorem walk_steps {E D:Nat→Nat} {n:Nat} (hE:∀ x,E x≤n):∀ (k p d a m:Nat),p≤n→walk E D n k (p,d)=some (a,m)→steps E n k p=some a∧a≤n
 | 0,p,d,a,m,hp,h=>by
   simp only [walk,Option.some.injEq,Prod.mk.injEq] at h
   obtain ⟨rfl,rfl⟩:=h
   exact ⟨rfl,hp⟩
 | k+1,p,d,a,m,hp,h=>by
   simp only [walk] at h
   cases hk:walk E D n k (p,d) with
   | none=>rw [hk] at h;cases h
   | some y =>
     obtain ⟨a0,m0⟩:=y
     rw [hk] at h
     obtain ⟨h1,h2⟩:=walk_steps hE k p d a0 m0 hp hk
     simp only at h
     split at h
     · cases h
     · rename_i hne
       cases h
       refine ⟨?_,hE _⟩
       rw [steps_add E n k 1 p,h1]
       show steps E n 1 a0=_
       simp only [steps]
       rw [if_neg (by omega)]
theorem steps_congr {E E':Nat→Nat} {n q:Nat} (h:∀ x,q≤x→x < n→E x=E' x∧q≤E x):∀ (m p:Nat),q≤p→steps E n m p=steps E' n m p
 | 0,p,_=>rfl
 | m+1,p,hp=>by
   simp only [steps]
   by_cases hn:n≤p
   · rw [if_pos hn,if_pos hn]
   · rw [if_neg hn,if_neg hn]
     have:=h p hp (by omega)
     rw [← this.1]
     exact steps_congr h m (E p) this.2
theorem layN_steps (ks:Nat→Int) (n:Nat):∀ (J:Nat) (E D:Nat→Nat),J≤n→layN ks n J=some (E,D)→∀ i,n - J≤i→i < n→0≤ks i∧steps E n (ks i).toNat (i+1)=some (E i)
 | 0,E,D,_,_,i,h1,h2=>by omega
 | J+1,E,D,hJ,h,i,h1,h2=>by
   cases hl:layN ks n J with
   | none=>simp only [layN,hl] at h;cases h
   | some y =>
     obtain ⟨E0,D0⟩:=y
     obtain ⟨hk,a,m,hw,rfl,rfl⟩:=layN_succ hl h
     have hinv:=layN_inv ks n J E0 D0 (by omega) hl
     have hcg:∀ (m p:Nat),n - J≤p→steps (upd E0 (n - 1 - J) a) n m p=steps E0 n m p:=fun m p hp=>(steps_congr (q:=n - J) (fun x hx hxn=>by
      have e:¬ x=n - 1 - J:=by omega
      have hv:=hinv.2.2 x hx hxn
      refine ⟨?_,by omega⟩
      unfold upd
      rw [if_neg e]) m p hp).symm
     by_cases e:i=n - 1 - J
     · subst e
       refine ⟨hk,?_⟩
       rw [hcg _ _ (by omega)]
       have:=(walk_steps hinv.1 _ _ _ _ _ (by omega) hw).1
       rw [this]
       simp [upd]
     · have ih:=layN_steps ks n J E0 D0 (by omega) hl i (by omega) h2
       refine ⟨ih.1,?_⟩
       rw [hcg _ _ (by omega),ih.2]
       unfold upd
       rw [if_neg e]
theorem laid_steps {ks:Nat→Int} {n:Nat} {E D:Nat→Nat} (h:Laid ks n E D) (i:Nat) (hi:i < n):0≤ks i∧steps E n (ks i).toNat (i+1)=some (E i) :=
 layN_steps ks n n E D (Nat.le_refl _) h.2.1 i (by omega) hi
theorem steps_far {E:Nat→Nat} {n:Nat} (h:∀ x,x < n→x < E x∧E x≤n):∀ (m p a:Nat),p≤n→steps E n m p=some a→p+m≤a∧a≤n
 | 0,p,a,hp,hs=>by
   simp only [steps,Option.some.injEq] at hs
   omega
 | m+1,p,a,hp,hs=>by
   simp only [steps] at hs
   by_cases hn:n≤p
   · rw [if_pos hn] at hs;cases hs
   · rw [if_neg hn] at hs
     have h1:=h p (by omega)
     have:=steps_far h m (E p) a h1.2 hs
     omega
theorem laid_kids {ks:Nat→Int} {n:Nat} {E D:Nat→Nat} (h:Laid ks n E D) (i:Nat) (hi:i < n):0≤ks i∧ks i≤n:=by
 have h1:=laid_steps h i hi
 have hinv:=layN_inv ks n n E D (Nat.le_refl _) h.2.1
 have:=steps_far (fun x hx=>⟨(hinv.2.2 x (by omega) hx).1,hinv.1 x⟩) _ _ _ (by omega) h1.2
 omega
def ksOf (xs:List Nd) (i:Nat):Int:=match xs[i]? with
 | some x=>x.kids
 | none=>0
theorem ksOf_get (xs:List Nd) (i:Nat) (h:i < xs.length):ksOf xs i=xs[i].kids:=by simp [ksOf,h]
theorem kidsIn_of {xs:List Nd} {E D:Nat→Nat} (h:Laid (ksOf xs) xs.length E D) (hn:xs.length≤1000000):KidsIn xs:=fun x hx=>by
 obtain ⟨i,hi,rfl⟩:=List.getElem_of_mem hx
 have:=laid_kids h i hi
 rw [ksOf_get xs i hi] at this
 omega
theorem steps_less {E:Nat→Nat} {n k m p:Nat} (h:(steps E n (k+m) p).isSome=true):(steps E n k p).isSome=true:=by
 rw [steps_add] at h
 cases hs:steps E n k p with
 | none=>rw [hs] at h;cases h
 | some _=>rfl
theorem ahead_told {xs ys:List Nd} {E1 E2:Nat→Nat} (h1:∀ i (h:i < xs.length),0≤xs[i].kids∧steps E1 xs.length xs[i].kids.toNat (i+1)=some (E1 i)) (h2:∀ i (h:i < ys.length),0≤ys[i].kids∧steps E2 ys.length ys[i].kids.toNat (i+1)=some (E2 i)) :
 ∀ (f j m:Nat) (d:Int),xs.length - j≤f→(steps E1 xs.length m j).isSome=true→(steps E2 ys.length m j).isSome=true→∃ r,aheadR (xs.drop j) (ys.drop j) d m=some r
 | _,j,0,d,_,_,_=>⟨d,by cases xs.drop j <;> simp [aheadR]⟩
 | 0,j,m+1,d,hf,s1,_=>by
   simp only [steps] at s1
   rw [if_pos (by omega)] at s1
   cases s1
 | f+1,j,m+1,d,hf,s1,s2=>by
   simp only [steps] at s1 s2
   by_cases hx:xs.length≤j
   · rw [if_pos hx] at s1;cases s1
   by_cases hy:ys.length≤j
   · rw [if_pos hy] at s2;cases s2
   rw [if_neg hx] at s1
   rw [if_neg hy] at s2
   have kx:=h1 j (by omega)
   have ky:=h2 j (by omega)
   have ex:xs.drop j=xs[j] :: xs.drop (j+1):=List.drop_eq_getElem_cons (by omega)
   have ey:ys.drop j=ys[j] :: ys.drop (j+1):=List.drop_eq_getElem_cons (by omega)
   rw [ex,ey]
   have hn:¬ ((m+1:Nat):Int)≤0:=by omega
   simp only [aheadR,if_neg hn]
   by_cases hp:partO xs[j] ys[j]=0
   · rw [if_neg (by simpa using hp)]
     by_cases hk:xs[j].kids=ys[j].kids
     · rw [if_pos hk]
       have e:((m+1:Nat):Int)+(xs[j].kids - 1)=((xs[j].kids.toNat+m:Nat):Int):=by omega
       rw [e]
       refine ahead_told h1 h2 f (j+1) _ d (by omega) ?_ ?_
       · rw [steps_add,kx.2];exact s1
       · rw [steps_add,hk,ky.2];exact s2
     · rw [if_neg hk]
       obtain ⟨t,ht⟩:∃ t:Nat,t=min xs[j].kids.toNat ys[j].kids.toNat:=⟨_,rfl⟩
       have e:min xs[j].kids ys[j].kids=(t:Int):=by omega
       rw [e]
       refine ahead_told h1 h2 f (j+1) t _ (by omega) ?_ ?_
       · refine steps_less (m:=xs[j].kids.toNat - t) ?_
         rw [show t+(xs[j].kids.toNat - t)=xs[j].kids.toNat by omega,kx.2];rfl
       · refine steps_less (m:=ys[j].kids.toNat - t) ?_
         rw [show t+(ys[j].kids.toNat - t)=ys[j].kids.toNat by omega,ky.2];rfl
   · rw [if_pos (by simpa using hp)]
     exact ⟨_,rfl⟩
def inO (xs:List Nd):Bool:=inOrd (ksOf xs) xs.length
theorem inO_laid {xs:List Nd} (h:inO xs=true):∃ E D,Laid (ksOf xs) xs.length E D:=by
 unfold inO inOrd at h
 cases hl:layOf (ksOf xs) xs.length with
 | none=>rw [hl] at h;cases h
 | some y=>exact ⟨y.1,y.2,layOf_some hl⟩
def TAt (w:World) (a:Option Addr) (xs:List Nd):Prop:=(0 < xs.length→∃ g off,a=some ⟨g,off,none⟩∧NAt w g off xs)∧xs.length≤1000000∧∀ x ∈ xs,x.kids≤9223372036854775807
theorem TAt.below {B:Nat} {w w':World} {a:Option Addr} {xs:List Nd} (h:TAt w a xs) (hb:Below B w w') (hB:w.heap.size≤B):TAt w' a xs :=
 ⟨fun h0=>by
  obtain ⟨g,off,h1,h2⟩:=h.1 h0
  exact ⟨g,off,h1,h2.below hb (Nat.lt_of_lt_of_le h2.1 hB)⟩,h.2⟩
theorem TAt.ks {w:World} {a:Option Addr} {xs:List Nd} (h:TAt w a xs):KsAt w a xs.length (ksOf xs):=fun i hi=>by
 obtain ⟨g,off,h1,h2⟩:=h.1 (by omega)
 refine ⟨g,off,h1,h2.1,?_,?_⟩
 ·
  rw [ksOf_get xs i hi];exact h2.2 i hi 4 _ rfl
 ·
  rw [ksOf_get xs i hi];exact h.2.2 _ (List.getElem_mem hi)
end Go.Proofs.YtilbbemdinpjcaaGreat.T
namespace Go.Proofs.YtilbbemdinpjcaaGreat.T
open Go.RowKit
end Go.Proofs.YtilbbemdinpjcaaGreat.T
