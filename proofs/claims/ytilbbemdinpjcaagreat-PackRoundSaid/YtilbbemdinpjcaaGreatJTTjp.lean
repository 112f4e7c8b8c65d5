/-
  Two terms that are joined in one statement, in whatever order: two rows made, two calls, two blocks, two stores.
-/
import Derived.Test.YtilbbemdinpjcaaGreatJTTfo
import Derived.Test.YtilbbemdinpjcaaGreatProg
import Derived.Laws.Cover3
import Derived.Maps.AppendAt
import Derived.WalkSpells
import Derived.Laws.AppendOwnNone
import Derived.Laws.Rows
import Derived.Deep.RegionLaw
import Derived.Deep.AppendLies
import Derived.Lib.QuietBelow
set_option maxHeartbeats 16000000
namespace Go.Proofs.YtilbbemdinpjcaaGreat.T
open Go.RowKit
def endsT (xs:List Nd):Nat→Nat:=match layOf (ksOf xs) xs.length with
 | none=>fun _=>0
 | some (E,_)=>E
def fitsB (xs:List Nd) (most deep:Int):Bool:=decide ((xs.length:Int)≤most) && (inO xs && (decide ((deepT xs:Int)≤deep) && kindsB xs (endsT xs)))
set_option maxRecDepth 100000 in
theorem clo62_ok (w:World) (p q:Nat) (a:Option Addr) (nc:Nat) (xs:List Nd) (deep:Int) (E D:Nat→Nat) (hp:w.cell? ⟨p,0,none⟩=some (.slice a xs.length nc)) (hq:w.cell? ⟨q,0,none⟩=some (.int .i64 deep)) (hplt:q < w.heap.size) (hk:TAt w a xs) (hc:xs.length≤nc) (hl:Laid (ksOf xs) xs.length E D) :
  Calls Tryz.prog 242 #[.pointer (some ⟨p,0,none⟩),.pointer (some ⟨q,0,none⟩)] w fun e w'=>e=.returned (.bool (decide ((D 0:Int)≤deep) && kindsB xs E))∧Below w.heap.size w w':=by
 have h:=laid_ok a xs.length nc (ksOf xs) E D w hk.2.1 hk.ks hl
 obtain ⟨g,off,ea,hx⟩:=hk.1 hl.1
 subst ea
 obtain ⟨n,hn⟩:∃ n,n=xs.length:=⟨_,rfl⟩
 have hle:n≤1000000:=by rw [hn];exact hk.2.1
 rw [← hn] at hp h hc
 have hn0:0 < n:=by rw [hn];exact hl.1
 have H:=Lib.hid (And.intro h (And.intro hx (And.intro hn (And.intro hl (And.intro hc (And.intro hle (And.intro hplt hn0)))))))
 obtain ⟨z,hz⟩:∃ z,z=(decide ((D 0:Int)≤deep) && kindsB xs E):=⟨_,rfl⟩
 rw [← hz]
 have HZ:=Lib.hid hz
 have HQ:=Lib.hid hq
 clear h hx hn hl hc hle hk hz hplt hn0 hq
 go_enter Tryz.func242,Tryz.ntmps242
 go_wp2_with fail
 refine H.out.1.mono ?_
 rintro e w2 ⟨gE,gD,rfl,b1,b2,z1,z2,hb⟩
 unfold layV
 have HB:=Lib.hid (And.intro z1 (And.intro z2 hb))
 clear b1 b2 z1 z2 hb hp
 go_upto_region 2 with fail
 have hA:Lies (w2.alloc (.cells #[.slice (some ⟨g,off,none⟩) n nc,.slice (some ⟨gE,0,none⟩) n n,.slice (some ⟨gD,0,none⟩) n n] 279)) w2.heap.size #[.slice (some ⟨g,off,none⟩) n nc,.slice (some ⟨gE,0,none⟩) n n,.slice (some ⟨gD,0,none⟩) n n] 279:=Lies.new _ _ _
 have hb3:Below w2.heap.size w2 (w2.alloc (.cells #[.slice (some ⟨g,off,none⟩) n nc,.slice (some ⟨gE,0,none⟩) n n,.slice (some ⟨gD,0,none⟩) n n] 279)):=(Below.refl _ _).alloc (Nat.le_refl _) _
 generalize w2.alloc (.cells #[.slice (some ⟨g,off,none⟩) n nc,.slice (some ⟨gE,0,none⟩) n n,.slice (some ⟨gD,0,none⟩) n n] 279)=W3 at hA hb3 ⊢
 have hbw:=HB.out.2.2.trans (hb3.mono HB.out.2.2.size)
 obtain ⟨d0,hd0⟩:∃ d,d=D 0:=⟨_,rfl⟩
 have hS:∀ V,Below W3.heap.size W3 V→V.cell? ⟨w2.heap.size,0,none⟩=some (.slice (some ⟨g,off,none⟩) n nc)∧V.cell? ⟨w2.heap.size,1,none⟩=some (.slice (some ⟨gE,0,none⟩) n n)∧V.cell? ⟨w2.heap.size,2,none⟩=some (.slice (some ⟨gD,0,none⟩) n n)∧V.cell? ⟨gD,0,none⟩=some (.int .i64 d0)∧V.cell? ⟨q,0,none⟩=some (.int .i64 deep):=fun V hV=>by
  have a1:=hA.below hV hA.lt
  have a2:=(HB.out.2.1.below hb3 HB.out.2.1.lt).below hV (Nat.lt_of_lt_of_le HB.out.2.1.lt hb3.size)
  refine ⟨a1.cell 0 rfl,a1.cell 1 rfl,a1.cell 2 rfl,by rw [hd0];exact a2.cell 0 (iv_get n D 0 H.out.2.2.2.2.2.2.2),?_⟩
  rw [hV.cell (p:=⟨q,0,none⟩) (Nat.lt_of_lt_of_le H.out.2.2.2.2.2.2.1 hbw.size),hbw.cell (p:=⟨q,0,none⟩) H.out.2.2.2.2.2.2.1]
  exact HQ.out
 have hof:∀ V,Below W3.heap.size W3 V→Calls Tryz.prog 244 #[.agg #[.slice (some ⟨g,off,none⟩) n nc,.slice (some ⟨gE,0,none⟩) n n,.slice (some ⟨gD,0,none⟩) n n]] V fun e w'=>e=.returned (.bool (kindsB xs E))∧Below W3.heap.size W3 w':=fun V hV=>by
  have hbV:=hbw.trans (hV.mono hbw.size)
  exact (ofKinds_any V g off n nc gE gD xs E (H.out.2.1.below hbV H.out.2.1.1) H.out.2.2.1 ((HB.out.1.below hb3 HB.out.1.lt).below hV (Nat.lt_of_lt_of_le HB.out.1.lt hb3.size)) (ends_of H.out.2.2.2.1) (kidsIn_of H.out.2.2.2.1 (by rw [← H.out.2.2.1];exact H.out.2.2.2.2.2.1)) H.out.2.2.2.2.1 H.out.2.2.2.2.2.1).mono fun e w' k=>⟨k.1,hV.trans (k.2.mono hV.size)⟩
 obtain ⟨kb,hkb⟩:∃ kb,kb=kindsB xs E:=⟨_,rfl⟩
 rw [← hkb] at hof
 have d1:Below W3.heap.size W3 W3.drew:=(Below.refl _ _).drew
 obtain ⟨s0,s1,s2,s3,s4⟩:=hS W3 (Below.refl _ _)
 have p1:(0:Int) < (n:Int):=by have:=H.out.2.2.2.2.2.2.2;omega
 have p2:0 < n:=H.out.2.2.2.2.2.2.2
 have HS:=Lib.hid hS
 have HO:=Lib.hid hof
 have HW:=Lib.hid (And.intro hbw (And.intro hd0 hkb))
 clear hS hof hA hb3 hbw hd0 hkb
 by_cases hd:(d0:Int)≤deep
 ·
  have e1:Hid (z=kb):=Lib.hid (by rw [HZ.out,HW.out.2.2,← HW.out.2.1,decide_eq_true hd,Bool.true_and])
  go_region_held3 (fun V=>V.cell? ⟨w2.heap.size,0,none⟩=some (.slice (some ⟨g,off,none⟩) n nc)∧V.cell? ⟨w2.heap.size,1,none⟩=some (.slice (some ⟨gE,0,none⟩) n n)∧V.cell? ⟨w2.heap.size,2,none⟩=some (.slice (some ⟨gD,0,none⟩) n n)∧V.cell? ⟨gD,0,none⟩=some (.int .i64 d0)∧V.cell? ⟨q,0,none⟩=some (.int .i64 deep)) (first | go_keep | exact HS.out _ (by assumption)) (first | (with_reducible refine (HO.out _ (by assumption)).mono ?_;rintro e w4 ⟨rfl,hb4⟩))
  go_wp2_with fail
  go_ret
  exact ⟨by rw [e1.out];rfl,HW.out.1.trans (hb4.mono HW.out.1.size)⟩
 ·
  have e1:Hid (z=false):=Lib.hid (by rw [HZ.out,← HW.out.2.1,decide_eq_false hd,Bool.false_and])
  have hd2:decide ((d0:Int)≤deep)=false:=decide_eq_false hd
  go_quiet (fail)
  go_wp2_with fail
  go_ret
  exact ⟨by rw [e1.out];rfl,below_drewN HW.out.1 _⟩
theorem clo62_bad (w:World) (p q:Nat) (a:Option Addr) (n nc:Nat) (ks:Nat→Int) (hn:n≤1000000) (hp:w.cell? ⟨p,0,none⟩=some (.slice a n nc)) (hk:KsAt w a n ks) (hl:layOf ks n=none) :
  Calls Tryz.prog 242 #[.pointer (some ⟨p,0,none⟩),.pointer (some ⟨q,0,none⟩)] w fun e w'=>ThrownT e∧Below w.heap.size w w':=by
 have h:=laid_bad a n nc ks w hn hk (layOf_none hl)
 have H:=Lib.hid h
 clear h hk hl hn
 go_enter Tryz.func242,Tryz.ntmps242
 go_wp2_with fail
 refine H.out.mono ?_
 rintro e w2 ⟨⟨v,rfl⟩,hb⟩
 have HB:=Lib.hid hb
 clear hb
 go_wp2_with fail
 exact ⟨rfl,⟨_,rfl⟩,HB.out⟩
set_option maxRecDepth 100000 in
theorem fits_any (w:World) (a:Option Addr) (nc:Nat) (xs:List Nd) (most deep:Int) (hk:TAt w a xs) (hc:xs.length≤nc) :
 Calls Tryz.prog 194 #[.agg #[.slice a xs.length nc],.int .i64 most,.int .i64 deep] w fun e w'=>e=.returned (.bool (fitsB xs most deep))∧Below w.heap.size w w':=by
 have hmf:∀ (fn:Fn) (first cap:Array Value) (w:World),(Instr.makeFunc fn first cap).run Tryz.prog w=.ok (.func fn first cap) w:=fun _ _ _ _=>rfl
 have hA:Lies ((w.alloc (.cells #[.slice a xs.length nc] 24)).alloc (.cells #[.int .i64 deep] 3)) w.heap.size #[.slice a xs.length nc] 24:=(Lies.new _ _ _).alloc _
 have hB:Lies ((w.alloc (.cells #[.slice a xs.length nc] 24)).alloc (.cells #[.int .i64 deep] 3)) (w.heap.size+1) #[.int .i64 deep] 3:=by
  have:=Lies.new (w.alloc (.cells #[.slice a xs.length nc] 24)) #[.int .i64 deep] 3
  simpa using this
 have hb0:Below w.heap.size w ((w.alloc (.cells #[.slice a xs.length nc] 24)).alloc (.cells #[.int .i64 deep] 3)):=((Below.refl _ _).alloc (Nat.le_refl _) _).alloc (by simp) _
 obtain ⟨z,hz⟩:∃ z,z=(inO xs && (decide ((deepT xs:Int)≤deep) && kindsB xs (endsT xs))):=⟨_,rfl⟩
 have hR:fitsB xs most deep=(decide ((xs.length:Int)≤most) && z):=by rw [hz];rfl
 rw [hR]
 obtain ⟨zz,hzz⟩:∃ zz,zz=(decide ((xs.length:Int)≤most) && z):=⟨_,rfl⟩
 rw [← hzz]
 have HZ:=Lib.hid hzz
 clear hzz hR
 go_enter Tryz.func194,Tryz.ntmps194
 go_upto_region 1 with fail
 generalize ((w.alloc (.cells #[.slice a xs.length nc] 24)).alloc (.cells #[.int .i64 deep] 3))=W0 at *
 have hask:Calls Tryz.prog 241 #[.bool false,.func (Fn.func 242) #[] #[.pointer (some ⟨w.heap.size,0,none⟩),.pointer (some ⟨w.heap.size+1,0,none⟩)]] W0 fun e w'=>e=.returned (.bool z)∧Below W0.heap.size W0 w':=by
  have hT:=fun V (hV:Below W0.heap.size W0 V)=>hk.below (hb0.trans (hV.mono hb0.size)) (Nat.le_refl _)
  cases hl:layOf (ksOf xs) xs.length with
  | none =>
    have e1:z=false:=by rw [hz];unfold inO inOrd;rw [hl];rfl
    rw [e1]
    exact askB_thrown _ false 242 _ (fun w=>callK 242 Tryz.f242 Tryz.func242 (by kernel_rfl) (by kernel_rfl) _ w) fun w1 h1 =>
     clo62_bad w1 w.heap.size (w.heap.size+1) a xs.length nc (ksOf xs) hk.2.1 ((hA.below h1 hA.lt).cell 0 rfl) (hT w1 h1).ks hl
  | some x =>
    obtain ⟨E,D⟩:=x
    have e1:z=(decide ((D 0:Int)≤deep) && kindsB xs E):=by rw [hz];unfold inO inOrd deepT deepOf endsT;rw [hl];rfl
    rw [e1]
    exact askB_ok _ false _ 242 _ (fun w=>callK 242 Tryz.f242 Tryz.func242 (by kernel_rfl) (by kernel_rfl) _ w) fun w1 h1 =>
     clo62_ok w1 w.heap.size (w.heap.size+1) a nc xs deep E D ((hA.below h1 hA.lt).cell 0 rfl) ((hB.below h1 hB.lt).cell 0 rfl) (Nat.lt_of_lt_of_le hB.lt h1.size) (hT w1 h1) hc (layOf_some hl)
 have c0:=hA.cell 0 (v:=.slice a xs.length nc) rfl
 obtain ⟨n,hn⟩:∃ n,n=xs.length:=⟨_,rfl⟩
 rw [← hn] at c0
 have H:=Lib.hid (And.intro hask (And.intro hb0 hn))
 have hle:n≤1000000:=by rw [hn];exact hk.2.1
 clear hk hc hA hB hb0 hz hask hn
 by_cases hm:(n:Int)≤most
 · have e1:Hid (zz=z):=Lib.hid (by rw [HZ.out,← H.out.2.2,decide_eq_true hm,Bool.true_and])
   have hm2:¬ most < (n:Int):=by omega
   go_wp2_with fail
   refine H.out.1.mono ?_
   rintro e w2 ⟨rfl,hb2⟩
   have HB:=Lib.hid (H.out.2.1.trans (hb2.mono H.out.2.1.size))
   clear hb2
   go_wp2_with fail
   go_ret
   exact ⟨by rw [e1.out];rfl,HB.out⟩
 · have e1:Hid (zz=false):=Lib.hid (by rw [HZ.out,← H.out.2.2,decide_eq_false hm,Bool.false_and])
   have hm2:most < (n:Int):=by omega
   go_wp2_with fail
   go_ret
   exact ⟨by rw [e1.out];rfl,H.out.2.1⟩
def rightB (xs:List Nd):Bool:=fitsB xs 100 16
set_option maxRecDepth 100000 in
theorem rightT_any (w:World) (a:Option Addr) (nc:Nat) (xs:List Nd) (hk:TAt w a xs) (hc:xs.length≤nc) :
  Calls Tryz.prog 118 #[.agg #[.slice a xs.length nc]] w fun e w'=>e=.returned (.bool (rightB xs))∧Below w.heap.size w w':=by
 have hb:Below w.heap.size w (w.alloc (.cells #[.slice a xs.length nc] 24)):=(Below.refl _ _).alloc (Nat.le_refl _) _
 have h:=fits_any (w.alloc (.cells #[.slice a xs.length nc] 24)) a nc xs 100 16 (hk.below hb (Nat.le_refl _)) hc
 obtain ⟨z,hz⟩:∃ z,z=rightB xs:=⟨_,rfl⟩
 have h':=h
 rw [show fitsB xs 100 16=z from hz.symm] at h'
 rw [← hz]
 have H:=Lib.hid (And.intro h' hb)
 obtain ⟨n,hn⟩:∃ n,n=xs.length:=⟨_,rfl⟩
 rw [← hn] at H ⊢
 clear h h' hb hk hc hz hn
 go_enter Tryz.func118,Tryz.ntmps118
 go_wp2_with fail
 refine H.out.1.mono ?_
 rintro e w2 ⟨rfl,hb2⟩
 have HB:=Lib.hid (H.out.2.trans (hb2.mono H.out.2.size))
 clear hb2
 go_wp2_with fail
 go_ret
 exact ⟨rfl,HB.out⟩
end Go.Proofs.YtilbbemdinpjcaaGreat.T
namespace Go.Proofs
end Go.Proofs
namespace Go.Proofs.YtilbbemdinpjcaaGreat.T
open Go.RowKit
def cellsL (xs:List Nd):List Value:=xs.flatMap fun x=>x.cells.toList
theorem cellsL_cons (x:Nd) (xs:List Nd):cellsL (x :: xs)=x.cells.toList ++ cellsL xs:=rfl
theorem cellsL_app (xs ys:List Nd):cellsL (xs ++ ys)=cellsL xs ++ cellsL ys:=by simp [cellsL]
theorem cells_len (x:Nd):x.cells.toList.length=5:=rfl
theorem cellsL_len:∀ xs:List Nd,(cellsL xs).length=xs.length * 5
 | []=>rfl
 | x :: xs=>by rw [cellsL_cons,List.length_append,cells_len,cellsL_len xs,List.length_cons];omega
theorem cellsL_get:∀ (xs:List Nd) (j:Nat) (h:j < xs.length) (i:Nat),i < 5→(cellsL xs)[j * 5+i]? = xs[j].cells[i]?
 | x :: xs,0,_,i,hi=>by
   rw [cellsL_cons,List.getElem?_append_left (by rw [cells_len];omega)]
   simp
 | x :: xs,j+1,h,i,hi=>by
   rw [cellsL_cons,List.getElem?_append_right (by rw [cells_len];omega),cells_len,show (j+1) * 5+i - 5=j * 5+i by omega]
   exact cellsL_get xs j (by simpa using h) i hi
theorem cells_one (x:Nd):∀ u ∈ x.cells.toList,u.oneCell'=true:=by
 intro u hu
 simp only [Nd.cells,List.mem_cons,List.not_mem_nil,or_false] at hu
 rcases hu with rfl | rfl | rfl | rfl | rfl <;> rfl
theorem cellsL_one (xs:List Nd):∀ u ∈ cellsL xs,u.oneCell'=true:=by
 intro u hu
 obtain ⟨x,-,h2⟩:=List.mem_flatMap.1 hu
 exact cells_one x u h2
theorem cells_lt (x:Nd) {i:Nat} {v:Value} (h:x.cells[i]? = some v):i < 5:=(Array.getElem?_eq_some_iff.1 h).1
def OwnT (w:World) (base:Nat) (v:Value) (xs:List Nd):Prop:=w.ownsRow base 72 5 v xs.length (cellsL xs)
theorem NAt.cellsL {w:World} {g off:Nat} {xs:List Nd} (h:NAt w g off xs):∀ j u,(cellsL xs)[j]? = some u→w.cell? ((⟨g,off,none⟩:Addr).add j)=some u:=fun j u hu=>by
 have hl:=(List.getElem?_eq_some_iff.1 hu).1
 rw [cellsL_len] at hl
 have e:j=j / 5 * 5+j % 5:=by omega
 have hj:j / 5 < xs.length:=by omega
 rw [e,cellsL_get xs (j / 5) hj (j % 5) (by omega)] at hu
 have:=h.2 (j / 5) hj (j % 5) u hu
 rw [Addr.add_lit,e]
 rw [show off+(j / 5 * 5+j % 5)=off+j / 5 * 5+j % 5 by omega]
 exact this
theorem OwnT.form {w:World} {base:Nat} {v:Value} {xs:List Nd} (h:OwnT w base v xs):(v=.slice none 0 0∧xs=[]) ∨ ∃ g cap,v=.slice (some ⟨g,0,none⟩) xs.length cap∧base≤g∧xs.length≤cap∧cap≤maxLen∧NAt w g 0 xs∧(∀ j,j < xs.length * 5→w.frozen? ⟨g,j,none⟩=false):=by
 rcases h.2 with ⟨h1,h2⟩ | ⟨g,cap,cur,h1,h2,h3,h4,h5,h6,h7⟩
 ·
  exact .inl ⟨h1,List.eq_nil_of_length_eq_zero h2⟩
 ·
  refine .inr ⟨g,cap,h1,h2,h4,h5,⟨(Array.getElem?_eq_some_iff.1 h3).1,fun j hj i x hx => ?_⟩,fun j _=>Lies.free (cs:=cur) (t:=72) h3 j⟩
  have hi:=cells_lt _ hx
  have h8:(cellsL xs)[j * 5+i]? = some x:=by rw [cellsL_get xs j hj i hi];exact hx
  rw [← h7,List.getElem?_take,if_pos (by omega)] at h8
  rw [show 0+j * 5+i=j * 5+i by omega]
  exact Lies.cell (cs:=cur) (t:=72) h3 (j * 5+i) (by simpa using h8)
theorem OwnT.tat {w:World} {base:Nat} {a:Option Addr} {n c:Nat} {xs:List Nd} (h:OwnT w base (.slice a n c) xs) (hl:xs.length≤1000000) (hk:∀ x ∈ xs,x.kids≤9223372036854775807):TAt w a xs∧n=xs.length∧n≤c:=by
 rcases h.form with ⟨h1,h2⟩ | ⟨g,cap,h1,h2,h3,h4,h5,-⟩
 ·
  cases h1
  subst h2
  exact ⟨⟨fun h=>by simp at h,hl,hk⟩,rfl,Nat.le_refl _⟩
 ·
  cases h1
  exact ⟨⟨fun _=>⟨g,0,rfl,h5⟩,hl,hk⟩,rfl,h3⟩
theorem OwnT.kept {w w':World} {base:Nat} {v:Value} {xs:List Nd} (h:OwnT w base v xs) (hb:Below w.heap.size w w'):OwnT w' base v xs:=by
 refine ⟨h.1,?_⟩
 rcases h.2 with hn | ⟨g,cap,cur,h1,h2,h3,h4⟩
 ·
  exact .inl hn
 ·
  exact .inr ⟨g,cap,cur,h1,h2,(hb.block g (Array.getElem?_eq_some_iff.1 h3).1).trans h3,h4⟩
theorem info32:(Tryz.prog.info? 72).map (fun i=>(i.zero,i.size,i.bytes))=some (some (.agg #[.int .i64 0,.int .i64 0,.int .u64 0,.string ⟨#[]⟩,.int .i64 0]),5,48):=by kernel_rfl
def TxtIn (xs:List Nd):Prop:=∀ x ∈ xs,x.txt.size≤281474976710656
end Go.Proofs.YtilbbemdinpjcaaGreat.T
namespace Go.Proofs.YtilbbemdinpjcaaGreat.T
open Go.RowKit
theorem grownT_refl (w:World) (o:Option Nat):w.grownBy w o:=⟨rfl,rfl,rfl,Nat.le_refl _,fun _ _ _=>rfl⟩
def SrcT (w:World) (bv:Value) (xs:List Nd):Prop:=(bv=.slice none 0 0∧xs=[]) ∨ ∃ ad c,bv=.slice (some ad) xs.length c∧∀ j u,(cellsL xs)[j]? = some u→w.cell? (ad.add j)=some u
theorem OwnT.src {w:World} {B:Nat} {v:Value} {xs:List Nd} (h:OwnT w B v xs):SrcT w v xs:=by
 rcases h.form with h1 | ⟨g,cap,h1,-,-,-,h5,-⟩
 ·
  exact .inl h1
 ·
  exact .inr ⟨_,cap,h1,h5.cellsL⟩
theorem OwnT.mono {w:World} {B B':Nat} {v:Value} {xs:List Nd} (h:OwnT w B v xs) (hB:B'≤B):OwnT w B' v xs:=by
 refine ⟨h.1,?_⟩
 rcases h.2 with hn | ⟨g,cap,cur,h1,h2,h3⟩
 ·
  exact .inl hn
 ·
  exact .inr ⟨g,cap,cur,h1,by omega,h3⟩
theorem OwnT.above {w:World} {B:Nat} {v:Value} {xs:List Nd} (h:OwnT w B v xs) {k:Nat} (hk:v.ownBlock=some k):B≤k:=by
 rcases h.2 with ⟨h1,-⟩ | ⟨g,cap,cur,h1,h2,-⟩
 ·
  rw [h1] at hk;cases hk
 ·
  rw [h1] at hk
  have:g=k:=Option.some.inj hk
  omega
theorem OwnT.isSlice {w:World} {B:Nat} {v:Value} {xs:List Nd} (h:OwnT w B v xs):∃ a n c,v=.slice a n c:=by
 rcases h.form with ⟨h1,-⟩ | ⟨g,cap,h1,-⟩
 ·
  exact ⟨_,_,_,h1⟩
 ·
  exact ⟨_,_,_,h1⟩
theorem OwnT.setRow {w:World} {B:Nat} {v:Value} {xs:List Nd} (h:OwnT w B v xs) (k:Nat) (cs:Array Value) (hk:k < B):OwnT (w.setRow k cs) B v xs:=by
 refine ⟨h.1,?_⟩
 rcases h.2 with hn | ⟨g,cap,cur,h1,h2,h3,h4⟩
 ·
  exact .inl hn
 ·
  exact .inr ⟨g,cap,cur,h1,h2,(setRow_other w k g cs (by omega)).trans h3,h4⟩
theorem wpList_append_T {ops:Array Oper} {rest:List Oper} {o:Oper} {a:Act} {w:World} {Q:Exit→Act→World→Prop} (hgd:o.guard=none) (s x:Operand)
  (ho:o.op=.call { callee:=.builtin .append,args:=#[s,x],argTypes:=#[22,22] }) (B:Nat) (v bv:Value) (ys xs:List Nd) (hs:a.eval s=v) (hown:OwnT w B v ys) (hx:a.eval x=bv) (hsrc:SrcT w bv xs) (hlen:ys.length+xs.length≤1000000) (hB:B≤w.heap.size)
  (h:∀ v' w',OwnT w' B v' (ys ++ xs)→w.grownBy w' v.ownBlock→(v'.ownBlock=v.ownBlock ∨ v'.ownBlock=some w.heap.size)→wpList Tryz.prog ops Q rest (a.put o.dst v') w'):wpList Tryz.prog ops Q (o :: rest) a w:=by
 obtain ⟨i0,hi0,hz0,hz1,hz2⟩:=info_parts info32
 rcases hsrc with ⟨rfl,rfl⟩ | ⟨ad,c,rfl,hsrc⟩
 ·
  refine wpList_append_own_none hgd s x 22 ho B 72 i0 5 Tryz.underlying22 hi0 v ys.length _ hs hown hx ?_
  exact h v w (by rw [List.append_nil];exact hown) (grownT_refl w _) (.inl rfl)
 ·
  refine wpList_append_own_at _ hgd s x 22 ho B 72 i0 (.agg #[.int .i64 0,.int .i64 0,.int .u64 0,.string ⟨#[]⟩,.int .i64 0]) 5 48 Tryz.underlying22 hi0 hz0 hz1 hz2 rfl (by decide) v ys.length _ hs hown ad xs.length c (cellsL xs) hx (cellsL_len xs) hsrc (cellsL_one xs) (by unfold maxLen;omega) (by omega) hB ?_
  intro v' w' h1 h2 _ h3
  exact h v' w' (by unfold OwnT;rw [List.length_append,cellsL_app];exact h1) h2 h3
structure TK where
 a:Option Addr
 c:Nat
 xs:List Nd
def TK.v (t:TK):Value:=.slice t.a t.xs.length t.c
def TsAt (w:World) (ad:Option Addr) (l:List TK):Prop:=(0 < l.length→∃ g off,ad=some ⟨g,off,none⟩∧g < w.heap.size∧∀ j (h:j < l.length),w.cell? ⟨g,off+j,none⟩=some l[j].v)∧∀ t ∈ l,TAt w t.a t.xs∧t.xs.length≤t.c∧TxtIn t.xs
theorem TsAt.below {B:Nat} {w w':World} {ad:Option Addr} {l:List TK} (h:TsAt w ad l) (hb:Below B w w') (hB:w.heap.size≤B):TsAt w' ad l :=
 ⟨fun h0=>by
  obtain ⟨g,off,h1,h2,h3⟩:=h.1 h0
  exact ⟨g,off,h1,Nat.lt_of_lt_of_le h2 hb.size,fun j hj=>(hb.cell (p:=⟨g,off+j,none⟩) (Nat.lt_of_lt_of_le h2 hB)).trans (h3 j hj)⟩,fun t ht=>⟨(h.2 t ht).1.below hb hB,(h.2 t ht).2⟩⟩
def joinL (n:Nd) (ls:List (List Nd)):List Nd:={ n with kids:=(ls.length:Int) } :: ls.flatten
end Go.Proofs.YtilbbemdinpjcaaGreat.T
namespace Go.Proofs.YtilbbemdinpjcaaGreat.T
open Go.RowKit
theorem OwnT.setCell {w:World} {B:Nat} {v:Value} {xs:List Nd} (h:OwnT w B v xs) (ad:Addr) (x:Value) (hk:v.ownBlock≠some ad.block):OwnT (w.setCell ad x) B v xs:=by
 refine ⟨h.1,?_⟩
 rcases h.2 with hn | ⟨g,cap,cur,h1,h2,h3,h4⟩
 ·
  exact .inl hn
 ·
  refine .inr ⟨g,cap,cur,h1,h2,(heap_setCell_other w ad g x (fun e=>hk ?_)).trans h3,h4⟩
  rw [h1,← e];rfl
theorem TAt.src {w:World} {t:TK} (h:TAt w t.a t.xs) (h0:t.a=none→t.c=0):SrcT w t.v t.xs:=by
 obtain ⟨a,c,xs⟩:=t
 cases a with
 | none =>
   have hn:xs=[]:=by
    rcases Nat.eq_zero_or_pos xs.length with h1 | h1
    · exact List.eq_nil_of_length_eq_zero h1
    · obtain ⟨g,off,h2,-⟩:=h.1 h1
      cases h2
   simp only at h0 hn ⊢
   subst hn
   rw [show c=0 from h0 trivial]
   exact .inl ⟨rfl,rfl⟩
 | some ad =>
   refine .inr ⟨ad,c,rfl,fun j u hu => ?_⟩
   simp only at hu h
   have h1:0 < xs.length:=by
    have:=(List.getElem?_eq_some_iff.1 hu).1
    rw [cellsL_len] at this
    omega
   obtain ⟨g,off,h2,h3⟩:=h.1 h1
   cases h2
   exact h3.cellsL j u hu
theorem OwnT.drew {w:World} {B:Nat} {v:Value} {xs:List Nd} (h:OwnT w B v xs):OwnT w.drew B v xs:=h
theorem SrcT.drew {w:World} {v:Value} {xs:List Nd} (h:SrcT w v xs):SrcT w.drew v xs:=h
end Go.Proofs.YtilbbemdinpjcaaGreat.T
namespace Go.Proofs.YtilbbemdinpjcaaGreat.T
open Go.RowKit
def TermR (w:World) (xs:List Nd) (e:Ending) (w':World):Prop:=∃ t:TK,t.xs=xs∧e=.returned (.agg #[t.v])∧TAt w' t.a t.xs∧t.xs.length≤t.c∧(t.a=none→t.c=0)∧Below w.heap.size w w'
end Go.Proofs.YtilbbemdinpjcaaGreat.T
namespace Go.Proofs.YtilbbemdinpjcaaGreat.T
open Go.RowKit
abbrev nN (n:Int):Nd:=⟨1,n,0,⟨#[]⟩,0⟩
abbrev nB (s:ByteArray):Nd:=⟨2,0,0,s,0⟩
abbrev nL:Nd:=⟨4,0,0,⟨#[]⟩,0⟩
theorem ex_right:rightB (joinL nL [[nN 1],[nB ⟨#[97,98]⟩]])=true:=by decide +kernel
theorem TermR.open {w:World} {xs:List Nd} {e:Ending} {w':World} (h:TermR w xs e w'):∃ a c,e=.returned (.agg #[.slice a xs.length c])∧TAt w' a xs∧xs.length≤c∧(a=none→c=0)∧Below w.heap.size w w':=by
 obtain ⟨⟨a,c,xs'⟩,rfl,h1,h2,h3,h4,h5⟩:=h
 exact ⟨a,c,h1,h2,h3,h4,h5⟩
end Go.Proofs.YtilbbemdinpjcaaGreat.T
namespace Go.Proofs.YtilbbemdinpjcaaGreat.T
open Go.RowKit Ieee
end Go.Proofs.YtilbbemdinpjcaaGreat.T
namespace Go.Proofs.YtilbbemdinpjcaaGreat.T
def eqN (x y:Nd):Bool:=x.kind == y.kind && (x.num == y.num && (x.bits == y.bits && (x.txt.toList == y.txt.toList && x.kids == y.kids)))
def sameN:List Nd→List Nd→Bool
 | [],[]=>true
 | x :: xs,y :: ys=>eqN x y && sameN xs ys
 | [],_ :: _=>false
 | _ :: _,[]=>false
theorem sameN_len:∀ {a b:List Nd},sameN a b=true→a.length=b.length
 | [],[],_=>rfl
 | [],_ :: _,h=>by simp [sameN] at h
 | _ :: _,[],h=>by simp [sameN] at h
 | x :: a,y :: b,h=>by
   simp only [sameN,Bool.and_eq_true] at h
   simp [sameN_len h.2]
end Go.Proofs.YtilbbemdinpjcaaGreat.T
namespace Go.Proofs.YtilbbemdinpjcaaGreat.T
open Go.RowKit
def cost:List Nd→Nat
 | []=>0
 | x :: xs=>1+x.txt.size / 16+cost xs
theorem cost_app:∀ xs ys:List Nd,cost (xs ++ ys)=cost xs+cost ys
 | [],ys=>by simp [cost]
 | x :: xs,ys=>by simp only [List.cons_append,cost,cost_app xs ys];omega
theorem cost_take {xs:List Nd} {k:Nat} (h:k < xs.length):cost (xs.take (k+1))=cost (xs.take k)+1+xs[k].txt.size / 16:=by
 rw [List.take_succ_eq_append_getElem h,cost_app]
 simp only [cost]
 omega
theorem cost_len:∀ xs:List Nd,xs.length≤cost xs
 | []=>Nat.zero_le _
 | x :: xs=>by have:=cost_len xs;simp only [List.length_cons,cost];omega
def TRaw (w:World) (a:Option Addr) (xs:List Nd):Prop:=0 < xs.length→∃ g off,a=some ⟨g,off,none⟩∧NAt w g off xs
theorem TRaw.below {B:Nat} {w w':World} {a:Option Addr} {xs:List Nd} (h:TRaw w a xs) (hb:Below B w w') (hB:w.heap.size≤B):TRaw w' a xs:=fun h0=>by
 obtain ⟨g,off,h1,h2⟩:=h h0
 exact ⟨g,off,h1,h2.below hb (Nat.lt_of_lt_of_le h2.1 hB)⟩
def TxtRaw (xs:List Nd):Prop:=∀ x ∈ xs,x.txt.size≤140737488355328
end Go.Proofs.YtilbbemdinpjcaaGreat.T
namespace Go.Proofs.YtilbbemdinpjcaaGreat.T
open Go.RowKit
def RsAt (w:World) (ad:Option Addr) (l:List TK):Prop:=(0 < l.length→∃ g off,ad=some ⟨g,off,none⟩∧g < w.heap.size∧∀ j (h:j < l.length),w.cell? ⟨g,off+j,none⟩=some l[j].v)∧∀ t ∈ l,TRaw w t.a t.xs∧TxtRaw t.xs∧t.xs.length≤140737488355328
theorem RsAt.below {B:Nat} {w w':World} {ad:Option Addr} {l:List TK} (h:RsAt w ad l) (hb:Below B w w') (hB:w.heap.size≤B):RsAt w' ad l :=
 ⟨fun h0=>by
  obtain ⟨g,off,h1,h2,h3⟩:=h.1 h0
  exact ⟨g,off,h1,Nat.lt_of_lt_of_le h2 hb.size,fun j hj=>(hb.cell (p:=⟨g,off+j,none⟩) (Nat.lt_of_lt_of_le h2 hB)).trans (h3 j hj)⟩,fun t ht=>⟨(h.2 t ht).1.below hb hB,(h.2 t ht).2⟩⟩
theorem run_neq_struct (W:World) (t:TypeId) (xs ys:Array Value):(binOp .neq t (.agg xs) (.agg ys)).run Tryz.prog W=((Op.equalIn 10000 t (.agg xs) (.agg ys)).run Tryz.prog W).andThen fun b w'=>.ok (.bool (!b)) w':=by
 simp only [binOp]
 simp [Op.equal,Op.maxDepth]
set_option maxRecDepth 100000 in
theorem neq_nodes (W:World) (k1 k2 n1 n2:Int) (b1 b2:Nat) (t1 t2:ByteArray) (d1 d2:Int) :
  (binOp .neq 72 (.agg #[.int .i64 k1,.int .i64 n1,.int .u64 b1,.string t1,.int .i64 d1]) (.agg #[.int .i64 k2,.int .i64 n2,.int .u64 b2,.string t2,.int .i64 d2])).run Tryz.prog W=.ok (.bool (!eqN ⟨k1,n1,b1,t1,d1⟩ ⟨k2,n2,b2,t2,d2⟩)) W:=by
 have h2:=stood32
 rw [run_neq_struct,run_equalIn_agg W 9999 72 _ _ (by kernel_rfl) h2]
 unfold eqN
 simp only
 by_cases e0:k1=k2
 ·
  by_cases e1:n1=n2
  ·
   by_cases e2:b1=b2
   ·
    by_cases e3:t1.toList=t2.toList
    ·
     by_cases e4:d1=d2 <;> simp [go_sem,e0,e1,e2,e3,e4]
    ·
     simp [go_sem,e0,e1,e2,e3]
   ·
    have e2':¬ (b1:Int)=(b2:Int):=by omega
    simp [go_sem,e0,e1,e2,e2']
  ·
   simp [go_sem,e0,e1]
 ·
  simp [go_sem,e0]
theorem sameN_false:∀ {xs ys:List Nd} (j:Nat) (h1:j < xs.length) (h2:j < ys.length),eqN xs[j] ys[j]=false→sameN xs ys=false
 | x :: xs,y :: ys,0,_,_,h=>by
   have:eqN x y=false:=h
   simp [sameN,this]
 | x :: xs,y :: ys,j+1,h1,h2,h=>by
   have:=sameN_false (xs:=xs) (ys:=ys) j (by simpa using h1) (by simpa using h2) h
   simp [sameN,this]
theorem sameN_true:∀ {xs ys:List Nd},xs.length=ys.length→(∀ j (h1:j < xs.length) (h2:j < ys.length),eqN xs[j] ys[j]=true)→sameN xs ys=true
 | [],[],_,_=>rfl
 | [],_ :: _,h,_=>by simp at h
 | _ :: _,[],h,_=>by simp at h
 | x :: xs,y :: ys,hl,h=>by
   have h0:eqN x y=true:=h 0 (by simp) (by simp)
   have:=sameN_true (xs:=xs) (ys:=ys) (by simpa using hl) (fun j h1 h2=>h (j+1) (by simpa using h1) (by simpa using h2))
   simp [sameN,h0,this]
set_option maxRecDepth 100000 in
theorem sameNodes_any (w:World) (a b:Option Addr) (c1 c2:Nat) (xs ys:List Nd) (hx:TAt w a xs) (hy:TAt w b ys) :
 Calls Tryz.prog 122 #[.slice a xs.length c1,.slice b ys.length c2] w fun e w'=>e=.returned (.bool (sameN xs ys))∧Below w.heap.size w w':=by
 obtain ⟨res,hres⟩:∃ r,r=sameN xs ys:=⟨_,rfl⟩
 rw [← hres]
 obtain ⟨n,hn⟩:∃ n,n=xs.length:=⟨_,rfl⟩
 obtain ⟨m,hm⟩:∃ m,m=ys.length:=⟨_,rfl⟩
 have hle:n≤1000000:=by rw [hn];exact hx.2.1
 have hle2:m≤1000000:=by rw [hm];exact hy.2.1
 rw [← hn,← hm]
 have H:=Lib.hid (And.intro hx (And.intro hy (And.intro hn (And.intro hm hres))))
 clear hx hy hn hm hres
 have q9:(n:Int)≤1000000:=by omega
 by_cases hnm:n=m
 · have HN:=Lib.hid hnm
   have e1:((n:Int) != (m:Int))=false:=by rw [bne_eq_false_iff_eq];omega
   clear hnm
   go_enter Tryz.func122,Tryz.ntmps122
   go_wp2_with fail
   clear e1
   go_loopw [5] (fun i W=>∃ k:Nat,k≤n∧i=.int .i64 k∧(∀ j (h1:j < xs.length) (h2:j < ys.length),j < k→eqN xs[j] ys[j]=true)∧Below w.heap.size w W) (fun i _=>(n - intOf i).toNat)
   case atStart=>exact ⟨0,by omega,by go_num,fun j _ _ h=>by omega,Below.refl _ _⟩
   case round =>
    obtain ⟨k,hk,rfl,hall,hbr⟩:=hrel
    by_cases hlt:k < n
    · have hx1:k < xs.length:=by rw [← H.out.2.2.1];exact hlt
      have hy1:k < ys.length:=by rw [← H.out.2.2.2.1,← HN.out];exact hlt
      obtain ⟨g1,o1,ea,hN1⟩:=(H.out.1.below hbr (Nat.le_refl _)).1 (by omega)
      obtain ⟨g2,o2,eb,hN2⟩:=(H.out.2.1.below hbr (Nat.le_refl _)).1 (by omega)
      subst ea eb
      have hc1:=hN1.2 k hx1
      have hc2:=hN2.2 k hy1
      have hnext:eqN xs[k] ys[k]=true→∀ j (h1:j < xs.length) (h2:j < ys.length),j < k+1→eqN xs[j] ys[j]=true:=fun e j h1 h2 h=>by
       by_cases e2:j=k
       · subst e2;exact e
       · exact hall j h1 h2 (by omega)
      have hbad:eqN xs[k] ys[k]=false→res=false:=fun e=>by rw [H.out.2.2.2.2];exact sameN_false k hx1 hy1 e
      obtain ⟨x,ex⟩:∃ x,x=xs[k]:=⟨_,rfl⟩
      obtain ⟨y,ey⟩:∃ y,y=ys[k]:=⟨_,rfl⟩
      rw [← ex] at hc1 hnext hbad
      rw [← ey] at hc2 hnext hbad
      obtain ⟨k1,n1,b1,t1,d1⟩:=x
      obtain ⟨k2,n2,b2,t2,d2⟩:=y
      have x0:wr.cell? ⟨g1,o1+k * 5,none⟩=some (.int .i64 k1):=hc1 0 _ rfl
      have x1:wr.cell? ⟨g1,o1+k * 5+1,none⟩=some (.int .i64 n1):=hc1 1 _ rfl
      have x2:wr.cell? ⟨g1,o1+k * 5+2,none⟩=some (.int .u64 b1):=hc1 2 _ rfl
      have x3:wr.cell? ⟨g1,o1+k * 5+3,none⟩=some (.string t1):=hc1 3 _ rfl
      have x4:wr.cell? ⟨g1,o1+k * 5+4,none⟩=some (.int .i64 d1):=hc1 4 _ rfl
      have y0:wr.cell? ⟨g2,o2+k * 5,none⟩=some (.int .i64 k2):=hc2 0 _ rfl
      have y1:wr.cell? ⟨g2,o2+k * 5+1,none⟩=some (.int .i64 n2):=hc2 1 _ rfl
      have y2:wr.cell? ⟨g2,o2+k * 5+2,none⟩=some (.int .u64 b2):=hc2 2 _ rfl
      have y3:wr.cell? ⟨g2,o2+k * 5+3,none⟩=some (.string t2):=hc2 3 _ rfl
      have y4:wr.cell? ⟨g2,o2+k * 5+4,none⟩=some (.int .i64 d2):=hc2 4 _ rfl
      have hqq:=fun W=>neq_nodes W k1 k2 n1 n2 b1 b2 t1 t2 d1 d2
      have hg:=guard32
      obtain ⟨r,hr⟩:∃ r,r=eqN ⟨k1,n1,b1,t1,d1⟩ ⟨k2,n2,b2,t2,d2⟩:=⟨_,rfl⟩
      rw [← hr] at hnext hbad
      simp only [← hr] at hqq
      have q0:(0:Int)≤(k:Int):=by omega
      have q1:(k:Int) < (n:Int):=by omega
      have q2:(k:Int) < (m:Int):=by have:=HN.out;omega
      have HR:=Lib.hid (And.intro hbr (And.intro hnext hbad))
      clear hbr hnext hbad hall hN1 hN2 hc1 hc2 ex ey hr hx1 hy1
      go_upto_region 6 with fail
      go_quiet (fail)
      have HW:=Lib.hid (below_drewN HR.out.1 1)
      cases r with
      | true =>
        have HN2:=Lib.hid (HR.out.2.1 rfl)
        go_wp2_with fail
        refine ⟨⟨k+1,by omega,by go_num,HN2.out,below_drewN HR.out.1 _⟩,by simp [intOf];omega⟩
      | false =>
        have HB2:=Lib.hid (HR.out.2.2 rfl)
        go_wp2_with fail
        go_ret
        exact ⟨by rw [HB2.out];rfl,below_drewN HR.out.1 _⟩
    · have hke:k=n:=by omega
      have hz:res=true:=by
       rw [H.out.2.2.2.2]
       exact sameN_true (by rw [← H.out.2.2.1,← H.out.2.2.2.1];exact HN.out) fun j h1 h2=>hall j h1 h2 (by rw [hke,H.out.2.2.1];exact h1)
      have HZ:=Lib.hid (And.intro hz hbr)
      clear hz hall hbr hke hk
      go_wp2_with fail
      go_ret
      exact ⟨by rw [HZ.out.1];rfl,HZ.out.2⟩
 · have e1:((n:Int) != (m:Int))=true:=by rw [bne_iff_ne];omega
   have HZ:Hid (res=false):=Lib.hid (by
    rw [H.out.2.2.2.2]
    cases hs:sameN xs ys with
    | false=>rfl
    | true=>exact absurd (sameN_len hs) (by rw [← H.out.2.2.1,← H.out.2.2.2.1];exact hnm))
   go_enter Tryz.func122,Tryz.ntmps122
   go_wp2_with fail
   go_ret
   exact ⟨by rw [HZ.out];rfl,Below.refl _ _⟩
set_option maxRecDepth 100000 in
theorem sameTerm_any (w:World) (a b:Option Addr) (c1 c2:Nat) (xs ys:List Nd) (hx:TAt w a xs) (hy:TAt w b ys) :
  Calls Tryz.prog 50 #[.agg #[.slice a xs.length c1],.agg #[.slice b ys.length c2]] w fun e w'=>e=.returned (.bool (sameN xs ys))∧Below w.heap.size w w':=by
 have hb0:Below w.heap.size w ((w.alloc (.cells #[.slice a xs.length c1] 24)).alloc (.cells #[.slice b ys.length c2] 24)):=((Below.refl _ _).alloc (Nat.le_refl _) _).alloc (by simp) _
 have h:=sameNodes_any ((w.alloc (.cells #[.slice a xs.length c1] 24)).alloc (.cells #[.slice b ys.length c2] 24)) a b c1 c2 xs ys (hx.below hb0 (Nat.le_refl _)) (hy.below hb0 (Nat.le_refl _))
 obtain ⟨res,hres⟩:∃ r,r=sameN xs ys:=⟨_,rfl⟩
 rw [← hres] at h ⊢
 obtain ⟨n,hn⟩:∃ n,n=xs.length:=⟨_,rfl⟩
 obtain ⟨m,hm⟩:∃ m,m=ys.length:=⟨_,rfl⟩
 rw [← hn,← hm] at h hb0 ⊢
 have H:=Lib.hid (And.intro h hb0)
 clear h hb0 hx hy hn hm hres
 go_enter Tryz.func50,Tryz.ntmps50
 go_wp2_with fail
 refine H.out.1.mono ?_
 rintro e w2 ⟨rfl,hb2⟩
 have HB:=Lib.hid (H.out.2.trans (hb2.mono H.out.2.size))
 clear hb2
 go_wp2_with fail
 go_ret
 exact ⟨rfl,HB.out⟩
end Go.Proofs.YtilbbemdinpjcaaGreat.T
namespace Go.Proofs.YtilbbemdinpjcaaGreat.T
open Go.RowKit
def putF (a:Act):List Tmp→(Tmp→Value)→Act
 | [],_=>a
 | s :: l,f=>(putF a l f).put (some s) (f s)
theorem OwnT.alloc {w:World} {B:Nat} {v:Value} {xs:List Nd} (h:OwnT w B v xs) (o:Obj):OwnT (w.alloc o) B v xs:=h.kept ((Below.refl _ _).alloc (Nat.le_refl _) _)
structure JIdx where
 b1:Nat
 c1:Nat
 b2:Nat
 c2:Nat
 a1:Nat
 a2:Nat
 d1:Nat
 d2:Nat
end Go.Proofs.YtilbbemdinpjcaaGreat.T
