/-
  bytes.Clone: a copy in new memory; nil of nil.
-/
import Derived.Test.YtilbbemdinpjcaaGreatProg
import Derived.WalkKit
import Derived.WalkSpells
import Derived.WalkLawsBesides
import Derived.Outline
import Derived.Maps.AppendAt
import Derived.OwnWalk
import Derived.Below
import Derived.Laws.Rows
import Derived.Lib.Hide
import Derived.WalkSmall
import Derived.LaidEqlPtr
import Derived.Deep.DeepMust
import Derived.Deep.AppendLies
import Derived.Deep.MidRow
import Derived.Deep.RegionLaw
import Derived.StillTailTactics
import Derived.Deep.Cut
import Derived.Laws.Cover3
set_option maxHeartbeats 16000000
namespace Go.Proofs.YtilbbemdinpjcaaGreat.W
open Go.RowKit
def B8 (l:List UInt8):Array Value:=(l.map fun b=>Value.int .u8 b.toNat).toArray
theorem B8_size (l:List UInt8):(B8 l).size=l.length:=by simp [B8]
theorem B8_get (l:List UInt8) (i:Nat) (h:i < l.length):(B8 l)[i]? = some (.int .u8 (l.getD i 0).toNat):=by
 simp [B8,h]
theorem B8_set (l:List UInt8) (i:Nat) (b:UInt8):(B8 l).setIfInBounds i (.int .u8 b.toNat)=B8 (l.set i b):=by
 simp [B8,List.map_set]
def Lies (w:World) (g:Nat) (cs:Array Value) (t:TypeId):Prop:=w.heap[g]? = some (.cells cs t (0,0))
theorem Lies.cell {w:World} {g:Nat} {cs:Array Value} {t:TypeId} (h:Lies w g cs t) (j:Nat) {v:Value} (hv:cs[j]? = some v):w.cell? ⟨g,j,none⟩=some v :=
 (cell_of_row w g j cs t (0,0) h).trans hv
theorem Lies.free {w:World} {g:Nat} {cs:Array Value} {t:TypeId} (h:Lies w g cs t) (j:Nat):w.frozen? ⟨g,j,none⟩=false :=
 frozen_of_row w g j cs t h
theorem Lies.drew {w:World} {g:Nat} {cs:Array Value} {t:TypeId} (h:Lies w g cs t):Lies w.drew g cs t:=h
theorem Lies.alloc {w:World} {g:Nat} {cs:Array Value} {t:TypeId} (h:Lies w g cs t) (o:Obj):Lies (w.alloc o) g cs t :=
 (Below.heap_alloc w o g (Array.getElem?_eq_some_iff.1 h).1).trans h
theorem Lies.lt {w:World} {g:Nat} {cs:Array Value} {t:TypeId} (h:Lies w g cs t):g < w.heap.size:=(Array.getElem?_eq_some_iff.1 h).1
theorem Lies.set {w:World} {g:Nat} {cs:Array Value} {t:TypeId} (h:Lies w g cs t) (j:Nat) (v:Value):Lies (w.setCell ⟨g,j,none⟩ v) g (cs.setIfInBounds j v) t :=
 heap_setCell_same w g j cs t v h
theorem Lies.other {w:World} {g:Nat} {cs:Array Value} {t:TypeId} (h:Lies w g cs t) (a:Addr) (v:Value) (hne:g≠a.block):Lies (w.setCell a v) g cs t :=
 (heap_setCell_other w a g v hne).trans h
theorem Lies.below {B:Nat} {w w':World} {g:Nat} {cs:Array Value} {t:TypeId} (h:Lies w g cs t) (hb:Below B w w') (hg:g < B):Lies w' g cs t :=
 (hb.block g hg).trans h
theorem Lies.new (w:World) (cs:Array Value) (t:TypeId):Lies (w.alloc (.cells cs t)) w.heap.size cs t:=heap_alloc_new w _
theorem size_set (w:World) (a:Addr) (v:Value):(w.setCell a v).heap.size=w.heap.size:=by simp [World.setCell]
theorem B8_one (l:List UInt8):(B8 l).all (·.oneCell')=true:=by
 rw [Array.all_eq_true_iff_forall_mem];intro v hv;simp [B8] at hv;obtain ⟨_,_,rfl⟩:=hv;rfl
theorem Lies.setRow {w:World} {g:Nat} {cs:Array Value} {t:TypeId} (h:Lies w g cs t) (cs':Array Value):Lies (w.setRow g cs') g cs' t:=setRow_heap w g cs cs' t _ h
theorem Lies.setRowOther {w:World} {g:Nat} {cs:Array Value} {t:TypeId} (h:Lies w g cs t) (k:Nat) (cs':Array Value) (hne:g≠k):Lies (w.setRow k cs') g cs t:=(setRow_other w k g cs' hne).trans h
theorem below_setRow {B:Nat} {a w:World} (h:Below B a w) (g:Nat) (cs:Array Value) (hg:B≤g):Below B a (w.setRow g cs) :=
 h.trans ⟨rfl,rfl,rfl,by simp,fun k hk=>setRow_other w g k cs (by omega)⟩
theorem grown_set {w wr:World} {b:Nat} (h:w.grownBy wr (some b)) (j:Nat) (v:Value):w.grownBy (wr.setCell ⟨b,j,none⟩ v) (some b) :=
 ⟨h.os,h.tape,h.output,by rw [size_set];exact h.size,fun k hk hne=>(heap_setCell_other wr _ k v (fun e=>hne (by rw [e]))).trans (h.block k hk hne)⟩
theorem grown_drewN {w wr:World} {o:Option Nat} (h:w.grownBy wr o) (q:Nat):w.grownBy (wr.drewN q) o:=⟨h.os,h.tape,h.output,h.size,h.block⟩
theorem grown_trans {w w1 w2:World} {b:Nat} (h:w.grownBy w1 (some b)) (k:w1.grownBy w2 (some b)):w.grownBy w2 (some b) :=
 ⟨k.os.trans h.os,k.tape.trans h.tape,k.output.trans h.output,Nat.le_trans h.size k.size,fun i hi hne=>(k.block i (Nat.lt_of_lt_of_le hi h.size) hne).trans (h.block i hi hne)⟩
theorem grown_below {w w':World} (h:Below w.heap.size w w') (o:Option Nat):w.grownBy w' o:=⟨h.os,h.tape,h.output,h.size,fun k hk _=>h.block k hk⟩
theorem grown_refl (w:World) (o:Option Nat):w.grownBy w o:=⟨rfl,rfl,rfl,Nat.le_refl _,fun _ _ _=>rfl⟩
theorem Lies.grown {w w':World} {g b:Nat} {cs:Array Value} {t:TypeId} (h:Lies w g cs t) (hb:w.grownBy w' (some b)) (hne:g≠b):Lies w' g cs t :=
 (hb.block g h.lt (fun e=>hne (Option.some.inj e))).trans h
theorem own_kept {w w':World} {base:Nat} {e:TypeId} {size n:Nat} {u:Value} {xs:List Value} {o:Option Nat} (h:w.ownsRow base e size u n xs) (hg:w.grownBy w' o) (hne:∀ g,u.ownBlock=some g→o≠some g) :
  w'.ownsRow base e size u n xs:=by
 refine ⟨h.1,?_⟩
 rcases h.2 with hn | ⟨g,cap,cur,h1,h2,h3,h4⟩
 ·
  exact .inl hn
 ·
  exact .inr ⟨g,cap,cur,h1,h2,(hg.block g (Array.getElem?_eq_some_iff.1 h3).1 (fun e=>hne g (by rw [h1];rfl) e.symm)).trans h3,h4⟩
theorem own_lt {w:World} {base:Nat} {e:TypeId} {size n:Nat} {u:Value} {xs:List Value} (h:w.ownsRow base e size u n xs) {g:Nat} (hu:u.ownBlock=some g):g < w.heap.size:=by
 rcases h.2 with ⟨rfl,_⟩ | ⟨g2,cap,cur,rfl,h2,h3,h4⟩
 ·
  simp [Value.ownBlock] at hu
 ·
  obtain rfl:g2=g:=by simpa [Value.ownBlock] using hu
  exact (Array.getElem?_eq_some_iff.1 h3).1
def Apart (v u:Value):Prop:=∀ g,v.ownBlock=some g→u.ownBlock≠some g
theorem Apart.symm {v u:Value} (h:Apart v u):Apart u v:=fun g h1 h2=>h g h2 h1
theorem Apart.grown {v v' u:Value} {B:Nat} (h:Apart v u) (hat:v'.ownBlock=v.ownBlock ∨ v'.ownBlock=some B) (hlt:∀ g,u.ownBlock=some g→g < B):Apart v' u:=by
 intro g h1 h2
 rcases hat with e | e
 ·
  exact h g (e ▸ h1) h2
 ·
  have:=hlt g h2
  rw [e] at h1
  have:=Option.some.inj h1
  omega
end Go.Proofs.YtilbbemdinpjcaaGreat.W
namespace Go.Proofs.YtilbbemdinpjcaaGreat.W
open Go.RowKit
theorem info53:(Tryz.prog.info? 127).isSome=true:=by kernel_rfl
theorem eql_self (w:World) (a:Addr):(binOp .eql 125 (.pointer (some a)) (.pointer (some a))).run Tryz.prog w=.ok (.bool true) w:=by
 obtain ⟨i,hi⟩:=Option.isSome_iff_exists.1 info53
 exact run_eql_ptr_same (tp:=125) (te:=127) w a Tryz.underlying125 hi
theorem eql_none (w:World) (a:Addr):(binOp .eql 125 (.pointer none) (.pointer (some a))).run Tryz.prog w=.ok (.bool false) w:=by
 have h:∀ d:Nat,(Op.equalIn (d+1) 125 (.pointer none) (.pointer (some a))).run Tryz.prog w=.ok false w:=fun d=>by
  simp [Op.equalIn,run_underlying (P:=Tryz.prog) Tryz.underlying125]
 simp only [binOp]
 simp [Op.equal,Op.maxDepth,h 9999]
set_option maxRecDepth 100000 in
theorem begin_any (w:World) (g:Nat) (v:Value) (h:w.cell? ⟨g,0,none⟩=some v) (hf:w.frozen? ⟨g,0,none⟩=false) (h1:v.oneCell'=true) :
  Calls Tryz.prog 86 #[.pointer (some ⟨g,0,none⟩)] w fun e w'=>e=.returned (.tuple #[])∧w'=w.setCell ⟨g,0,none⟩ (.pointer (some ⟨g,0,none⟩)):=by
 go_enter Tryz.func86,Tryz.ntmps86
 go_wp2
 go_end0
 exact ⟨rfl,rfl⟩
set_option maxRecDepth 100000 in
theorem answered_self (w:World) (g:Nat) (h:w.cell? ⟨g,0,none⟩=some (.pointer (some ⟨g,0,none⟩))) :
  Calls Tryz.prog 103 #[.pointer (some ⟨g,0,none⟩)] w fun e w'=>e=.returned (.bool true)∧w=w':=by
 have he:=eql_self w ⟨g,0,none⟩
 go_enter Tryz.func103,Tryz.ntmps103
 go_wp2
 go_ret
 exact ⟨rfl,rfl⟩
set_option maxRecDepth 100000 in
theorem answered_none (w:World) (g:Nat) (h:w.cell? ⟨g,0,none⟩=some (.pointer none)) :
  Calls Tryz.prog 103 #[.pointer (some ⟨g,0,none⟩)] w fun e w'=>e=.returned (.bool false)∧w=w':=by
 have he:=eql_none w ⟨g,0,none⟩
 go_enter Tryz.func103,Tryz.ntmps103
 go_wp2
 go_ret
 exact ⟨rfl,rfl⟩
set_option maxRecDepth 100000 in
theorem sound_self (w:World) (g:Nat) (sp:Bool) (h:w.cell? ⟨g,0,none⟩=some (.pointer (some ⟨g,0,none⟩))) (hs:w.cell? ⟨g,1,none⟩=some (.bool sp)) :
  Calls Tryz.prog 174 #[.pointer (some ⟨g,0,none⟩)] w fun e w'=>e=.returned (.bool (!sp))∧w=w':=by
 have he:=answered_self w g h
 go_enter Tryz.func174,Tryz.ntmps174
 go_wp2_with fail
 refine he.mono ?_
 rintro e w' ⟨rfl,rfl⟩
 clear he
 go_wp2_with fail
 go_ret
 exact ⟨rfl,rfl⟩
set_option maxRecDepth 100000 in
theorem sound_none (w:World) (g:Nat) (h:w.cell? ⟨g,0,none⟩=some (.pointer none)) :
  Calls Tryz.prog 174 #[.pointer (some ⟨g,0,none⟩)] w fun e w'=>e=.returned (.bool false)∧w=w':=by
 have he:=answered_none w g h
 go_enter Tryz.func174,Tryz.ntmps174
 go_wp2_with fail
 refine he.mono ?_
 rintro e w' ⟨rfl,rfl⟩
 clear he
 go_wp2_with fail
 go_ret
 exact ⟨rfl,rfl⟩
set_option maxRecDepth 100000 in
theorem spoil_any (w:World) (g:Nat) (v:Value) (h:w.cell? ⟨g,1,none⟩=some v) (hf:w.frozen? ⟨g,1,none⟩=false) (h1:v.oneCell'=true) :
  Calls Tryz.prog 202 #[.pointer (some ⟨g,0,none⟩)] w fun e w'=>e=.returned (.tuple #[])∧w'=w.setCell ⟨g,1,none⟩ (.bool true):=by
 go_enter Tryz.func202,Tryz.ntmps202
 go_wp2
 go_end0
 exact ⟨rfl,rfl⟩
/-! ## A writer: its own place,whether it is spoilt,its bytes -/
theorem takes_nil (w:World):Calls Tryz.prog 201 #[.pointer none] w fun e w'=>e=.returned (.bool false)∧w=w':=by
 go_enter Tryz.func201,Tryz.ntmps201
 go_wp2
 go_ret
 exact ⟨rfl,rfl⟩
set_option maxRecDepth 100000 in
theorem takes_self (w:World) (g:Nat) (sp:Bool) (h:w.cell? ⟨g,0,none⟩=some (.pointer (some ⟨g,0,none⟩))) (hs:w.cell? ⟨g,1,none⟩=some (.bool sp)) :
  Calls Tryz.prog 201 #[.pointer (some ⟨g,0,none⟩)] w fun e w'=>e=.returned (.bool (!sp))∧w=w':=by
 have he:=sound_self w g sp h hs
 go_enter Tryz.func201,Tryz.ntmps201
 go_wp2_with fail
 refine he.mono ?_
 rintro e w' ⟨rfl,rfl⟩
 clear he
 go_wp2_with fail
 go_ret
 exact ⟨rfl,rfl⟩
set_option maxRecDepth 100000 in
theorem takes_none (w:World) (g:Nat) (h:w.cell? ⟨g,0,none⟩=some (.pointer none)) :
  Calls Tryz.prog 201 #[.pointer (some ⟨g,0,none⟩)] w fun e w'=>e=.returned (.bool false)∧w=w':=by
 have he:=sound_none w g h
 go_enter Tryz.func201,Tryz.ntmps201
 go_wp2_with fail
 refine he.mono ?_
 rintro e w' ⟨rfl,rfl⟩
 clear he
 go_wp2_with fail
 go_ret
 exact ⟨rfl,rfl⟩
end Go.Proofs.YtilbbemdinpjcaaGreat.W
namespace Go.Proofs.YtilbbemdinpjcaaGreat.W
open Go.RowKit
def Idle (w:World) (p:Option Addr):Prop :=
 p=none ∨ ∃ g,p=some ⟨g,0,none⟩∧g < w.heap.size∧(w.cell? ⟨g,0,none⟩=some (.pointer none) ∨ w.cell? ⟨g,0,none⟩=some (.pointer (some ⟨g,0,none⟩))∧w.cell? ⟨g,1,none⟩=some (.bool true))
theorem Idle.below {w w':World} {p:Option Addr} (h:Idle w p) (hb:Below w.heap.size w w'):Idle w' p:=by
 rcases h with h | ⟨g,h1,h2,h3⟩
 ·
  exact .inl h
 ·
  refine .inr ⟨g,h1,Nat.lt_of_lt_of_le h2 hb.size,?_⟩
  rcases h3 with h | ⟨h,h'⟩
  ·
   exact .inl ((hb.cell (p:=⟨g,0,none⟩) h2).trans h)
  ·
   exact .inr ⟨(hb.cell (p:=⟨g,0,none⟩) h2).trans h,(hb.cell (p:=⟨g,1,none⟩) h2).trans h'⟩
theorem takes_idle (w:World) (p:Option Addr) (h:Idle w p):Calls Tryz.prog 201 #[.pointer p] w fun e w'=>e=.returned (.bool false)∧w=w':=by
 rcases h with rfl | ⟨g,rfl,_,h | ⟨h,h'⟩⟩
 ·
  exact takes_nil w
 ·
  exact takes_none w g h
 ·
  exact takes_self w g true h h'
def Nothing (w:World) (e:Ending) (w':World):Prop:=e=.returned (.tuple #[])∧Below w.heap.size w w'
set_option maxRecDepth 100000 in
theorem number_idle (w:World) (p:Option Addr) (n s:Int) (h:Idle w p):Calls Tryz.prog 125 #[.pointer p,.int .u64 n,.int .i64 s] w fun e w'=>e=.returned (.tuple #[])∧w=w':=by
 have he:=takes_idle w p h
 go_enter Tryz.func125,Tryz.ntmps125
 go_wp2_with fail
 refine he.mono ?_
 rintro e w' ⟨rfl,rfl⟩
 clear he
 go_wp2_with fail
 refine bodyPost_ret (results_none rfl _ _ _) rfl ?_
 exact ⟨rfl,rfl⟩
set_option maxRecDepth 100000 in
theorem u8_idle (w:World) (p:Option Addr) (n:Int) (h:Idle w p):Calls Tryz.prog 58 #[.pointer p,.int .i64 n] w fun e w'=>e=.returned (.tuple #[])∧w=w':=by
 have he:=fun n=>number_idle w p n 1 h
 go_enter Tryz.func58,Tryz.ntmps58
 go_wp2_with fail
 refine (he _).mono ?_
 rintro e w' ⟨rfl,rfl⟩
 clear he
 go_wp2_with fail
 go_end0
 exact ⟨rfl,rfl⟩
set_option maxRecDepth 100000 in
theorem u16_idle (w:World) (p:Option Addr) (n:Int) (h:Idle w p):Calls Tryz.prog 236 #[.pointer p,.int .i64 n] w fun e w'=>e=.returned (.tuple #[])∧w=w':=by
 have he:=fun n=>number_idle w p n 2 h
 go_enter Tryz.func236,Tryz.ntmps236
 go_wp2_with fail
 refine (he _).mono ?_
 rintro e w' ⟨rfl,rfl⟩
 clear he
 go_wp2_with fail
 go_end0
 exact ⟨rfl,rfl⟩
set_option maxRecDepth 100000 in
theorem raw_idle (w:World) (p:Option Addr) (v:Value) (h:Idle w p):Calls Tryz.prog 267 #[.pointer p,v] w fun e w'=>e=.returned (.tuple #[])∧w=w':=by
 have he:=takes_idle w p h
 go_enter Tryz.func267,Tryz.ntmps267
 go_wp2_with fail
 refine he.mono ?_
 rintro e w' ⟨rfl,rfl⟩
 clear he
 go_wp2_with fail
 go_end0
 exact ⟨rfl,rfl⟩
set_option maxRecDepth 100000 in
theorem text_idle (w:World) (p:Option Addr) (s:ByteArray) (h:Idle w p):Calls Tryz.prog 237 #[.pointer p,.string s] w fun e w'=>e=.returned (.tuple #[])∧w=w':=by
 have he:=takes_idle w p h
 have hu:=fun n=>u16_idle w p n h
 go_enter Tryz.func237,Tryz.ntmps237
 go_wp2_with fail
 refine (hu _).mono ?_
 rintro e w' ⟨rfl,rfl⟩
 clear hu
 go_wp2_with fail
 refine he.mono ?_
 rintro e w' ⟨rfl,rfl⟩
 clear he
 go_wp2_with fail
 go_end0
 exact ⟨rfl,rfl⟩
set_option maxRecDepth 100000 in
theorem flag_idle (w:World) (p:Option Addr) (b:Bool) (h:Idle w p):Calls Tryz.prog 266 #[.pointer p,.bool b] w fun e w'=>e=.returned (.tuple #[])∧w=w':=by
 have he:=fun n=>u8_idle w p n h
 cases b
 all_goals
  go_enter Tryz.func266,Tryz.ntmps266
  go_wp2_with fail
  refine (he _).mono ?_
  rintro e w' ⟨rfl,rfl⟩
  clear he
  go_wp2_with fail
  go_end0
  exact ⟨rfl,rfl⟩
set_option maxRecDepth 100000 in
theorem spoil_idle (w:World) (p:Option Addr) (h:Idle w p):Calls Tryz.prog 193 #[.pointer p] w fun e w'=>e=.returned (.tuple #[])∧w=w':=by
 have he:=takes_idle w p h
 go_enter Tryz.func193,Tryz.ntmps193
 go_wp2_with fail
 refine he.mono ?_
 rintro e w' ⟨rfl,rfl⟩
 clear he
 go_wp2_with fail
 go_end0
 exact ⟨rfl,rfl⟩
end Go.Proofs.YtilbbemdinpjcaaGreat.W
namespace Go.Proofs.YtilbbemdinpjcaaGreat.W
open Go.RowKit
def Wr (w:World) (B g:Nat) (l:List UInt8):Prop :=
 ∃ v,Lies w g #[.pointer (some ⟨g,0,none⟩),.bool false,v] 159∧w.ownsRow B 5 1 v l.length (B8 l).toList∧v.ownBlock≠some g∧B≤g
set_option maxRecDepth 100000 in
theorem newwriter_any (w:World):Calls Tryz.prog 36 #[] w fun e w'=>e=.returned (.pointer (some ⟨w.heap.size,0,none⟩))∧Wr w' w.heap.size w.heap.size []∧Below w.heap.size w w':=by
 go_enter Tryz.func36,Tryz.ntmps36
 go_wp2_with fail
 have hl:=Lies.new w #[.pointer none,.bool false,.slice none 0 0] 159
 have hb:Below w.heap.size w (w.alloc (.cells #[.pointer none,.bool false,.slice none 0 0] 159)):=(Below.refl _ _).alloc (Nat.le_refl _) _
 generalize w.alloc (.cells #[.pointer none,.bool false,.slice none 0 0] 159)=w1 at hl hb ⊢
 refine (begin_any w1 w.heap.size (.pointer none) (hl.cell 0 rfl) (hl.free 0) rfl).mono ?_
 rintro e w2 ⟨rfl,hw2⟩
 have hl2:Lies w2 w.heap.size #[.pointer (some ⟨w.heap.size,0,none⟩),.bool false,.slice none 0 0] 159:=by rw [hw2];exact hl.set 0 _
 have hb2:Below w.heap.size w w2:=by rw [hw2];exact hb.setCell (Nat.le_refl _) _
 have HX:=Lib.hid (And.intro hl2 hb2)
 clear hl hb hl2 hb2 hw2
 go_wp2_with fail
 go_ret
 exact ⟨rfl,⟨_,HX.out.1,World.ownsRow_nil _ _ _ _,by simp [Value.ownBlock],Nat.le_refl _⟩,HX.out.2⟩
structure Only (g:Nat) (w w':World) (o:Option Nat):Prop where
 os:w'.os=w.os
 tape:w'.tape=w.tape
 output:w'.output=w.output
 size:w.heap.size≤w'.heap.size
 block:∀ k,k < w.heap.size→k≠g→some k≠o→w'.heap[k]? = w.heap[k]?
theorem Only.refl (g:Nat) (w:World) (o:Option Nat):Only g w w o:=⟨rfl,rfl,rfl,Nat.le_refl _,fun _ _ _ _=>rfl⟩
end Go.Proofs.YtilbbemdinpjcaaGreat.W
namespace Go.Proofs.YtilbbemdinpjcaaGreat.W
open Go.RowKit
theorem info5:(Tryz.prog.info? 5).map (fun i=>(i.zero,i.size,i.bytes))=some (some (.int .u8 0),1,1):=by kernel_rfl
def Src (w:World) (g off:Nat) (xs:List UInt8):Prop:=∀ j,j < xs.length→w.cell? ⟨g,off+j,none⟩=some (.int .u8 (xs.getD j 0).toNat)
theorem src_news {w:World} {g off:Nat} {l:List UInt8} (h:Src w g off l):∀ j u,(B8 l).toList[j]? = some u→w.cell? ((⟨g,off,none⟩:Addr).add j)=some u:=by
 intro j u hu
 rw [Addr.add_mid]
 have hj:j < l.length:=by
  have:=(List.getElem?_eq_some_iff.1 hu).1
  rwa [Array.length_toList,B8_size] at this
 rw [Array.getElem?_toList,B8_get l j hj] at hu
 rw [h j hj,← hu]
theorem byts_one (l:List UInt8):∀ u,u ∈ (B8 l).toList→u.oneCell'=true:=by
 intro u hu
 exact (Array.all_eq_true_iff_forall_mem.1 (B8_one l)) u (by simpa using hu)
def WrV (w:World) (B g:Nat) (v:Value) (l:List UInt8):Prop :=
 Lies w g #[.pointer (some ⟨g,0,none⟩),.bool false,v] 159∧w.ownsRow B 5 1 v l.length (B8 l).toList∧v.ownBlock≠some g∧B≤g
def More (w:World) (B g:Nat) (v:Value) (l:List UInt8) (w':World):Prop :=
 ∃ v',WrV w' B g v' l∧Only g w w' v.ownBlock∧(v'.ownBlock=v.ownBlock ∨ ∃ k,v'.ownBlock=some k∧w.heap.size≤k∧k < w'.heap.size)
theorem own_set {w:World} {base:Nat} {e:TypeId} {size n:Nat} {u:Value} {xs:List Value} {g j:Nat} {x:Value} (h:w.ownsRow base e size u n xs) (hne:u.ownBlock≠some g):(w.setCell ⟨g,j,none⟩ x).ownsRow base e size u n xs:=by
 refine ⟨h.1,?_⟩
 rcases h.2 with hn | ⟨k,cap,cur,h1,h2,h3,h4⟩
 ·
  exact .inl hn
 ·
  exact .inr ⟨k,cap,cur,h1,h2,(heap_setCell_other w _ k x (fun e=>hne (by rw [h1];show some k=some g;rw [e]))).trans h3,h4⟩
theorem own_slice {w:World} {base:Nat} {e:TypeId} {size n:Nat} {u:Value} {xs:List Value} (h:w.ownsRow base e size u n xs):∃ A c,u=.slice A n c:=by
 rcases h.2 with ⟨hv,h0⟩ | ⟨g,cap,cur,rfl,_⟩
 ·
  exact ⟨none,0,by rw [hv,h0]⟩
 ·
  exact ⟨_,cap,rfl⟩
theorem more_of {w w1:World} {B g:Nat} {v v':Value} {l l2:List UInt8} (h:WrV w B g v l) (hown:w1.ownsRow B 5 1 v' l2.length (B8 l2).toList) (hg:w.grownBy w1 v.ownBlock) (hat:v'.ownBlock=v.ownBlock ∨ v'.ownBlock=some w.heap.size) :
  More w B g v l2 (w1.setCell ⟨g,2,none⟩ v'):=by
 obtain ⟨h1,h2,h3,h4⟩:=h
 have hgl:g < w.heap.size:=h1.lt
 have hne:v'.ownBlock≠some g:=by
  rcases hat with e | e
  ·
   rw [e];exact h3
  ·
   rw [e];intro e2;have:=Option.some.inj e2;omega
 have hl1:Lies w1 g #[.pointer (some ⟨g,0,none⟩),.bool false,v] 159:=(hg.block g hgl (fun e=>h3 e.symm)).trans h1
 refine ⟨v',⟨hl1.set 2 v',own_set hown hne,hne,h4⟩,⟨hg.os,hg.tape,hg.output,by rw [size_set];exact hg.size,fun k hk h5 h6=>(heap_setCell_other w1 _ k v' h5).trans (hg.block k hk h6)⟩,?_⟩
 rcases hat with e | e
 ·
  exact .inl e
 ·
  exact .inr ⟨_,e,Nat.le_refl _,by rw [size_set];exact own_lt hown e⟩
def SrcA (w:World) (ad:Addr) (xs:List UInt8):Prop:=∀ j u,(B8 xs).toList[j]? = some u→w.cell? (ad.add j)=some u
theorem block_lt {w:World} {a:Addr} {v:Value} (h:w.cell? a=some v):a.block < w.heap.size:=by
 apply Decidable.byContradiction
 intro hn
 have e:w.heap[a.block]? = none:=by simp;omega
 unfold World.cell? at h
 simp [e] at h
theorem adds_block (a:Addr) (j:Nat):(a.add j).block=a.block:=by unfold Addr.add;split <;> rfl
theorem SrcA.below {B:Nat} {w w':World} {ad:Addr} {xs:List UInt8} (h:SrcA w ad xs) (hb:Below B w w') (hB:0 < xs.length→ad.block < B):SrcA w' ad xs:=by
 intro j u hu
 have hj:=(List.getElem?_eq_some_iff.1 hu).1
 rw [Array.length_toList,B8_size] at hj
 exact (hb.cell (p:=ad.add j) (by rw [adds_block];exact hB (by omega))).trans (h j u hu)
theorem SrcA.lt {w:World} {ad:Addr} {xs:List UInt8} (h:SrcA w ad xs) (hp:0 < xs.length):ad.block < w.heap.size :=
 by
  have:=block_lt (h 0 _ (List.getElem?_eq_getElem (by rw [Array.length_toList,B8_size];exact hp)))
  rwa [adds_block] at this
set_option maxRecDepth 100000 in
theorem raw_anyA (w:World) (B g:Nat) (v:Value) (l xs:List UInt8) (ad:Addr) (c:Nat) (h:WrV w B g v l) (hs:SrcA w ad xs) (hB:B≤w.heap.size) (hx:l.length+xs.length≤2000000) :
  Calls Tryz.prog 267 #[.pointer (some ⟨g,0,none⟩),.slice (some ad) xs.length c] w fun e w'=>e=.returned (.tuple #[])∧More w B g v (l ++ xs) w':=by
 obtain ⟨i0,hi0,hz0,hz1,hz2⟩:=info_parts info5
 have ht:=takes_self w g false (h.1.cell 0 rfl) (h.1.cell 1 rfl)
 have c2:w.cell? ⟨g,2,none⟩=some v:=h.1.cell 2 rfl
 have HW:=Lib.hid h
 have HS:=Lib.hid hs
 clear h hs
 go_enter Tryz.func267,Tryz.ntmps267
 go_wp2_with fail
 refine ht.mono ?_
 rintro e w1 ⟨rfl,rfl⟩
 clear ht
 go_wp2_with (at_builtin;go_must (refine wpList_append_own_at _ rfl _ _ 54 rfl B 5 i0 (.int .u8 0) 1 1 Tryz.underlying54 hi0 hz0 hz1 hz2 rfl (by decide) v l.length (B8 l).toList rfl HW.out.2.1 ad xs.length c (B8 xs).toList rfl (by rw [Array.length_toList,B8_size,Nat.mul_one]) HS.out (byts_one _) (by unfold maxLen;omega) (by omega) hB ?_;intro v' w1 hown hgrow _ hat;obtain ⟨A',cc,rfl⟩:=own_slice hown;have c3:w1.cell? ⟨g,2,none⟩=some v:=(Lies.cell ((hgrow.block g HW.out.1.lt (fun e=>HW.out.2.2.1 e.symm)).trans HW.out.1) 2 rfl);have f3:w1.frozen? ⟨g,2,none⟩=false:=(Lies.free (show Lies w1 g _ 159 from (hgrow.block g HW.out.1.lt (fun e=>HW.out.2.2.1 e.symm)).trans HW.out.1) 2)))
 go_end0
 refine ⟨rfl,more_of HW.out ?_ hgrow hat⟩
 have e:(B8 (l ++ xs)).toList=(B8 l).toList ++ (B8 xs).toList:=by simp [B8]
 rw [e,List.length_append]
 exact hown
theorem raw_any (w:World) (B g:Nat) (v:Value) (l xs:List UInt8) (gx off c:Nat) (h:WrV w B g v l) (hs:Src w gx off xs) (hB:B≤w.heap.size) (hx:l.length+xs.length≤2000000) :
  Calls Tryz.prog 267 #[.pointer (some ⟨g,0,none⟩),.slice (some ⟨gx,off,none⟩) xs.length c] w fun e w'=>e=.returned (.tuple #[])∧More w B g v (l ++ xs) w' :=
 raw_anyA w B g v l xs _ c h (src_news hs) hB hx
end Go.Proofs.YtilbbemdinpjcaaGreat.W
namespace Go.Proofs.YtilbbemdinpjcaaGreat.W
open Go.RowKit
def beN (n s:Nat):List UInt8:=(List.range s).map fun k=>UInt8.ofNat (n / 2 ^ (8 * (s - 1 - k)))
theorem beN_length (n s:Nat):(beN n s).length=s:=by simp [beN]
theorem beN_take (n s t:Nat) (h:t < s):(beN n s).take (t+1)=(beN n s).take t ++ [UInt8.ofNat (n / 2 ^ (8 * (s - 1 - t)))]:=by
 have:t < (beN n s).length:=by rw [beN_length];exact h
 rw [List.take_succ_eq_append_getElem this]
 simp [beN]
theorem u8_of (n:Nat):((n:Int) % 256)=((UInt8.ofNat n).toNat:Int):=by
 rw [UInt8.toNat_ofNat'];omega
theorem ownsRow_alloc {w:World} {base:Nat} {e:TypeId} {size n:Nat} {u:Value} {xs:List Value} (h:w.ownsRow base e size u n xs) (o:Obj):(w.alloc o).ownsRow base e size u n xs:=h.alloc o
theorem ownsRow_drew {w:World} {base:Nat} {e:TypeId} {size n:Nat} {u:Value} {xs:List Value} (h:w.ownsRow base e size u n xs):w.drew.ownsRow base e size u n xs:=h
theorem Only.trans {g:Nat} {w w1 w2:World} {o o1:Option Nat} (h:Only g w w1 o) (k:Only g w1 w2 o1) (hat:o1=o ∨ ∃ x,o1=some x∧w.heap.size≤x):Only g w w2 o:=by
 refine ⟨k.os.trans h.os,k.tape.trans h.tape,k.output.trans h.output,Nat.le_trans h.size k.size,fun i hi h1 h2 => ?_⟩
 refine (k.block i (Nat.lt_of_lt_of_le hi h.size) h1 ?_).trans (h.block i hi h1 h2)
 rcases hat with rfl | ⟨x,rfl,hx⟩
 ·
  exact h2
 ·
  intro e;have:=Option.some.inj e;omega
theorem More.trans {w w1 w2:World} {B g:Nat} {v v1:Value} {l:List UInt8} (h1:Only g w w1 v.ownBlock) (hat:v1.ownBlock=v.ownBlock ∨ ∃ k,v1.ownBlock=some k∧w.heap.size≤k∧k < w1.heap.size) (k:More w1 B g v1 l w2):More w B g v l w2:=by
 obtain ⟨v2,a,b,c⟩:=k
 refine ⟨v2,a,h1.trans b (hat.imp id fun ⟨k,e,h,_⟩=>⟨k,e,h⟩),?_⟩
 rcases c with e | ⟨x,e,hx⟩
 ·
  exact hat.imp (fun h=>e.trans h) (fun ⟨k,hk,h2,h3⟩=>⟨k,e.trans hk,h2,Nat.lt_of_lt_of_le h3 b.size⟩)
 ·
  exact .inr ⟨x,e,Nat.le_trans h1.size hx.1,hx.2⟩
set_option maxRecDepth 100000 in
theorem number_any (w:World) (B g:Nat) (v:Value) (l:List UInt8) (n s:Nat) (h:WrV w B g v l) (hB:B≤w.heap.size) (hx:l.length≤1000000) (hn:n < 18446744073709551616) (hs:s≤8) (hfit:n / 2 ^ (8 * s)=0) :
 Calls Tryz.prog 125 #[.pointer (some ⟨g,0,none⟩),.int .u64 n,.int .i64 s] w fun e w'=>e=.returned (.tuple #[])∧More w B g v (l ++ beN n s) w':=by
 have ht:=takes_self w g false (h.1.cell 0 rfl) (h.1.cell 1 rfl)
 have HW:=Lib.hid h
 clear h
 go_enter Tryz.func125,Tryz.ntmps125
 go_wp2_with fail
 refine ht.mono ?_
 rintro e w1 ⟨rfl,rfl⟩
 clear ht
 have hz:((n:Int) / 2 ^ (8 * s) != 0)=false:=by
  rw [bne_eq_false_iff_eq]
  have e:(2:Int) ^ (8 * s)=((2 ^ (8 * s):Nat):Int):=by simp
  rw [e,← Int.natCast_ediv,hfit];rfl
 go_wp2_with fail
 clear hz hfit
 have h0:More w B g v (l ++ (beN n s).take 0) w:=⟨v,by simpa using HW.out,Only.refl g w _,.inl rfl⟩
 have H0:=Lib.hid h0
 clear h0
 go_loopw [6] (fun i wr=>∃ t:Nat,t≤s∧i=.int .i64 ((s:Int) - 1 - (t:Int))∧More w B g v (l ++ (beN n s).take t) wr) (fun i _=>(intOf i+1).toNat)
 case atStart=>exact ⟨0,by omega,by refine congrArg (Value.int .i64) ?_;omega,H0.out⟩
 case round =>
  obtain ⟨t,ht,rfl,v1,hw1,ho1,ha1⟩:=hrel
  by_cases hlt:t < s
  · obtain ⟨d,hd⟩:∃ d,d=s - 1 - t:=⟨_,rfl⟩
    have e1:(s:Int) - 1 - (t:Int)=(d:Int):=by omega
    rw [e1]
    have d7:d≤7:=by omega
    have d0:(0:Int)≤(d:Int):=by omega
    have d8:(d:Int)≤7:=by omega
    have hbyte:Value.int .u8 (IntKind.u8.wrap ((n:Int) / 2 ^ (8 * d)))=.int .u8 ((UInt8.ofNat (n / 2 ^ (8 * d))).toNat:Int):=by
     have e:(2:Int) ^ (8 * d)=((2 ^ (8 * d):Nat):Int):=by simp
     rw [e,← Int.natCast_ediv,IntKind.wrap_u8',u8_of]
    have htk:=beN_take n s t hlt
    rw [← hd] at htk
    obtain ⟨i0,hi0,hz0,hz1,hz2⟩:=info_parts info5
    have c2:wr.cell? ⟨g,2,none⟩=some v1:=hw1.1.cell 2 rfl
    have f2:wr.frozen? ⟨g,2,none⟩=false:=hw1.1.free 2
    have hlen:(l ++ (beN n s).take t).length≤1000008:=by rw [List.length_append,List.length_take,beN_length];omega
    have hgl:g < wr.heap.size:=hw1.1.lt
    have hvg:some g≠v1.ownBlock:=fun e=>hw1.2.2.1 e.symm
    have HW1:=Lib.hid hw1
    have HD:=Lib.hid hd
    have HTK:=Lib.hid htk
    have HBY:=Lib.hid hbyte
    have x4:(0:Int)≤8 * (d:Int):=by omega
    have x5:8 * (d:Int)≤64:=by omega
    have x6:(8 * (d:Int)).toNat=8 * d:=by omega
    have x7:IntKind.i64.wrap (8 * (d:Int))=8 * (d:Int):=by rw [IntKind.wrap_i64];omega
    have x8:¬ 8 * (d:Int) < 0:=by omega
    have hs1:=ho1.size
    clear hd e1 htk hbyte hw1
    go_upto_region 6 with fail
    obtain ⟨l1,hl1⟩:∃ l1,l1=l ++ (beN n s).take t:=⟨_,rfl⟩
    rw [← hl1] at HW1 hlen
    have HL1:=Lib.hid hl1
    clear hl1
    have c4:wr.drew.cell? ⟨g,2,none⟩=some v1:=c2
    have hgl2:g < wr.drew.heap.size:=hgl
    go_region_law (first
     | (refine step_append_lies _ (by rfl) _ _ _ (by rfl) B 5 i0 _ 1 1 Tryz.underlying54 hi0 hz0 hz1 hz2 rfl (by omega) v1 l1.length _ (by rfl) (ownsRow_drew (ownsRow_alloc HW1.out.2.1 _))
         ⟨wr.heap.size,0,none⟩ 1 1 [.int .u8 (IntKind.u8.wrap ((n:Int) / 2 ^ (8 * d)))] (by rfl) (by rfl) (World.news_of_block (cs:=#[.int .u8 (IntKind.u8.wrap ((n:Int) / 2 ^ (8 * d)))]) (t:=5) (fr:=(0,0)) (heap_alloc_new wr _)) (by simp [Value.oneCell'])
         (by omega) (by unfold maxLen;omega) (by omega) (by simp;omega) (wr.heap.size+1) (by simp) ?_;intro gg cap w1 hown1 hgrow hat hlt2
        have f3:w1.frozen? ⟨g,2,none⟩=false:=by rw [hgrow.frozen_far _ (by simp;omega) hvg];exact (HW1.out.1.alloc _).free 2
        have c3:w1.cell? ⟨g,2,none⟩=some v1:=by rw [hgrow.cell_far _ (by simp;omega) hvg];exact (HW1.out.1.alloc _).cell 2 rfl))
    all_goals
     have hwv:WrV (wr.alloc (.cells #[.int .u8 (IntKind.u8.wrap ((n:Int) / 2 ^ (8 * d)))] 5)).drew B g v1 l1:=⟨HW1.out.1.alloc _,ownsRow_alloc HW1.out.2.1 _,HW1.out.2.2⟩
     have hon:Only g w (wr.alloc (.cells #[.int .u8 (IntKind.u8.wrap ((n:Int) / 2 ^ (8 * d)))] 5)).drew v.ownBlock :=
      ⟨ho1.os,ho1.tape,ho1.output,by simp;omega,fun k hk h1 h2=>(Below.heap_alloc wr _ k (Nat.lt_of_lt_of_le hk ho1.size)).trans (ho1.block k hk h1 h2)⟩
     have hown2:w1.ownsRow B 5 1 (.slice (some ⟨gg,0,none⟩) (l1.length+1) cap) (l1 ++ [UInt8.ofNat (n / 2 ^ (8 * d))]).length (B8 (l1 ++ [UInt8.ofNat (n / 2 ^ (8 * d))])).toList:=by
      have e:(B8 (l1 ++ [UInt8.ofNat (n / 2 ^ (8 * d))])).toList=(B8 l1).toList ++ [.int .u8 (UInt8.ofNat (n / 2 ^ (8 * d))).toNat]:=by simp [B8]
      rw [e,List.length_append,← HBY.out]
      exact hown1
     have hmo:=More.trans hon (ha1.imp id fun ⟨k,a1,a2,a3⟩=>⟨k,a1,a2,by have:=a3;simp;omega⟩) (more_of hwv hown2 hgrow (by
      rcases hat with e | e
      · exact .inl e.symm
      · exact .inr (by rw [e];simp [Value.ownBlock])))
     rw [HL1.out,List.append_assoc,← HTK.out] at hmo
     rw [← HL1.out] at hmo
     have HMO:=Lib.hid hmo
     clear hmo hown2 hon hwv hown1 hgrow c3 f3 hat hlt2 c4 c2 f2
     go_wp2_with fail
     refine ⟨⟨t+1,by omega,by have:=HD.out;refine congrArg (Value.int .i64) ?_;omega,HMO.out⟩,?_⟩
     simp [intOf]
  · obtain rfl:t=s:=by omega
    have hm:More w B g v (l ++ beN n t) wr:=by
     have:=(⟨v1,hw1,ho1,ha1⟩:More w B g v (l ++ (beN n t).take t) wr)
     rwa [List.take_of_length_le (by rw [beN_length];exact Nat.le_refl _)] at this
    have HM:=Lib.hid hm
    clear hm hw1 ho1 ha1 H0
    have e1:(t:Int) - 1 - (t:Int)=-1:=by omega
    rw [e1]
    go_wp2_with fail
    go_end0
    exact ⟨rfl,HM.out⟩
end Go.Proofs.YtilbbemdinpjcaaGreat.W
namespace Go.Proofs.YtilbbemdinpjcaaGreat.W
open Go.RowKit
set_option maxRecDepth 100000 in
theorem number_big (w:World) (B g:Nat) (v:Value) (l:List UInt8) (n s:Nat) (h:WrV w B g v l) (hs:s≤8) (hfit:n / 2 ^ (8 * s)≠0) :
  Calls Tryz.prog 125 #[.pointer (some ⟨g,0,none⟩),.int .u64 n,.int .i64 s] w fun e w'=>e=.returned (.tuple #[])∧w'=w.setCell ⟨g,1,none⟩ (.bool true):=by
 have ht:=takes_self w g false (h.1.cell 0 rfl) (h.1.cell 1 rfl)
 have hsp:=spoil_any w g (.bool false) (h.1.cell 1 rfl) (h.1.free 1) rfl
 have HSP:=Lib.hid hsp
 clear h hsp
 go_enter Tryz.func125,Tryz.ntmps125
 go_wp2_with fail
 refine ht.mono ?_
 rintro e w1 ⟨rfl,rfl⟩
 clear ht
 have hz:((n:Int) / 2 ^ (8 * s) != 0)=true:=by
  rw [bne_iff_ne]
  have e:(2:Int) ^ (8 * s)=((2 ^ (8 * s):Nat):Int):=by simp
  rw [e,← Int.natCast_ediv]
  omega
 go_wp2_with fail
 refine HSP.out.mono ?_
 rintro e w2 ⟨rfl,hw2⟩
 have HW2:=Lib.hid hw2
 clear hw2 hz hfit
 go_wp2_with fail
 refine bodyPost_ret (results_none rfl _ _ _) rfl ?_
 exact ⟨rfl,HW2.out⟩
set_option maxRecDepth 100000 in
theorem u8_any (w:World) (B g:Nat) (v:Value) (l:List UInt8) (n:Nat) (h:WrV w B g v l) (hB:B≤w.heap.size) (hx:l.length≤1000000) (hn:n < 256) :
  Calls Tryz.prog 58 #[.pointer (some ⟨g,0,none⟩),.int .i64 n] w fun e w'=>e=.returned (.tuple #[])∧More w B g v (l ++ beN n 1) w':=by
 have he:=number_any w B g v l n 1 h hB hx (by omega) (by omega) (Nat.div_eq_of_lt hn)
 have HE:=Lib.hid he
 clear he h
 have hw:IntKind.u64.wrap (n:Int)=(n:Int):=by rw [IntKind.wrap_u64];omega
 go_enter Tryz.func58,Tryz.ntmps58
 go_wp2_with fail
 refine HE.out.mono ?_
 rintro e w' ⟨rfl,hm⟩
 have HM:=Lib.hid hm
 clear HE hm
 go_wp2_with fail
 go_end0
 exact ⟨rfl,HM.out⟩
set_option maxRecDepth 100000 in
theorem u16_any (w:World) (B g:Nat) (v:Value) (l:List UInt8) (n:Nat) (h:WrV w B g v l) (hB:B≤w.heap.size) (hx:l.length≤1000000) (hn:n < 65536) :
  Calls Tryz.prog 236 #[.pointer (some ⟨g,0,none⟩),.int .i64 n] w fun e w'=>e=.returned (.tuple #[])∧More w B g v (l ++ beN n 2) w':=by
 have he:=number_any w B g v l n 2 h hB hx (by omega) (by omega) (Nat.div_eq_of_lt hn)
 have HE:=Lib.hid he
 clear he h
 have hw:IntKind.u64.wrap (n:Int)=(n:Int):=by rw [IntKind.wrap_u64];omega
 go_enter Tryz.func236,Tryz.ntmps236
 go_wp2_with fail
 refine HE.out.mono ?_
 rintro e w' ⟨rfl,hm⟩
 have HM:=Lib.hid hm
 clear HE hm
 go_wp2_with fail
 go_end0
 exact ⟨rfl,HM.out⟩
end Go.Proofs.YtilbbemdinpjcaaGreat.W
namespace Go.Proofs.YtilbbemdinpjcaaGreat.W
open Go.RowKit
theorem eql_slice_nil (w:World) (a:Option Addr) (l c:Nat):(binOp .eql 54 (.slice a l c) (.slice none 0 0)).run Tryz.prog w=.ok (.bool a.isNone) w:=by
 simp only [binOp]
 simp [run_equal_slice_nil (P:=Tryz.prog) w 54 5 a l c Tryz.underlying54]
set_option maxRecDepth 100000 in
theorem clone_nil (w:World):Calls Tryz.prog 85 #[.slice none 0 0] w fun e w'=>e=.returned (.slice none 0 0)∧w=w':=by
 have hq:=eql_slice_nil w none 0 0
 go_enter Tryz.func85,Tryz.ntmps85
 go_wp2
 go_ret
 exact ⟨rfl,rfl⟩
set_option maxRecDepth 100000 in
theorem clone_anyA (w:World) (xs:List UInt8) (ad:Addr) (c:Nat) (hs:SrcA w ad xs) (hx:xs.length≤2000000) :
  Calls Tryz.prog 85 #[.slice (some ad) xs.length c] w fun e w'=>∃ v,e=.returned v∧w'.ownsRow w.heap.size 5 1 v xs.length (B8 xs).toList∧Below w.heap.size w w':=by
 obtain ⟨i0,hi0,hz0,hz1,hz2⟩:=info_parts info5
 have he:(w.alloc (.cells #[] 5)).ownsRow w.heap.size 5 1 (.slice (some ⟨w.heap.size,0,none⟩) 0 0) 0 []:=World.ownsRow_made w #[] 0 (Nat.le_refl _) (Nat.zero_le _) rfl
 have hb:Below w.heap.size w (w.alloc (.cells #[] 5)):=(Below.refl _ _).alloc (Nat.le_refl _) _
 have hs2:SrcA (w.alloc (.cells #[] 5)) ad xs:=hs.below hb hs.lt
 have HE:=Lib.hid he
 have HB:=Lib.hid hb
 have HS:=Lib.hid hs2
 clear he hb hs2 hs
 have hq:=eql_slice_nil w (some ad) xs.length c
 go_enter Tryz.func85,Tryz.ntmps85
 go_wp2_with (at_builtin;go_must (refine wpList_append_own_at _ rfl _ _ 54 rfl w.heap.size 5 i0 (.int .u8 0) 1 1 Tryz.underlying54 hi0 hz0 hz1 hz2 rfl (by decide) _ 0 [] rfl HE.out ad xs.length c (B8 xs).toList rfl (by rw [Array.length_toList,B8_size,Nat.mul_one]) HS.out (byts_one _) (by unfold maxLen;omega) (by omega) (by simp) ?_;intro v' w1 hown hgrow _ hat))
 go_ret
 refine ⟨_,rfl,by simpa using hown,HB.out.grown hgrow (by simp) (fun k e => ?_)⟩
 have:w.heap.size=k:=Option.some.inj e
 omega
theorem clone_any (w:World) (xs:List UInt8) (gx off c:Nat) (hs:Src w gx off xs) (_hg:gx < w.heap.size) (hx:xs.length≤2000000) :
  Calls Tryz.prog 85 #[.slice (some ⟨gx,off,none⟩) xs.length c] w fun e w'=>∃ v,e=.returned v∧w'.ownsRow w.heap.size 5 1 v xs.length (B8 xs).toList∧Below w.heap.size w w' :=
 clone_anyA w xs _ c (src_news hs) hx
end Go.Proofs.YtilbbemdinpjcaaGreat.W
