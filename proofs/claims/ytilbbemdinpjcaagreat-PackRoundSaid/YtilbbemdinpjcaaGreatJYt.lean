/-
  pack: the law's only, sort by sort (written by tools/gen_only.py).
-/
import Derived.Test.YtilbbemdinpjcaaGreatJYs
import Derived.Test.YtilbbemdinpjcaaGreatJYq
set_option maxHeartbeats 16000000
namespace Go.Proofs.YtilbbemdinpjcaaGreat.P
set_option maxRecDepth 100000
open Go.RowKit Go.Sort
def onlyT (x:Th):Nat→Th
 | 0=>{ thZ with tp:=x.tp,ns:=x.ns,tc:=x.tc }
 | 1=>{ thZ with pa:=x.pa,l:=x.l,c:=x.c }
 | 2=>{ thZ with v:=x.v }
 | 3=>{ thZ with pt:=x.pt,t:=x.t,ct:=x.ct }
 | 4=>{ thZ with o:=x.o }
 | 5=>{ thZ with r:=x.r }
 | 6=>{ thZ with pe:=x.pe,es:=x.es,ce:=x.ce }
 | _=>{ thZ with d:=x.d }
theorem below_only {B q:Nat} {w W0 W2:World} (h:Below B w W0) (ho:W.Only q W0 W2 none) (hq:B≤q) (hB:B≤w.heap.size):Below B w W2 :=
 ⟨ho.os.trans h.os,ho.tape.trans h.tape,ho.output.trans h.output,Nat.le_trans h.size ho.size,fun j hj=>(ho.block j (Nat.lt_of_lt_of_le (Nat.lt_of_lt_of_le hj hB) h.size) (by omega) (by simp)).trans (h.block j hj)⟩
theorem only_tail {w W0 W2:World} {p r q:Nat} {x:Th} (hb:Below w.heap.size w W0) (hr:Lies W0 r Tryz.zeroCells42 42) (er:r=w.heap.size+1) (eq:q=w.heap.size+2) (hp1:Lies W2 q (thC x) 42) (hp2:W.Only q W0 W2 none) (h1:x.o.ah.length=32) (h2:x.o.dh.length=32) (h3:x.r.tx.length=32) :
  ∃ tc:Array Value,tc.size=113∧(storeCells ⟨r,0,none⟩ tc.toList 0).run Tryz.prog W2=.ok () (W2.setRow r tc)∧Hid (Lies W2 q tc 42∧(Tryz.prog.info? 42).map (·.size)=some tc.size)∧Hid (Lies (W2.setRow r tc) r tc 42∧tc=thC x∧Below w.heap.size w (W2.setRow r tc)):=by
 have htz:(thC x).size=113:=thC_size x h1 h2 h3
 have hr2:=hp2.lies hr (by omega)
 refine ⟨thC x,htz,?_,Hj ⟨hp1,by rw [htz];exact info_thing⟩,Hj ⟨hr2.setRow _,rfl,below_only (below_only hb hp2 (by omega) (Nat.le_refl _)) (only_rowsG r W2 (thC x)) (by omega) (Nat.le_refl _)⟩⟩
 have:=run_storeCells_from (P:=Tryz.prog) r 42 (thC x).toList 0 Tryz.zeroCells42 W2 hr2 (by rw [Array.length_toList,htz];kernel_rfl) (fun v hv=>(Array.all_eq_true_iff_forall_mem.1 (thC_one x)) v (by simpa using hv))
 simpa using this
theorem only0_any (w:World) (x:Th) (h1:x.o.ah.length=32) (h2:x.o.dh.length=32) (h3:x.r.tx.length=32) :
  Calls Tryz.prog 39 #[.agg (thC x),.int .i64 0] w fun e w'=>e=.returned (.agg (thC (onlyT x 0)))∧Below w.heap.size w w':=by
 obtain ⟨b1,b2,b3,b4,b5⟩:=box_three w (thC x) Tryz.zeroCells42 Tryz.zeroCells42 42 42 42
 obtain ⟨W0,HW⟩:∃ W0,((w.alloc (.cells (thC x) 42)).alloc (.cells Tryz.zeroCells42 42)).alloc (.cells Tryz.zeroCells42 42)=W0:=⟨_,rfl⟩
 rw [HW] at b1 b2 b3 b4 b5
 obtain ⟨p,hp⟩:∃ p,p=w.heap.size:=⟨_,rfl⟩
 obtain ⟨r,hr⟩:∃ p,p=w.heap.size+1:=⟨_,rfl⟩
 obtain ⟨q,hq⟩:∃ q,q=w.heap.size+2:=⟨_,rfl⟩
 have ht:=thAt_of b1 h1 h2 h3
 have hL:=b3
 rw [thZ_cells] at hL
 rw [← hp] at ht
 rw [← hq] at hL
 rw [← hr] at b2
 obtain ⟨ta,hta⟩:∃ y,y=x.tp:=⟨_,rfl⟩
 obtain ⟨n,hn⟩:∃ y,y=x.ns.length:=⟨_,rfl⟩
 obtain ⟨xa,hxa⟩:∃ y,y=x.tc:=⟨_,rfl⟩
 have c0:W0.cell? ⟨p,0,none⟩=some (.slice ta n xa):=by rw [hta,hn,hxa];exact ht.t
 obtain ⟨hp1,hp2⟩:=th_put (U:=W0) (q:=q) 0 [.slice ta n xa] (onlyT x 0) [] [.slice none 0 0] (.slice none 0 0 :: .int .i64 0 :: .slice none 0 0 :: .slice none 0 0 :: ((otC otZ).toList ++ ((refC rfZ).toList ++ (.slice none 0 0 :: (dfC dfZ).toList)))) hL (by simp only [thL,List.append_assoc];rfl) (by show thL { thZ with tp:=x.tp,ns:=x.ns,tc:=x.tc }=_;simp only [thL,List.append_assoc];rw [hta,hn,hxa];rfl) (rfl) (by kernel_rfl)
 obtain ⟨W2,hW2⟩:∃ W2,W0.setCells q 0 [.slice ta n xa]=W2:=⟨_,rfl⟩
 rw [hW2] at hp1 hp2
 have hW2:W0.setCell ⟨q,0,none⟩ (.slice ta n xa)=W2:=hW2
 have hc0:W0.cell? ⟨q,0,none⟩=some (.slice none 0 0):=hL.cell 0 (by rw [← thZ_cells];kernel_rfl)
 have hf0:W0.frozen? ⟨q,0,none⟩=false:=hL.free _
 obtain ⟨tc,htz,hsc2,HT,HF⟩:=only_tail (p:=p) b4 b2 hr hq hp1 hp2 rfl rfl rfl
 obtain ⟨xc,hxc⟩:∃ y,y=thC x:=⟨_,rfl⟩
 rw [← hxc] at HW ⊢
 clear h1 h2 h3 b1 b2 b3 b4 b5 ht hL hp1 hp2 hta hn hxa hxc 
 go_enter Tryz.func39,Tryz.ntmps39
 go_upto_region 2 with fail
 rw [← hp,show p+1=r by rw [hp,hr],show r+1=q by rw [hr,hq]]
 clear HW hp hr hq
 go_wp2_with (first
  | (at_builtin;fail)
  | fail
  | (refine wpList_load_row rfl 42 _ rfl q rfl 42 tc (0,0) _ HT.out.1 Tryz.underlying42 rfl HT.out.2 ?_))
 exact bodyPost_ret (v:=.agg tc) (results_cell_row (p:=4) (ty:=42) (by kernel_rfl) _ _ r 42 tc (0,0) _ rfl HF.out.1 Tryz.underlying42 rfl HT.out.2) rfl ⟨by rw [HF.out.2.1],HF.out.2.2⟩
theorem only1_any (w:World) (x:Th) (h1:x.o.ah.length=32) (h2:x.o.dh.length=32) (h3:x.r.tx.length=32) :
  Calls Tryz.prog 39 #[.agg (thC x),.int .i64 1] w fun e w'=>e=.returned (.agg (thC (onlyT x 1)))∧Below w.heap.size w w':=by
 obtain ⟨b1,b2,b3,b4,b5⟩:=box_three w (thC x) Tryz.zeroCells42 Tryz.zeroCells42 42 42 42
 obtain ⟨W0,HW⟩:∃ W0,((w.alloc (.cells (thC x) 42)).alloc (.cells Tryz.zeroCells42 42)).alloc (.cells Tryz.zeroCells42 42)=W0:=⟨_,rfl⟩
 rw [HW] at b1 b2 b3 b4 b5
 obtain ⟨p,hp⟩:∃ p,p=w.heap.size:=⟨_,rfl⟩
 obtain ⟨r,hr⟩:∃ p,p=w.heap.size+1:=⟨_,rfl⟩
 obtain ⟨q,hq⟩:∃ q,q=w.heap.size+2:=⟨_,rfl⟩
 have ht:=thAt_of b1 h1 h2 h3
 have hL:=b3
 rw [thZ_cells] at hL
 rw [← hp] at ht
 rw [← hq] at hL
 rw [← hr] at b2
 obtain ⟨ta,hta⟩:∃ y,y=x.pa:=⟨_,rfl⟩
 obtain ⟨n,hn⟩:∃ y,y=x.l.length:=⟨_,rfl⟩
 obtain ⟨xa,hxa⟩:∃ y,y=x.c:=⟨_,rfl⟩
 have c0:W0.cell? ⟨p,1,none⟩=some (.slice ta n xa):=by rw [hta,hn,hxa];exact ht.a
 obtain ⟨hp1,hp2⟩:=th_put (U:=W0) (q:=q) 1 [.slice ta n xa] (onlyT x 1) [.slice none 0 0] [.slice none 0 0] (.int .i64 0 :: .slice none 0 0 :: .slice none 0 0 :: ((otC otZ).toList ++ ((refC rfZ).toList ++ (.slice none 0 0 :: (dfC dfZ).toList)))) hL (by simp only [thL,List.append_assoc];rfl) (by show thL { thZ with pa:=x.pa,l:=x.l,c:=x.c }=_;simp only [thL,List.append_assoc];rw [hta,hn,hxa];rfl) (rfl) (by kernel_rfl)
 obtain ⟨W2,hW2⟩:∃ W2,W0.setCells q 1 [.slice ta n xa]=W2:=⟨_,rfl⟩
 rw [hW2] at hp1 hp2
 have hW2:W0.setCell ⟨q,1,none⟩ (.slice ta n xa)=W2:=hW2
 have hc0:W0.cell? ⟨q,1,none⟩=some (.slice none 0 0):=hL.cell 1 (by rw [← thZ_cells];kernel_rfl)
 have hf0:W0.frozen? ⟨q,1,none⟩=false:=hL.free _
 obtain ⟨tc,htz,hsc2,HT,HF⟩:=only_tail (p:=p) b4 b2 hr hq hp1 hp2 rfl rfl rfl
 obtain ⟨xc,hxc⟩:∃ y,y=thC x:=⟨_,rfl⟩
 rw [← hxc] at HW ⊢
 clear h1 h2 h3 b1 b2 b3 b4 b5 ht hL hp1 hp2 hta hn hxa hxc 
 go_enter Tryz.func39,Tryz.ntmps39
 go_upto_region 2 with fail
 rw [← hp,show p+1=r by rw [hp,hr],show r+1=q by rw [hr,hq]]
 clear HW hp hr hq
 go_wp2_with (first
  | (at_builtin;fail)
  | fail
  | (refine wpList_load_row rfl 42 _ rfl q rfl 42 tc (0,0) _ HT.out.1 Tryz.underlying42 rfl HT.out.2 ?_))
 exact bodyPost_ret (v:=.agg tc) (results_cell_row (p:=4) (ty:=42) (by kernel_rfl) _ _ r 42 tc (0,0) _ rfl HF.out.1 Tryz.underlying42 rfl HT.out.2) rfl ⟨by rw [HF.out.2.1],HF.out.2.2⟩
theorem only2_any (w:World) (x:Th) (h1:x.o.ah.length=32) (h2:x.o.dh.length=32) (h3:x.r.tx.length=32) :
  Calls Tryz.prog 39 #[.agg (thC x),.int .i64 2] w fun e w'=>e=.returned (.agg (thC (onlyT x 2)))∧Below w.heap.size w w':=by
 obtain ⟨b1,b2,b3,b4,b5⟩:=box_three w (thC x) Tryz.zeroCells42 Tryz.zeroCells42 42 42 42
 obtain ⟨W0,HW⟩:∃ W0,((w.alloc (.cells (thC x) 42)).alloc (.cells Tryz.zeroCells42 42)).alloc (.cells Tryz.zeroCells42 42)=W0:=⟨_,rfl⟩
 rw [HW] at b1 b2 b3 b4 b5
 obtain ⟨p,hp⟩:∃ p,p=w.heap.size:=⟨_,rfl⟩
 obtain ⟨r,hr⟩:∃ p,p=w.heap.size+1:=⟨_,rfl⟩
 obtain ⟨q,hq⟩:∃ q,q=w.heap.size+2:=⟨_,rfl⟩
 have ht:=thAt_of b1 h1 h2 h3
 have hL:=b3
 rw [thZ_cells] at hL
 rw [← hp] at ht
 rw [← hq] at hL
 rw [← hr] at b2
 obtain ⟨y,hy⟩:∃ y,y=x.v.coin:=⟨_,rfl⟩
 obtain ⟨ta,hta⟩:∃ y,y=x.v.pa:=⟨_,rfl⟩
 obtain ⟨n,hn⟩:∃ y,y=x.v.l.length:=⟨_,rfl⟩
 obtain ⟨xa,hxa⟩:∃ y,y=x.v.c:=⟨_,rfl⟩
 have c0:W0.cell? ⟨p,2,none⟩=some (.int .i64 y):=by rw [hy];exact ht.c
 have c1:W0.cell? ⟨p,3,none⟩=some (.slice ta n xa):=by rw [hta,hn,hxa];exact ht.v
 obtain ⟨hp1,hp2⟩:=th_put (U:=W0) (q:=q) 2 [.int .i64 y,.slice ta n xa] (onlyT x 2) [.slice none 0 0,.slice none 0 0] [.int .i64 0,.slice none 0 0] (.slice none 0 0 :: ((otC otZ).toList ++ ((refC rfZ).toList ++ (.slice none 0 0 :: (dfC dfZ).toList)))) hL (by simp only [thL,List.append_assoc];rfl) (by show thL { thZ with v:=x.v }=_;simp only [thL,List.append_assoc];rw [hy,hta,hn,hxa];rfl) (rfl) (by kernel_rfl)
 obtain ⟨W2,hW2⟩:∃ W2,W0.setCells q 2 [.int .i64 y,.slice ta n xa]=W2:=⟨_,rfl⟩
 rw [hW2] at hp1 hp2
 have hW2:(W0.setCell ⟨q,2,none⟩ (.int .i64 y)).setCell ⟨q,3,none⟩ (.slice ta n xa)=W2:=hW2
 have hc0:W0.cell? ⟨q,2,none⟩=some (.int .i64 0):=hL.cell 2 (by rw [← thZ_cells];kernel_rfl)
 have hf0:W0.frozen? ⟨q,2,none⟩=false:=hL.free _
 have hc1:W0.cell? ⟨q,3,none⟩=some (.slice none 0 0):=hL.cell 3 (by rw [← thZ_cells];kernel_rfl)
 have hf1:W0.frozen? ⟨q,3,none⟩=false:=hL.free _
 have hf2:∀ v,(W0.setCell ⟨q,2,none⟩ v).frozen? ⟨q,3,none⟩=false:=fun v=>(hL.set 2 v).free _
 have hc2:∀ v,(W0.setCell ⟨q,2,none⟩ v).cell? ⟨q,3,none⟩=some (.slice none 0 0):=fun v=>(hL.set 2 v).cell 3 (by rw [← thZ_cells];kernel_rfl)
 obtain ⟨tc,htz,hsc2,HT,HF⟩:=only_tail (p:=p) b4 b2 hr hq hp1 hp2 rfl rfl rfl
 obtain ⟨xc,hxc⟩:∃ y,y=thC x:=⟨_,rfl⟩
 rw [← hxc] at HW ⊢
 clear h1 h2 h3 b1 b2 b3 b4 b5 ht hL hp1 hp2 hy hta hn hxa hxc 
 go_enter Tryz.func39,Tryz.ntmps39
 go_upto_region 2 with fail
 rw [← hp,show p+1=r by rw [hp,hr],show r+1=q by rw [hr,hq]]
 clear HW hp hr hq
 go_wp2_with (first
  | (at_builtin;fail)
  | fail
  | (refine wpList_load_row rfl 42 _ rfl q rfl 42 tc (0,0) _ HT.out.1 Tryz.underlying42 rfl HT.out.2 ?_))
 exact bodyPost_ret (v:=.agg tc) (results_cell_row (p:=4) (ty:=42) (by kernel_rfl) _ _ r 42 tc (0,0) _ rfl HF.out.1 Tryz.underlying42 rfl HT.out.2) rfl ⟨by rw [HF.out.2.1],HF.out.2.2⟩
theorem only3_any (w:World) (x:Th) (h1:x.o.ah.length=32) (h2:x.o.dh.length=32) (h3:x.r.tx.length=32) :
  Calls Tryz.prog 39 #[.agg (thC x),.int .i64 3] w fun e w'=>e=.returned (.agg (thC (onlyT x 3)))∧Below w.heap.size w w':=by
 obtain ⟨b1,b2,b3,b4,b5⟩:=box_three w (thC x) Tryz.zeroCells42 Tryz.zeroCells42 42 42 42
 obtain ⟨W0,HW⟩:∃ W0,((w.alloc (.cells (thC x) 42)).alloc (.cells Tryz.zeroCells42 42)).alloc (.cells Tryz.zeroCells42 42)=W0:=⟨_,rfl⟩
 rw [HW] at b1 b2 b3 b4 b5
 obtain ⟨p,hp⟩:∃ p,p=w.heap.size:=⟨_,rfl⟩
 obtain ⟨r,hr⟩:∃ p,p=w.heap.size+1:=⟨_,rfl⟩
 obtain ⟨q,hq⟩:∃ q,q=w.heap.size+2:=⟨_,rfl⟩
 have ht:=thAt_of b1 h1 h2 h3
 have hL:=b3
 rw [thZ_cells] at hL
 rw [← hp] at ht
 rw [← hq] at hL
 rw [← hr] at b2
 obtain ⟨ta,hta⟩:∃ y,y=x.pt:=⟨_,rfl⟩
 obtain ⟨n,hn⟩:∃ y,y=x.t.length:=⟨_,rfl⟩
 obtain ⟨xa,hxa⟩:∃ y,y=x.ct:=⟨_,rfl⟩
 have c0:W0.cell? ⟨p,4,none⟩=some (.slice ta n xa):=by rw [hta,hn,hxa];exact ht.tot
 obtain ⟨hp1,hp2⟩:=th_put (U:=W0) (q:=q) 4 [.slice ta n xa] (onlyT x 3) [.slice none 0 0,.slice none 0 0,.int .i64 0,.slice none 0 0] [.slice none 0 0] ((otC otZ).toList ++ ((refC rfZ).toList ++ (.slice none 0 0 :: (dfC dfZ).toList))) hL (by simp only [thL,List.append_assoc];rfl) (by show thL { thZ with pt:=x.pt,t:=x.t,ct:=x.ct }=_;simp only [thL,List.append_assoc];rw [hta,hn,hxa];rfl) (rfl) (by kernel_rfl)
 obtain ⟨W2,hW2⟩:∃ W2,W0.setCells q 4 [.slice ta n xa]=W2:=⟨_,rfl⟩
 rw [hW2] at hp1 hp2
 have hW2:W0.setCell ⟨q,4,none⟩ (.slice ta n xa)=W2:=hW2
 have hc0:W0.cell? ⟨q,4,none⟩=some (.slice none 0 0):=hL.cell 4 (by rw [← thZ_cells];kernel_rfl)
 have hf0:W0.frozen? ⟨q,4,none⟩=false:=hL.free _
 obtain ⟨tc,htz,hsc2,HT,HF⟩:=only_tail (p:=p) b4 b2 hr hq hp1 hp2 rfl rfl rfl
 obtain ⟨xc,hxc⟩:∃ y,y=thC x:=⟨_,rfl⟩
 rw [← hxc] at HW ⊢
 clear h1 h2 h3 b1 b2 b3 b4 b5 ht hL hp1 hp2 hta hn hxa hxc 
 go_enter Tryz.func39,Tryz.ntmps39
 go_upto_region 2 with fail
 rw [← hp,show p+1=r by rw [hp,hr],show r+1=q by rw [hr,hq]]
 clear HW hp hr hq
 go_wp2_with (first
  | (at_builtin;fail)
  | fail
  | (refine wpList_load_row rfl 42 _ rfl q rfl 42 tc (0,0) _ HT.out.1 Tryz.underlying42 rfl HT.out.2 ?_))
 exact bodyPost_ret (v:=.agg tc) (results_cell_row (p:=4) (ty:=42) (by kernel_rfl) _ _ r 42 tc (0,0) _ rfl HF.out.1 Tryz.underlying42 rfl HT.out.2) rfl ⟨by rw [HF.out.2.1],HF.out.2.2⟩
theorem only4_any (w:World) (x:Th) (h1:x.o.ah.length=32) (h2:x.o.dh.length=32) (h3:x.r.tx.length=32) :
  Calls Tryz.prog 39 #[.agg (thC x),.int .i64 4] w fun e w'=>e=.returned (.agg (thC (onlyT x 4)))∧Below w.heap.size w w':=by
 obtain ⟨b1,b2,b3,b4,b5⟩:=box_three w (thC x) Tryz.zeroCells42 Tryz.zeroCells42 42 42 42
 obtain ⟨W0,HW⟩:∃ W0,((w.alloc (.cells (thC x) 42)).alloc (.cells Tryz.zeroCells42 42)).alloc (.cells Tryz.zeroCells42 42)=W0:=⟨_,rfl⟩
 rw [HW] at b1 b2 b3 b4 b5
 obtain ⟨p,hp⟩:∃ p,p=w.heap.size:=⟨_,rfl⟩
 obtain ⟨r,hr⟩:∃ p,p=w.heap.size+1:=⟨_,rfl⟩
 obtain ⟨q,hq⟩:∃ q,q=w.heap.size+2:=⟨_,rfl⟩
 have ht:=thAt_of b1 h1 h2 h3
 have hL:=b3
 rw [thZ_cells] at hL
 rw [← hp] at ht
 rw [← hq] at hL
 rw [← hr] at b2
 obtain ⟨cs,hcs⟩:∃ y,y=otC x.o:=⟨_,rfl⟩
 have hcz:cs.size=69:=by rw [hcs];exact otC_size _ h1 h2
 have hco:cs.all (·.oneCell')=true:=by rw [hcs];exact otG_one x.o
 have HR:=Hj (Aj (show W0.rangeAt p 5 cs.toList by rw [hcs];exact ht.o) (show (Tryz.prog.info? 35).map (·.size)=some cs.toList.length by rw [Array.length_toList,hcz];exact info_output))
 have hsc:(storeCells ⟨q,5,none⟩ cs.toList 0).run Tryz.prog W0=.ok () (W0.setCells q 5 cs.toList):=sc_mid hL 5 cs (by rw [hcz,thC_size thZ rfl rfl rfl];decide) hco
 obtain ⟨hp1,hp2⟩:=th_put (U:=W0) (q:=q) 5 cs.toList (onlyT x 4) [.slice none 0 0,.slice none 0 0,.int .i64 0,.slice none 0 0,.slice none 0 0] (otC otZ).toList ((refC rfZ).toList ++ (.slice none 0 0 :: (dfC dfZ).toList)) hL (by simp only [thL,List.append_assoc];rfl) (by show thL { thZ with o:=x.o }=_;simp only [thL,List.append_assoc];rw [hcs];rfl) (by rw [Array.length_toList,Array.length_toList,hcz];kernel_rfl) (by kernel_rfl)
 obtain ⟨W2,hW2⟩:∃ W2,W0.setCells q 5 cs.toList=W2:=⟨_,rfl⟩
 rw [hW2] at hsc hp1 hp2
 obtain ⟨tc,htz,hsc2,HT,HF⟩:=only_tail (p:=p) b4 b2 hr hq hp1 hp2 h1 h2 rfl
 obtain ⟨xc,hxc⟩:∃ y,y=thC x:=⟨_,rfl⟩
 rw [← hxc] at HW ⊢
 clear h1 h2 h3 b1 b2 b3 b4 b5 ht hL hp1 hp2 hcs hxc hco
 go_enter Tryz.func39,Tryz.ntmps39
 go_upto_region 2 with fail
 rw [← hp,show p+1=r by rw [hp,hr],show r+1=q by rw [hr,hq]]
 clear HW hp hr hq
 go_wp2_with (first
  | (at_builtin;fail)
  | (refine wpList_load_mid rfl 35 _ rfl p 5 rfl cs.toList _ HR.out.1 Tryz.underlying35 rfl HR.out.2 ?_)
  | (refine wpList_load_row rfl 42 _ rfl q rfl 42 tc (0,0) _ HT.out.1 Tryz.underlying42 rfl HT.out.2 ?_))
 exact bodyPost_ret (v:=.agg tc) (results_cell_row (p:=4) (ty:=42) (by kernel_rfl) _ _ r 42 tc (0,0) _ rfl HF.out.1 Tryz.underlying42 rfl HT.out.2) rfl ⟨by rw [HF.out.2.1],HF.out.2.2⟩
theorem only5_any (w:World) (x:Th) (h1:x.o.ah.length=32) (h2:x.o.dh.length=32) (h3:x.r.tx.length=32) :
  Calls Tryz.prog 39 #[.agg (thC x),.int .i64 5] w fun e w'=>e=.returned (.agg (thC (onlyT x 5)))∧Below w.heap.size w w':=by
 obtain ⟨b1,b2,b3,b4,b5⟩:=box_three w (thC x) Tryz.zeroCells42 Tryz.zeroCells42 42 42 42
 obtain ⟨W0,HW⟩:∃ W0,((w.alloc (.cells (thC x) 42)).alloc (.cells Tryz.zeroCells42 42)).alloc (.cells Tryz.zeroCells42 42)=W0:=⟨_,rfl⟩
 rw [HW] at b1 b2 b3 b4 b5
 obtain ⟨p,hp⟩:∃ p,p=w.heap.size:=⟨_,rfl⟩
 obtain ⟨r,hr⟩:∃ p,p=w.heap.size+1:=⟨_,rfl⟩
 obtain ⟨q,hq⟩:∃ q,q=w.heap.size+2:=⟨_,rfl⟩
 have ht:=thAt_of b1 h1 h2 h3
 have hL:=b3
 rw [thZ_cells] at hL
 rw [← hp] at ht
 rw [← hq] at hL
 rw [← hr] at b2
 obtain ⟨cs,hcs⟩:∃ y,y=refC x.r:=⟨_,rfl⟩
 have hcz:cs.size=33:=by rw [hcs];exact refC_size _ h3
 have hco:cs.all (·.oneCell')=true:=by rw [hcs];exact refC_one x.r
 have HR:=Hj (Aj (show W0.rangeAt p 74 cs.toList by rw [hcs];exact ht.r) (show (Tryz.prog.info? 37).map (·.size)=some cs.toList.length by rw [Array.length_toList,hcz];exact info_ref))
 have hsc:(storeCells ⟨q,74,none⟩ cs.toList 0).run Tryz.prog W0=.ok () (W0.setCells q 74 cs.toList):=sc_mid hL 74 cs (by rw [hcz,thC_size thZ rfl rfl rfl];decide) hco
 obtain ⟨hp1,hp2⟩:=th_put (U:=W0) (q:=q) 74 cs.toList (onlyT x 5) ([.slice none 0 0,.slice none 0 0,.int .i64 0,.slice none 0 0,.slice none 0 0] ++ (otC otZ).toList) (refC rfZ).toList (.slice none 0 0 :: (dfC dfZ).toList) hL (by simp only [thL,List.append_assoc];rfl) (by show thL { thZ with r:=x.r }=_;simp only [thL,List.append_assoc];rw [hcs];rfl) (by rw [Array.length_toList,Array.length_toList,hcz];kernel_rfl) (by kernel_rfl)
 obtain ⟨W2,hW2⟩:∃ W2,W0.setCells q 74 cs.toList=W2:=⟨_,rfl⟩
 rw [hW2] at hsc hp1 hp2
 obtain ⟨tc,htz,hsc2,HT,HF⟩:=only_tail (p:=p) b4 b2 hr hq hp1 hp2 rfl rfl h3
 obtain ⟨xc,hxc⟩:∃ y,y=thC x:=⟨_,rfl⟩
 rw [← hxc] at HW ⊢
 clear h1 h2 h3 b1 b2 b3 b4 b5 ht hL hp1 hp2 hcs hxc hco
 go_enter Tryz.func39,Tryz.ntmps39
 go_upto_region 2 with fail
 rw [← hp,show p+1=r by rw [hp,hr],show r+1=q by rw [hr,hq]]
 clear HW hp hr hq
 go_wp2_with (first
  | (at_builtin;fail)
  | (refine wpList_load_mid rfl 37 _ rfl p 74 rfl cs.toList _ HR.out.1 Tryz.underlying37 rfl HR.out.2 ?_)
  | (refine wpList_load_row rfl 42 _ rfl q rfl 42 tc (0,0) _ HT.out.1 Tryz.underlying42 rfl HT.out.2 ?_))
 exact bodyPost_ret (v:=.agg tc) (results_cell_row (p:=4) (ty:=42) (by kernel_rfl) _ _ r 42 tc (0,0) _ rfl HF.out.1 Tryz.underlying42 rfl HT.out.2) rfl ⟨by rw [HF.out.2.1],HF.out.2.2⟩
theorem only6_any (w:World) (x:Th) (h1:x.o.ah.length=32) (h2:x.o.dh.length=32) (h3:x.r.tx.length=32) :
  Calls Tryz.prog 39 #[.agg (thC x),.int .i64 6] w fun e w'=>e=.returned (.agg (thC (onlyT x 6)))∧Below w.heap.size w w':=by
 obtain ⟨b1,b2,b3,b4,b5⟩:=box_three w (thC x) Tryz.zeroCells42 Tryz.zeroCells42 42 42 42
 obtain ⟨W0,HW⟩:∃ W0,((w.alloc (.cells (thC x) 42)).alloc (.cells Tryz.zeroCells42 42)).alloc (.cells Tryz.zeroCells42 42)=W0:=⟨_,rfl⟩
 rw [HW] at b1 b2 b3 b4 b5
 obtain ⟨p,hp⟩:∃ p,p=w.heap.size:=⟨_,rfl⟩
 obtain ⟨r,hr⟩:∃ p,p=w.heap.size+1:=⟨_,rfl⟩
 obtain ⟨q,hq⟩:∃ q,q=w.heap.size+2:=⟨_,rfl⟩
 have ht:=thAt_of b1 h1 h2 h3
 have hL:=b3
 rw [thZ_cells] at hL
 rw [← hp] at ht
 rw [← hq] at hL
 rw [← hr] at b2
 obtain ⟨ta,hta⟩:∃ y,y=x.pe:=⟨_,rfl⟩
 obtain ⟨n,hn⟩:∃ y,y=x.es.length:=⟨_,rfl⟩
 obtain ⟨xa,hxa⟩:∃ y,y=x.ce:=⟨_,rfl⟩
 have c0:W0.cell? ⟨p,107,none⟩=some (.slice ta n xa):=by rw [hta,hn,hxa];exact ht.e
 obtain ⟨hp1,hp2⟩:=th_put (U:=W0) (q:=q) 107 [.slice ta n xa] (onlyT x 6) ([.slice none 0 0,.slice none 0 0,.int .i64 0,.slice none 0 0,.slice none 0 0] ++ (otC otZ).toList ++ (refC rfZ).toList) [.slice none 0 0] (dfC dfZ).toList hL (by simp only [thL,List.append_assoc];rfl) (by show thL { thZ with pe:=x.pe,es:=x.es,ce:=x.ce }=_;simp only [thL,List.append_assoc];rw [hta,hn,hxa];rfl) (rfl) (by kernel_rfl)
 obtain ⟨W2,hW2⟩:∃ W2,W0.setCells q 107 [.slice ta n xa]=W2:=⟨_,rfl⟩
 rw [hW2] at hp1 hp2
 have hW2:W0.setCell ⟨q,107,none⟩ (.slice ta n xa)=W2:=hW2
 have hc0:W0.cell? ⟨q,107,none⟩=some (.slice none 0 0):=hL.cell 107 (by rw [← thZ_cells];kernel_rfl)
 have hf0:W0.frozen? ⟨q,107,none⟩=false:=hL.free _
 obtain ⟨tc,htz,hsc2,HT,HF⟩:=only_tail (p:=p) b4 b2 hr hq hp1 hp2 rfl rfl rfl
 obtain ⟨xc,hxc⟩:∃ y,y=thC x:=⟨_,rfl⟩
 rw [← hxc] at HW ⊢
 clear h1 h2 h3 b1 b2 b3 b4 b5 ht hL hp1 hp2 hta hn hxa hxc 
 go_enter Tryz.func39,Tryz.ntmps39
 go_upto_region 2 with fail
 rw [← hp,show p+1=r by rw [hp,hr],show r+1=q by rw [hr,hq]]
 clear HW hp hr hq
 go_wp2_with (first
  | (at_builtin;fail)
  | fail
  | (refine wpList_load_row rfl 42 _ rfl q rfl 42 tc (0,0) _ HT.out.1 Tryz.underlying42 rfl HT.out.2 ?_))
 exact bodyPost_ret (v:=.agg tc) (results_cell_row (p:=4) (ty:=42) (by kernel_rfl) _ _ r 42 tc (0,0) _ rfl HF.out.1 Tryz.underlying42 rfl HT.out.2) rfl ⟨by rw [HF.out.2.1],HF.out.2.2⟩
theorem only7_any (w:World) (x:Th) (h1:x.o.ah.length=32) (h2:x.o.dh.length=32) (h3:x.r.tx.length=32) :
  Calls Tryz.prog 39 #[.agg (thC x),.int .i64 7] w fun e w'=>e=.returned (.agg (thC (onlyT x 7)))∧Below w.heap.size w w':=by
 obtain ⟨b1,b2,b3,b4,b5⟩:=box_three w (thC x) Tryz.zeroCells42 Tryz.zeroCells42 42 42 42
 obtain ⟨W0,HW⟩:∃ W0,((w.alloc (.cells (thC x) 42)).alloc (.cells Tryz.zeroCells42 42)).alloc (.cells Tryz.zeroCells42 42)=W0:=⟨_,rfl⟩
 rw [HW] at b1 b2 b3 b4 b5
 obtain ⟨p,hp⟩:∃ p,p=w.heap.size:=⟨_,rfl⟩
 obtain ⟨r,hr⟩:∃ p,p=w.heap.size+1:=⟨_,rfl⟩
 obtain ⟨q,hq⟩:∃ q,q=w.heap.size+2:=⟨_,rfl⟩
 have ht:=thAt_of b1 h1 h2 h3
 have hL:=b3
 rw [thZ_cells] at hL
 rw [← hp] at ht
 rw [← hq] at hL
 rw [← hr] at b2
 obtain ⟨cs,hcs⟩:∃ y,y=dfC x.d:=⟨_,rfl⟩
 have hcz:cs.size=5:=by rw [hcs];exact rfl
 have hco:cs.all (·.oneCell')=true:=by rw [hcs];exact dfG_one x.d
 have HR:=Hj (Aj (show W0.rangeAt p 108 cs.toList by rw [hcs];exact ht.d) (show (Tryz.prog.info? 40).map (·.size)=some cs.toList.length by rw [Array.length_toList,hcz];exact info_diff))
 have hsc:(storeCells ⟨q,108,none⟩ cs.toList 0).run Tryz.prog W0=.ok () (W0.setCells q 108 cs.toList):=sc_mid hL 108 cs (by rw [hcz,thC_size thZ rfl rfl rfl];decide) hco
 obtain ⟨hp1,hp2⟩:=th_put (U:=W0) (q:=q) 108 cs.toList (onlyT x 7) ([.slice none 0 0,.slice none 0 0,.int .i64 0,.slice none 0 0,.slice none 0 0] ++ (otC otZ).toList ++ (refC rfZ).toList ++ [.slice none 0 0]) (dfC dfZ).toList [] hL (by simp only [thL,List.append_assoc,List.append_nil];rfl) (by show thL { thZ with d:=x.d }=_;simp only [thL,List.append_assoc,List.append_nil];rw [hcs];rfl) (by rw [Array.length_toList,Array.length_toList,hcz];kernel_rfl) (by kernel_rfl)
 obtain ⟨W2,hW2⟩:∃ W2,W0.setCells q 108 cs.toList=W2:=⟨_,rfl⟩
 rw [hW2] at hsc hp1 hp2
 obtain ⟨tc,htz,hsc2,HT,HF⟩:=only_tail (p:=p) b4 b2 hr hq hp1 hp2 rfl rfl rfl
 obtain ⟨xc,hxc⟩:∃ y,y=thC x:=⟨_,rfl⟩
 rw [← hxc] at HW ⊢
 clear h1 h2 h3 b1 b2 b3 b4 b5 ht hL hp1 hp2 hcs hxc hco
 go_enter Tryz.func39,Tryz.ntmps39
 go_upto_region 2 with fail
 rw [← hp,show p+1=r by rw [hp,hr],show r+1=q by rw [hr,hq]]
 clear HW hp hr hq
 go_wp2_with (first
  | (at_builtin;fail)
  | (refine wpList_load_mid rfl 40 _ rfl p 108 rfl cs.toList _ HR.out.1 Tryz.underlying40 rfl HR.out.2 ?_)
  | (refine wpList_load_row rfl 42 _ rfl q rfl 42 tc (0,0) _ HT.out.1 Tryz.underlying42 rfl HT.out.2 ?_))
 exact bodyPost_ret (v:=.agg tc) (results_cell_row (p:=4) (ty:=42) (by kernel_rfl) _ _ r 42 tc (0,0) _ rfl HF.out.1 Tryz.underlying42 rfl HT.out.2) rfl ⟨by rw [HF.out.2.1],HF.out.2.2⟩
theorem onlyTh_any (w:World) (x:Th) (h1:x.o.ah.length=32) (h2:x.o.dh.length=32) (h3:x.r.tx.length=32) (n:Nat) (hn:n < 8) :
  Calls Tryz.prog 39 #[.agg (thC x),.int .i64 (n:Int)] w fun e w'=>e=.returned (.agg (thC (onlyT x n)))∧Below w.heap.size w w':=by
 obtain rfl | rfl | rfl | rfl | rfl | rfl | rfl | rfl:n=0 ∨ n=1 ∨ n=2 ∨ n=3 ∨ n=4 ∨ n=5 ∨ n=6 ∨ n=7:=by omega
 ·
  exact only0_any w x h1 h2 h3
 ·
  exact only1_any w x h1 h2 h3
 ·
  exact only2_any w x h1 h2 h3
 ·
  exact only3_any w x h1 h2 h3
 ·
  exact only4_any w x h1 h2 h3
 ·
  exact only5_any w x h1 h2 h3
 ·
  exact only6_any w x h1 h2 h3
 ·
  exact only7_any w x h1 h2 h3
end Go.Proofs.YtilbbemdinpjcaaGreat.P
