/-
  append(append([]Node{}, xs...), n) into a fresh box, in whatever order.
-/
import Derived.Test.YtilbbemdinpjcaaGreatJTTjp
namespace Go.Proofs.YtilbbemdinpjcaaGreat.T
open Go.RowKit
theorem OwnT.far {w:World} {B:Nat} {v:Value} {xs:List Nd} (h:OwnT w B v xs) {k:Nat} {cs:Array Value} (hk:Lies w k cs 24):some k≠v.ownBlock:=by
 rcases h.2 with ⟨h1,-⟩ | ⟨g,cap,cur,h1,h2,h3,-⟩
 ·
  rw [h1];exact fun e=>by cases e
 ·
  rw [h1]
  intro e
  have:k=g:=Option.some.inj e
  exact Lies.apart (t:=72) (u:=24) h3 hk (by decide) this.symm
theorem OwnT.fresh {w:World} {B:Nat} {v:Value} {xs:List Nd} (h:OwnT w B v xs):v.ownBlock≠some w.heap.size:=by
 rcases h.2 with ⟨h1,-⟩ | ⟨g,cap,cur,h1,h2,h3,-⟩
 ·
  rw [h1];exact fun e=>by cases e
 ·
  rw [h1]
  intro e
  have e2:g=w.heap.size:=Option.some.inj e
  have:=(Array.getElem?_eq_some_iff.1 h3).1
  omega
theorem src_node {w:World} {g:Nat} {n:Nd} (h:Lies w g n.cells 72):SrcT w (.slice (some ⟨g,0,none⟩) 1 1) [n] :=
 .inr ⟨⟨g,0,none⟩,1,rfl,fun j u hu=>by
  have:n.cells[j]? = some u:=by
   rw [cellsL_cons] at hu
   simpa [cellsL] using hu
  have h2:=h.cell j this
  have e:(⟨g,0,none⟩:Addr).add j=⟨g,j,none⟩:=by cases j <;> simp [Addr.add]
  rw [e];exact h2⟩
theorem grown_lies {w w':World} {v:Value} {g:Nat} {cs:Array Value} {t:TypeId} (hg:w.grownBy w' v.ownBlock) (h:Lies w g cs t) (hn:some g≠v.ownBlock):Lies w' g cs t:=(hg.block g h.lt hn).trans h
abbrev AL:=Bool→Bool→Bool→Bool→Bool→Bool→Bool→Array Bool
def AI (w0:World) (nd:Nd) (xs:List Nd) (L:AL) (a0:Act) (s0 r1 s5 r2 t7 p:Tmp) (l:Array Bool) (a:Act) (w:World):Prop :=
 ∃ b c e f g a' d:Bool,l=L b c e f g a' d∧∃ (F:Tmp→Value) (gp:Nat),a=putF a0 [s0,r1,s5,r2,t7,p] F ∧
   (b=true→c=false→OwnT w w0.heap.size (F s0) []) ∧
   (c=true→f=false→OwnT w w0.heap.size (F r1) xs) ∧
   (e=true→f=false→∃ g5,F s5=.slice (some ⟨g5,0,none⟩) 1 1∧Lies w g5 nd.cells 72∧(b=true→c=false→some g5≠(F s0).ownBlock)∧(c=true→some g5≠(F r1).ownBlock)) ∧
   (f=true→OwnT w w0.heap.size (F r2) (xs ++ [nd])) ∧
   (g=true→F t7=.agg #[F r2]) ∧
   (a'=true→F p=.pointer (some ⟨gp,0,none⟩)∧w0.heap.size≤gp∧Lies w gp (if d then #[F r2] else #[.slice none 0 0]) 24) ∧
   (c=true→b=true)∧(f=true→c=true∧e=true)∧(g=true→f=true)∧(d=true→g=true∧a'=true)∧Below w0.heap.size w0 w
end Go.Proofs.YtilbbemdinpjcaaGreat.T
