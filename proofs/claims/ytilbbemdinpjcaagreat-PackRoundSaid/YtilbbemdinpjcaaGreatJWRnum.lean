/-
  number, upTo: numbers that a reader takes.
-/
import Derived.Test.YtilbbemdinpjcaaGreatJWRawNil
namespace Go.Proofs.YtilbbemdinpjcaaGreat.W
open Go.RowKit
def beVal (l:List UInt8):Nat:=l.foldl (fun n b=>n * 256+b.toNat) 0
theorem beVal_snoc (l:List UInt8) (b:UInt8):beVal (l ++ [b])=beVal l * 256+b.toNat:=by
 unfold beVal
 rw [List.foldl_append];rfl
theorem foldl_lt (l:List UInt8):∀ acc,l.foldl (fun n b=>n * 256+b.toNat) acc < (acc+1) * 256 ^ l.length:=by
 induction l with
 | nil=>intro acc;simp
 | cons b l ih =>
   intro acc
   rw [List.foldl_cons,List.length_cons,Nat.pow_succ]
   have h1:=ih (acc * 256+b.toNat)
   have h2:(acc * 256+b.toNat+1) * 256 ^ l.length≤((acc+1) * 256) * 256 ^ l.length:=Nat.mul_le_mul_right _ (by have:=b.toNat_lt;omega)
   rw [Nat.mul_comm (256 ^ l.length) 256,← Nat.mul_assoc]
   omega
theorem beVal_lt (l:List UInt8):beVal l < 256 ^ l.length:=by
 have:=foldl_lt l 0
 rwa [Nat.zero_add,Nat.one_mul] at this
theorem or_byte (n b:Nat) (hn:n < 2 ^ 56) (hb:b < 256):bits .or .u64 ((n:Int) * 256) (b:Int)=((n * 256+b:Nat):Int):=by
 unfold bits
 show IntKind.u64.wrap ((((BitVec.ofInt 64 ((n:Int) * 256)) ||| (BitVec.ofInt 64 (b:Int)):BitVec 64).toNat:Nat):Int)=_
 have e:∀ x:Nat,BitVec.ofInt 64 (x:Int)=BitVec.ofNat 64 x:=fun x=>by
  apply BitVec.eq_of_toNat_eq
  simp
 rw [show (n:Int) * 256=((n * 256:Nat):Int) by omega,e,e,BitVec.toNat_or,BitVec.toNat_ofNat,BitVec.toNat_ofNat,Nat.mod_eq_of_lt (by omega),Nat.mod_eq_of_lt (by omega)]
 have h:n * 256 ||| b=n * 256+b:=by
  have:=Nat.shiftLeft_add_eq_or_of_lt (i:=8) (b:=b) (by omega) n
  rw [Nat.shiftLeft_eq] at this
  exact this.symm
 rw [h,IntKind.wrap_u64]
 omega
theorem number_bad (w:World) (g k:Nat) (xs:List UInt8) (c a:Nat) (h:Rdr w g k xs c a false) (ha:a≤xs.length) (s:Nat) (hs:xs.length < a+s) :
  Calls Tryz.prog 260 #[.pointer (some ⟨g,0,none⟩),.int .i64 s] w fun e w'=>Unmet e∧Below w.heap.size w w':=by
 have hq:=next_bad w g k xs c a h ha s (.inr (by omega))
 have HQ:=Lib.hid hq
 clear hq h
 go_enter Tryz.func260,Tryz.ntmps260
 go_wp2_with fail
 refine HQ.out.mono ?_
 rintro e w1 ⟨⟨v,rfl⟩,hb⟩
 have HB:=Lib.hid hb
 clear hb
 go_wp2_with fail
 exact ⟨rfl,⟨_,rfl⟩,HB.out⟩
set_option maxRecDepth 100000 in
theorem number_good (w:World) (g k:Nat) (xs:List UInt8) (c a:Nat) (h:Rdr w g k xs c a false) (s:Nat) (hs:s≤8) (hn:a+s≤xs.length) (h0:0 < s:=by omega) :
  Calls Tryz.prog 260 #[.pointer (some ⟨g,0,none⟩),.int .i64 s] w fun e w'=>e=.returned (.int .u64 (beVal ((xs.drop a).take s)))∧Rdr w' g k xs c (a+s) false∧Only g w w' none:=by
 have hq:=next_good w g k xs c a h s hn (h.notNil (by omega))
 have HQ:=Lib.hid hq
 clear hq h
 have hl:((xs.drop a).take s).length=s:=by rw [List.length_take,List.length_drop];omega
 generalize (xs.drop a).take s=ys at HQ hl ⊢
 go_enter Tryz.func260,Tryz.ntmps260
 go_wp2_with fail
 refine HQ.out.mono ?_
 rintro e w1 ⟨off,c',rfl,hsrc,hr,ho⟩
 have HS:=Lib.hid hsrc
 have HR:=Lib.hid (And.intro hr ho)
 have HL:=Lib.hid hl
 clear hsrc hr ho hl HQ
 go_wp2_with fail
 go_loop [5,12] (fun v i=>∃ t:Nat,t≤s∧i=.int .i64 t∧v=.int .u64 (beVal (ys.take t))) (fun _ i=>s - (intOf i).toNat)
 case atStart=>exact ⟨0,by omega,rfl,rfl⟩
 case round =>
  obtain ⟨t,ht,rfl,rfl⟩:=hrel
  by_cases hlt:t < s
  ·
   have hty:t < ys.length:=by have:=HL.out;omega
   have hc:=HS.out t hty
   have hval:beVal (ys.take (t+1))=beVal (ys.take t) * 256+(ys.getD t 0).toNat:=by
    rw [List.take_succ_eq_append_getElem hty,beVal_snoc]
    simp [hty]
   have hbd:beVal (ys.take t) < 2 ^ 56:=by
    have h1:=beVal_lt (ys.take t)
    rw [List.length_take,Nat.min_eq_left (by omega)] at h1
    have h2:256 ^ t≤256 ^ 7:=Nat.pow_le_pow_right (by decide) (by omega)
    have h3:256 ^ 7=2 ^ 56:=by decide
    omega
   have hby:=(ys.getD t 0).toNat_lt
   generalize ys.getD t 0=y at hc hval hby
   generalize beVal (ys.take t)=n at hval hbd ⊢
   have hor:=or_byte n y.toNat hbd hby
   have hsh:IntKind.u64.wrap ((n:Int) * 256)=((n * 256:Nat):Int):=by rw [IntKind.wrap_u64];omega
   have HV:=Lib.hid hval
   clear hval hty
   go_wp2_with fail
   refine ⟨⟨t+1,by omega,by go_num,?_⟩,by simp [intOf];omega⟩
   rw [HV.out]
   exact congrArg (Value.int .u64) (by omega)
  ·
   obtain rfl:t=s:=by omega
   have hd:decide (t < t)=false:=by simp
   have hlast:ys.take t=ys:=List.take_of_length_le (by have:=HL.out;omega)
   rw [hlast]
   clear hlast
   go_wp2_with fail
   go_ret
   exact ⟨rfl,HR.out⟩
/-! ## upTo -/
theorem upto_short (w:World) (g k:Nat) (xs:List UInt8) (c a:Nat) (h:Rdr w g k xs c a false) (ha:a≤xs.length) (m:Int) (s:Nat) (hs:xs.length < a+s) :
  Calls Tryz.prog 269 #[.pointer (some ⟨g,0,none⟩),.int .i64 m,.int .i64 s] w fun e w'=>Unmet e∧Below w.heap.size w w':=by
 have HQ:=Lib.hid (number_bad w g k xs c a h ha s hs)
 clear h
 go_enter Tryz.func269,Tryz.ntmps269
 go_wp2_with fail
 refine HQ.out.mono ?_
 rintro e w1 ⟨⟨v,rfl⟩,hb⟩
 have HB:=Lib.hid hb
 clear hb
 go_wp2_with fail
 exact ⟨rfl,⟨_,rfl⟩,HB.out⟩
set_option maxRecDepth 100000 in
theorem upto_great (w:World) (g k:Nat) (xs:List UInt8) (c a:Nat) (h:Rdr w g k xs c a false) (m:Int) (s:Nat) (hs:s≤7) (hn:a+s≤xs.length) (hm:m < beVal ((xs.drop a).take s)) (h0:0 < s:=by omega) :
  Calls Tryz.prog 269 #[.pointer (some ⟨g,0,none⟩),.int .i64 m,.int .i64 s] w fun e w'=>Unmet e∧Rdr w' g k xs c (a+s) false∧Only g w w' none:=by
 have HQ:=Lib.hid (number_good w g k xs c a h s (by omega) hn h0)
 have hv:=beVal_lt ((xs.drop a).take s)
 have hl:((xs.drop a).take s).length=s:=by rw [List.length_take,List.length_drop];omega
 rw [hl] at hv
 clear h hl
 have h2:256 ^ s≤256 ^ 7:=Nat.pow_le_pow_right (by decide) hs
 have h3:256 ^ 7=2 ^ 56:=by decide
 have hv2:beVal ((xs.drop a).take s) < 2 ^ 56:=by omega
 clear hv h2 h3
 generalize beVal ((xs.drop a).take s)=v at HQ hm hv2
 have hc:IntKind.i64.wrap (v:Int)=(v:Int):=by rw [IntKind.wrap_i64];omega
 go_enter Tryz.func269,Tryz.ntmps269
 go_wp2_with fail
 refine HQ.out.mono ?_
 rintro e w1 ⟨rfl,hr⟩
 have HR:=Lib.hid hr
 clear hr
 go_wp2_with fail
 exact ⟨rfl,⟨_,rfl⟩,HR.out⟩
set_option maxRecDepth 100000 in
theorem upto_good (w:World) (g k:Nat) (xs:List UInt8) (c a:Nat) (h:Rdr w g k xs c a false) (m:Int) (s:Nat) (hs:s≤7) (hn:a+s≤xs.length) (hm:(beVal ((xs.drop a).take s):Int)≤m) (h0:0 < s:=by omega) :
  Calls Tryz.prog 269 #[.pointer (some ⟨g,0,none⟩),.int .i64 m,.int .i64 s] w fun e w'=>e=.returned (.int .i64 (beVal ((xs.drop a).take s)))∧Rdr w' g k xs c (a+s) false∧Only g w w' none:=by
 have HQ:=Lib.hid (number_good w g k xs c a h s (by omega) hn h0)
 have hv:=beVal_lt ((xs.drop a).take s)
 have hl:((xs.drop a).take s).length=s:=by rw [List.length_take,List.length_drop];omega
 rw [hl] at hv
 clear h hl
 have h2:256 ^ s≤256 ^ 7:=Nat.pow_le_pow_right (by decide) hs
 have h3:256 ^ 7=2 ^ 56:=by decide
 have hv2:beVal ((xs.drop a).take s) < 2 ^ 56:=by omega
 clear hv h2 h3
 generalize beVal ((xs.drop a).take s)=v at HQ hm hv2 ⊢
 have hc:IntKind.i64.wrap (v:Int)=(v:Int):=by rw [IntKind.wrap_i64];omega
 have hm2:¬ m < v:=by omega
 go_enter Tryz.func269,Tryz.ntmps269
 go_wp2_with fail
 refine HQ.out.mono ?_
 rintro e w1 ⟨rfl,hr⟩
 have HR:=Lib.hid hr
 clear hr
 go_wp2_with fail
 go_ret
 exact ⟨rfl,HR.out⟩
end Go.Proofs.YtilbbemdinpjcaaGreat.W
