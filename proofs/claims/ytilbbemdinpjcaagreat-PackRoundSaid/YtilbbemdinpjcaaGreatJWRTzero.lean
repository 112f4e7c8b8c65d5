/-
  A reader's Text of no bytes, met.
-/
import Derived.Test.YtilbbemdinpjcaaGreatJWWantSt
import Derived.Test.YtilbbemdinpjcaaGreatJWTwo
namespace Go.Proofs.YtilbbemdinpjcaaGreat.W
open Go.RowKit
theorem rdr_one {w:World} {g k:Nat} {xs:List UInt8} {c a:Nat} (h:Rdr w g k xs c a false) (v1:Value) (t1:TypeId) :
  Rdr (w.alloc (.cells #[v1] t1)) g k xs c a false∧Below w.heap.size w (w.alloc (.cells #[v1] t1)):=by
 have hb:Below w.heap.size w (w.alloc (.cells #[v1] t1)):=(Below.refl _ _).alloc (Nat.le_refl _) _
 exact ⟨h.below hb,hb⟩
theorem beVal_take (xs:List UInt8) (a s:Nat):beVal ((xs.drop a).take s) < 256 ^ s:=by
 refine Nat.lt_of_lt_of_le (beVal_lt _) (Nat.pow_le_pow_right (by omega) ?_)
 rw [List.length_take];omega
set_option maxRecDepth 100000 in
theorem num74_good (W:World) (p g k:Nat) (xs:List UInt8) (c a:Nat) (hp:W.cell? ⟨p,0,none⟩=some (.pointer (some ⟨g,0,none⟩))) (h:Rdr W g k xs c a false) (hn:a+1≤xs.length) :
  Calls Tryz.prog 259 #[.pointer (some ⟨p,0,none⟩)] W fun e W'=>e=.returned (.int .i64 (beVal ((xs.drop a).take 1)))∧Rdr W' g k xs c (a+1) false∧Only g W W' none:=by
 have HU:=Lib.hid (number_good W g k xs c a h 1 (by omega) hn)
 have hlt:=beVal_take xs a 1
 have e256:(256:Nat) ^ 1=256:=by decide
 rw [e256] at hlt
 have hw:IntKind.i64.wrap (beVal ((xs.drop a).take 1):Int)=beVal ((xs.drop a).take 1):=by rw [IntKind.wrap_i64];omega
 clear h
 go_enter Tryz.func259,Tryz.ntmps259
 go_wp2_with fail
 refine HU.out.mono ?_
 rintro e w1 ⟨rfl,hr⟩
 have HR:=Lib.hid hr
 clear hr
 go_wp2_with fail
 go_ret
 exact ⟨rfl,HR.out⟩
set_option maxRecDepth 100000 in
theorem num74_bad (W:World) (p g k:Nat) (xs:List UInt8) (c a:Nat) (hp:W.cell? ⟨p,0,none⟩=some (.pointer (some ⟨g,0,none⟩))) (h:Rdr W g k xs c a false) (ha:a≤xs.length) (hn:xs.length < a+1) :
  Calls Tryz.prog 259 #[.pointer (some ⟨p,0,none⟩)] W fun e W'=>Unmet e∧(∃ a',Rdr W' g k xs c a' false)∧Only g W W' none:=by
 have hu:=(number_bad W g k xs c a h ha 1 hn).mono (R':=fun e W'=>Unmet e∧(∃ a',Rdr W' g k xs c a' false)∧Only g W W' none) fun e W' hh=>⟨hh.1,⟨a,h.below hh.2⟩,only_below hh.2⟩
 have HU:=Lib.hid hu
 clear h hu
 go_enter Tryz.func259,Tryz.ntmps259
 go_wp2_with fail
 refine HU.out.mono ?_
 rintro e w1 ⟨⟨v,rfl⟩,hr⟩
 have HR:=Lib.hid hr
 clear hr
 go_wp2_with fail
 exact ⟨rfl,⟨_,rfl⟩,HR.out⟩
set_option maxRecDepth 100000 in
theorem ask25_good (w:World) (g k:Nat) (xs:List UInt8) (c a:Nat) (h:Rdr w g k xs c a false) (hn:a+1≤xs.length) :
  Calls Tryz.prog 200 #[.pointer (some ⟨g,0,none⟩)] w fun e w'=>e=.returned (.int .i64 (beVal ((xs.drop a).take 1)))∧Rdr w' g k xs c (a+1) false∧Only g w w' none:=by
 have hmf:∀ (fn:Fn) (first cap:Array Value) (w:World),(Instr.makeFunc fn first cap).run Tryz.prog w=.ok (.func fn first cap) w:=fun _ _ _ _=>rfl
 obtain ⟨hr,hb⟩:=rdr_one h (.pointer (some ⟨g,0,none⟩)) 56
 have ht:=tell73_met _ g k xs c a (a+1) (.int .i64 (beVal ((xs.drop a).take 1))) 259 #[.pointer (some ⟨w.heap.size,0,none⟩)] hr (callK 259 Tryz.f259 Tryz.func259 (by kernel_rfl) (by kernel_rfl) _)
  (fun W hW hR=>num74_good W _ g k xs c a (by rw [hW.cell (p:=⟨w.heap.size,0,none⟩) (by simp)];simp [go_sem]) hR hn)
 have HT:=Lib.hid ht
 have HB:=Lib.hid hb
 clear ht hb hr h
 go_enter Tryz.func200,Tryz.ntmps200
 go_wp2_with fail
 refine HT.out.mono ?_
 rintro e w1 ⟨rfl,hr,ho⟩
 have HR:=Lib.hid (And.intro hr ((only_below HB.out).trans0 ho))
 clear hr ho
 go_wp2_with fail
 go_ret
 exact ⟨rfl,HR.out⟩
set_option maxRecDepth 100000 in
theorem ask25_bad (w:World) (g k:Nat) (xs:List UInt8) (c a:Nat) (h:Rdr w g k xs c a false) (ha:a≤xs.length) (hn:xs.length < a+1) :
  Calls Tryz.prog 200 #[.pointer (some ⟨g,0,none⟩)] w fun e w'=>e=.returned (.int .i64 0)∧Rdr w' g k xs c a true∧Only g w w' none:=by
 have hmf:∀ (fn:Fn) (first cap:Array Value) (w:World),(Instr.makeFunc fn first cap).run Tryz.prog w=.ok (.func fn first cap) w:=fun _ _ _ _=>rfl
 obtain ⟨hr,hb⟩:=rdr_one h (.pointer (some ⟨g,0,none⟩)) 56
 have ht:=tell73_unmet _ g k xs c a 259 #[.pointer (some ⟨w.heap.size,0,none⟩)] hr (callK 259 Tryz.f259 Tryz.func259 (by kernel_rfl) (by kernel_rfl) _)
  (fun W hW hR=>num74_bad W _ g k xs c a (by rw [hW.cell (p:=⟨w.heap.size,0,none⟩) (by simp)];simp [go_sem]) hR ha hn)
 have HT:=Lib.hid ht
 have HB:=Lib.hid hb
 clear ht hb hr h
 go_enter Tryz.func200,Tryz.ntmps200
 go_wp2_with fail
 refine HT.out.mono ?_
 rintro e w1 ⟨rfl,hr,ho⟩
 have HR:=Lib.hid (And.intro hr ((only_below HB.out).trans0 ho))
 clear hr ho
 go_wp2_with fail
 go_ret
 exact ⟨rfl,HR.out⟩
set_option maxRecDepth 100000 in
theorem num89_good (W:World) (p g k:Nat) (xs:List UInt8) (c a:Nat) (hp:W.cell? ⟨p,0,none⟩=some (.pointer (some ⟨g,0,none⟩))) (h:Rdr W g k xs c a false) (hn:a+2≤xs.length) :
  Calls Tryz.prog 280 #[.pointer (some ⟨p,0,none⟩)] W fun e W'=>e=.returned (.int .i64 (beVal ((xs.drop a).take 2)))∧Rdr W' g k xs c (a+2) false∧Only g W W' none:=by
 have HU:=Lib.hid (number_good W g k xs c a h 2 (by omega) hn)
 have hlt:=beVal_take xs a 2
 have e256:(256:Nat) ^ 2=65536:=by decide
 rw [e256] at hlt
 have hw:IntKind.i64.wrap (beVal ((xs.drop a).take 2):Int)=beVal ((xs.drop a).take 2):=by rw [IntKind.wrap_i64];omega
 clear h
 go_enter Tryz.func280,Tryz.ntmps280
 go_wp2_with fail
 refine HU.out.mono ?_
 rintro e w1 ⟨rfl,hr⟩
 have HR:=Lib.hid hr
 clear hr
 go_wp2_with fail
 go_ret
 exact ⟨rfl,HR.out⟩
set_option maxRecDepth 100000 in
theorem num89_bad (W:World) (p g k:Nat) (xs:List UInt8) (c a:Nat) (hp:W.cell? ⟨p,0,none⟩=some (.pointer (some ⟨g,0,none⟩))) (h:Rdr W g k xs c a false) (ha:a≤xs.length) (hn:xs.length < a+2) :
  Calls Tryz.prog 280 #[.pointer (some ⟨p,0,none⟩)] W fun e W'=>Unmet e∧(∃ a',Rdr W' g k xs c a' false)∧Only g W W' none:=by
 have hu:=(number_bad W g k xs c a h ha 2 hn).mono (R':=fun e W'=>Unmet e∧(∃ a',Rdr W' g k xs c a' false)∧Only g W W' none) fun e W' hh=>⟨hh.1,⟨a,h.below hh.2⟩,only_below hh.2⟩
 have HU:=Lib.hid hu
 clear h hu
 go_enter Tryz.func280,Tryz.ntmps280
 go_wp2_with fail
 refine HU.out.mono ?_
 rintro e w1 ⟨⟨v,rfl⟩,hr⟩
 have HR:=Lib.hid hr
 clear hr
 go_wp2_with fail
 exact ⟨rfl,⟨_,rfl⟩,HR.out⟩
set_option maxRecDepth 100000 in
theorem ask53_good (w:World) (g k:Nat) (xs:List UInt8) (c a:Nat) (h:Rdr w g k xs c a false) (hn:a+2≤xs.length) :
  Calls Tryz.prog 251 #[.pointer (some ⟨g,0,none⟩)] w fun e w'=>e=.returned (.int .i64 (beVal ((xs.drop a).take 2)))∧Rdr w' g k xs c (a+2) false∧Only g w w' none:=by
 have hmf:∀ (fn:Fn) (first cap:Array Value) (w:World),(Instr.makeFunc fn first cap).run Tryz.prog w=.ok (.func fn first cap) w:=fun _ _ _ _=>rfl
 obtain ⟨hr,hb⟩:=rdr_one h (.pointer (some ⟨g,0,none⟩)) 56
 have ht:=tell73_met _ g k xs c a (a+2) (.int .i64 (beVal ((xs.drop a).take 2))) 280 #[.pointer (some ⟨w.heap.size,0,none⟩)] hr (callK 280 Tryz.f280 Tryz.func280 (by kernel_rfl) (by kernel_rfl) _)
  (fun W hW hR=>num89_good W _ g k xs c a (by rw [hW.cell (p:=⟨w.heap.size,0,none⟩) (by simp)];simp [go_sem]) hR hn)
 have HT:=Lib.hid ht
 have HB:=Lib.hid hb
 clear ht hb hr h
 go_enter Tryz.func251,Tryz.ntmps251
 go_wp2_with fail
 refine HT.out.mono ?_
 rintro e w1 ⟨rfl,hr,ho⟩
 have HR:=Lib.hid (And.intro hr ((only_below HB.out).trans0 ho))
 clear hr ho
 go_wp2_with fail
 go_ret
 exact ⟨rfl,HR.out⟩
set_option maxRecDepth 100000 in
theorem ask53_bad (w:World) (g k:Nat) (xs:List UInt8) (c a:Nat) (h:Rdr w g k xs c a false) (ha:a≤xs.length) (hn:xs.length < a+2) :
  Calls Tryz.prog 251 #[.pointer (some ⟨g,0,none⟩)] w fun e w'=>e=.returned (.int .i64 0)∧Rdr w' g k xs c a true∧Only g w w' none:=by
 have hmf:∀ (fn:Fn) (first cap:Array Value) (w:World),(Instr.makeFunc fn first cap).run Tryz.prog w=.ok (.func fn first cap) w:=fun _ _ _ _=>rfl
 obtain ⟨hr,hb⟩:=rdr_one h (.pointer (some ⟨g,0,none⟩)) 56
 have ht:=tell73_unmet _ g k xs c a 280 #[.pointer (some ⟨w.heap.size,0,none⟩)] hr (callK 280 Tryz.f280 Tryz.func280 (by kernel_rfl) (by kernel_rfl) _)
  (fun W hW hR=>num89_bad W _ g k xs c a (by rw [hW.cell (p:=⟨w.heap.size,0,none⟩) (by simp)];simp [go_sem]) hR ha hn)
 have HT:=Lib.hid ht
 have HB:=Lib.hid hb
 clear ht hb hr h
 go_enter Tryz.func251,Tryz.ntmps251
 go_wp2_with fail
 refine HT.out.mono ?_
 rintro e w1 ⟨rfl,hr,ho⟩
 have HR:=Lib.hid (And.intro hr ((only_below HB.out).trans0 ho))
 clear hr ho
 go_wp2_with fail
 go_ret
 exact ⟨rfl,HR.out⟩
set_option maxRecDepth 100000 in
theorem num90_good (W:World) (p g k:Nat) (xs:List UInt8) (c a:Nat) (hp:W.cell? ⟨p,0,none⟩=some (.pointer (some ⟨g,0,none⟩))) (h:Rdr W g k xs c a false) (hn:a+4≤xs.length) :
  Calls Tryz.prog 272 #[.pointer (some ⟨p,0,none⟩)] W fun e W'=>e=.returned (.int .i64 (beVal ((xs.drop a).take 4)))∧Rdr W' g k xs c (a+4) false∧Only g W W' none:=by
 have HU:=Lib.hid (number_good W g k xs c a h 4 (by omega) hn)
 have hlt:=beVal_take xs a 4
 have e256:(256:Nat) ^ 4=4294967296:=by decide
 rw [e256] at hlt
 have hw:IntKind.i64.wrap (beVal ((xs.drop a).take 4):Int)=beVal ((xs.drop a).take 4):=by rw [IntKind.wrap_i64];omega
 clear h
 go_enter Tryz.func272,Tryz.ntmps272
 go_wp2_with fail
 refine HU.out.mono ?_
 rintro e w1 ⟨rfl,hr⟩
 have HR:=Lib.hid hr
 clear hr
 go_wp2_with fail
 go_ret
 exact ⟨rfl,HR.out⟩
set_option maxRecDepth 100000 in
theorem num90_bad (W:World) (p g k:Nat) (xs:List UInt8) (c a:Nat) (hp:W.cell? ⟨p,0,none⟩=some (.pointer (some ⟨g,0,none⟩))) (h:Rdr W g k xs c a false) (ha:a≤xs.length) (hn:xs.length < a+4) :
  Calls Tryz.prog 272 #[.pointer (some ⟨p,0,none⟩)] W fun e W'=>Unmet e∧(∃ a',Rdr W' g k xs c a' false)∧Only g W W' none:=by
 have hu:=(number_bad W g k xs c a h ha 4 hn).mono (R':=fun e W'=>Unmet e∧(∃ a',Rdr W' g k xs c a' false)∧Only g W W' none) fun e W' hh=>⟨hh.1,⟨a,h.below hh.2⟩,only_below hh.2⟩
 have HU:=Lib.hid hu
 clear h hu
 go_enter Tryz.func272,Tryz.ntmps272
 go_wp2_with fail
 refine HU.out.mono ?_
 rintro e w1 ⟨⟨v,rfl⟩,hr⟩
 have HR:=Lib.hid hr
 clear hr
 go_wp2_with fail
 exact ⟨rfl,⟨_,rfl⟩,HR.out⟩
set_option maxRecDepth 100000 in
theorem ask54_good (w:World) (g k:Nat) (xs:List UInt8) (c a:Nat) (h:Rdr w g k xs c a false) (hn:a+4≤xs.length) :
  Calls Tryz.prog 224 #[.pointer (some ⟨g,0,none⟩)] w fun e w'=>e=.returned (.int .i64 (beVal ((xs.drop a).take 4)))∧Rdr w' g k xs c (a+4) false∧Only g w w' none:=by
 have hmf:∀ (fn:Fn) (first cap:Array Value) (w:World),(Instr.makeFunc fn first cap).run Tryz.prog w=.ok (.func fn first cap) w:=fun _ _ _ _=>rfl
 obtain ⟨hr,hb⟩:=rdr_one h (.pointer (some ⟨g,0,none⟩)) 56
 have ht:=tell73_met _ g k xs c a (a+4) (.int .i64 (beVal ((xs.drop a).take 4))) 272 #[.pointer (some ⟨w.heap.size,0,none⟩)] hr (callK 272 Tryz.f272 Tryz.func272 (by kernel_rfl) (by kernel_rfl) _)
  (fun W hW hR=>num90_good W _ g k xs c a (by rw [hW.cell (p:=⟨w.heap.size,0,none⟩) (by simp)];simp [go_sem]) hR hn)
 have HT:=Lib.hid ht
 have HB:=Lib.hid hb
 clear ht hb hr h
 go_enter Tryz.func224,Tryz.ntmps224
 go_wp2_with fail
 refine HT.out.mono ?_
 rintro e w1 ⟨rfl,hr,ho⟩
 have HR:=Lib.hid (And.intro hr ((only_below HB.out).trans0 ho))
 clear hr ho
 go_wp2_with fail
 go_ret
 exact ⟨rfl,HR.out⟩
set_option maxRecDepth 100000 in
theorem ask54_bad (w:World) (g k:Nat) (xs:List UInt8) (c a:Nat) (h:Rdr w g k xs c a false) (ha:a≤xs.length) (hn:xs.length < a+4) :
  Calls Tryz.prog 224 #[.pointer (some ⟨g,0,none⟩)] w fun e w'=>e=.returned (.int .i64 0)∧Rdr w' g k xs c a true∧Only g w w' none:=by
 have hmf:∀ (fn:Fn) (first cap:Array Value) (w:World),(Instr.makeFunc fn first cap).run Tryz.prog w=.ok (.func fn first cap) w:=fun _ _ _ _=>rfl
 obtain ⟨hr,hb⟩:=rdr_one h (.pointer (some ⟨g,0,none⟩)) 56
 have ht:=tell73_unmet _ g k xs c a 272 #[.pointer (some ⟨w.heap.size,0,none⟩)] hr (callK 272 Tryz.f272 Tryz.func272 (by kernel_rfl) (by kernel_rfl) _)
  (fun W hW hR=>num90_bad W _ g k xs c a (by rw [hW.cell (p:=⟨w.heap.size,0,none⟩) (by simp)];simp [go_sem]) hR ha hn)
 have HT:=Lib.hid ht
 have HB:=Lib.hid hb
 clear ht hb hr h
 go_enter Tryz.func224,Tryz.ntmps224
 go_wp2_with fail
 refine HT.out.mono ?_
 rintro e w1 ⟨rfl,hr,ho⟩
 have HR:=Lib.hid (And.intro hr ((only_below HB.out).trans0 ho))
 clear hr ho
 go_wp2_with fail
 go_ret
 exact ⟨rfl,HR.out⟩
set_option maxRecDepth 100000 in
theorem num92_good (W:World) (p g k:Nat) (xs:List UInt8) (c a:Nat) (hp:W.cell? ⟨p,0,none⟩=some (.pointer (some ⟨g,0,none⟩))) (h:Rdr W g k xs c a false) (hn:a+8≤xs.length) :
  Calls Tryz.prog 284 #[.pointer (some ⟨p,0,none⟩)] W fun e W'=>e=.returned (.int .u64 (beVal ((xs.drop a).take 8)))∧Rdr W' g k xs c (a+8) false∧Only g W W' none:=by
 have HU:=Lib.hid (number_good W g k xs c a h 8 (by omega) hn)
 clear h
 go_enter Tryz.func284,Tryz.ntmps284
 go_wp2_with fail
 refine HU.out.mono ?_
 rintro e w1 ⟨rfl,hr⟩
 have HR:=Lib.hid hr
 clear hr
 go_wp2_with fail
 go_ret
 exact ⟨rfl,HR.out⟩
set_option maxRecDepth 100000 in
theorem num92_bad (W:World) (p g k:Nat) (xs:List UInt8) (c a:Nat) (hp:W.cell? ⟨p,0,none⟩=some (.pointer (some ⟨g,0,none⟩))) (h:Rdr W g k xs c a false) (ha:a≤xs.length) (hn:xs.length < a+8) :
  Calls Tryz.prog 284 #[.pointer (some ⟨p,0,none⟩)] W fun e W'=>Unmet e∧(∃ a',Rdr W' g k xs c a' false)∧Only g W W' none:=by
 have hu:=(number_bad W g k xs c a h ha 8 hn).mono (R':=fun e W'=>Unmet e∧(∃ a',Rdr W' g k xs c a' false)∧Only g W W' none) fun e W' hh=>⟨hh.1,⟨a,h.below hh.2⟩,only_below hh.2⟩
 have HU:=Lib.hid hu
 clear h hu
 go_enter Tryz.func284,Tryz.ntmps284
 go_wp2_with fail
 refine HU.out.mono ?_
 rintro e w1 ⟨⟨v,rfl⟩,hr⟩
 have HR:=Lib.hid hr
 clear hr
 go_wp2_with fail
 exact ⟨rfl,⟨_,rfl⟩,HR.out⟩
set_option maxRecDepth 100000 in
theorem ask55_good (w:World) (g k:Nat) (xs:List UInt8) (c a:Nat) (h:Rdr w g k xs c a false) (hn:a+8≤xs.length) :
  Calls Tryz.prog 256 #[.pointer (some ⟨g,0,none⟩)] w fun e w'=>e=.returned (.int .u64 (beVal ((xs.drop a).take 8)))∧Rdr w' g k xs c (a+8) false∧Only g w w' none:=by
 have hmf:∀ (fn:Fn) (first cap:Array Value) (w:World),(Instr.makeFunc fn first cap).run Tryz.prog w=.ok (.func fn first cap) w:=fun _ _ _ _=>rfl
 obtain ⟨hr,hb⟩:=rdr_one h (.pointer (some ⟨g,0,none⟩)) 56
 have ht:=tell91_met _ g k xs c a (a+8) (.int .u64 (beVal ((xs.drop a).take 8))) 284 #[.pointer (some ⟨w.heap.size,0,none⟩)] hr (callK 284 Tryz.f284 Tryz.func284 (by kernel_rfl) (by kernel_rfl) _)
  (fun W hW hR=>num92_good W _ g k xs c a (by rw [hW.cell (p:=⟨w.heap.size,0,none⟩) (by simp)];simp [go_sem]) hR hn)
 have HT:=Lib.hid ht
 have HB:=Lib.hid hb
 clear ht hb hr h
 go_enter Tryz.func256,Tryz.ntmps256
 go_wp2_with fail
 refine HT.out.mono ?_
 rintro e w1 ⟨rfl,hr,ho⟩
 have HR:=Lib.hid (And.intro hr ((only_below HB.out).trans0 ho))
 clear hr ho
 go_wp2_with fail
 go_ret
 exact ⟨rfl,HR.out⟩
set_option maxRecDepth 100000 in
theorem ask55_bad (w:World) (g k:Nat) (xs:List UInt8) (c a:Nat) (h:Rdr w g k xs c a false) (ha:a≤xs.length) (hn:xs.length < a+8) :
  Calls Tryz.prog 256 #[.pointer (some ⟨g,0,none⟩)] w fun e w'=>e=.returned (.int .u64 0)∧Rdr w' g k xs c a true∧Only g w w' none:=by
 have hmf:∀ (fn:Fn) (first cap:Array Value) (w:World),(Instr.makeFunc fn first cap).run Tryz.prog w=.ok (.func fn first cap) w:=fun _ _ _ _=>rfl
 obtain ⟨hr,hb⟩:=rdr_one h (.pointer (some ⟨g,0,none⟩)) 56
 have ht:=tell91_unmet _ g k xs c a 284 #[.pointer (some ⟨w.heap.size,0,none⟩)] hr (callK 284 Tryz.f284 Tryz.func284 (by kernel_rfl) (by kernel_rfl) _)
  (fun W hW hR=>num92_bad W _ g k xs c a (by rw [hW.cell (p:=⟨w.heap.size,0,none⟩) (by simp)];simp [go_sem]) hR ha hn)
 have HT:=Lib.hid ht
 have HB:=Lib.hid hb
 clear ht hb hr h
 go_enter Tryz.func256,Tryz.ntmps256
 go_wp2_with fail
 refine HT.out.mono ?_
 rintro e w1 ⟨rfl,hr,ho⟩
 have HR:=Lib.hid (And.intro hr ((only_below HB.out).trans0 ho))
 clear hr ho
 go_wp2_with fail
 go_ret
 exact ⟨rfl,HR.out⟩
set_option maxRecDepth 100000 in
theorem num94_good (W:World) (p g k:Nat) (xs:List UInt8) (c a:Nat) (hp:W.cell? ⟨p,0,none⟩=some (.pointer (some ⟨g,0,none⟩))) (h:Rdr W g k xs c a false) (hn:a+8≤xs.length) :
  Calls Tryz.prog 271 #[.pointer (some ⟨p,0,none⟩)] W fun e W'=>e=.returned (.int .i64 (IntKind.i64.wrap (beVal ((xs.drop a).take 8))))∧Rdr W' g k xs c (a+8) false∧Only g W W' none:=by
 have HU:=Lib.hid (number_good W g k xs c a h 8 (by omega) hn)
 obtain ⟨z,hz⟩:∃ z,IntKind.i64.wrap (beVal ((xs.drop a).take 8):Int)=z:=⟨_,rfl⟩
 rw [hz]
 clear h
 go_enter Tryz.func271,Tryz.ntmps271
 go_wp2_with fail
 refine HU.out.mono ?_
 rintro e w1 ⟨rfl,hr⟩
 have HR:=Lib.hid hr
 clear hr
 go_wp2_with fail
 go_ret
 exact ⟨rfl,HR.out⟩
set_option maxRecDepth 100000 in
theorem num94_bad (W:World) (p g k:Nat) (xs:List UInt8) (c a:Nat) (hp:W.cell? ⟨p,0,none⟩=some (.pointer (some ⟨g,0,none⟩))) (h:Rdr W g k xs c a false) (ha:a≤xs.length) (hn:xs.length < a+8) :
  Calls Tryz.prog 271 #[.pointer (some ⟨p,0,none⟩)] W fun e W'=>Unmet e∧(∃ a',Rdr W' g k xs c a' false)∧Only g W W' none:=by
 have hu:=(number_bad W g k xs c a h ha 8 hn).mono (R':=fun e W'=>Unmet e∧(∃ a',Rdr W' g k xs c a' false)∧Only g W W' none) fun e W' hh=>⟨hh.1,⟨a,h.below hh.2⟩,only_below hh.2⟩
 have HU:=Lib.hid hu
 clear h hu
 go_enter Tryz.func271,Tryz.ntmps271
 go_wp2_with fail
 refine HU.out.mono ?_
 rintro e w1 ⟨⟨v,rfl⟩,hr⟩
 have HR:=Lib.hid hr
 clear hr
 go_wp2_with fail
 exact ⟨rfl,⟨_,rfl⟩,HR.out⟩
set_option maxRecDepth 100000 in
theorem ask56_good (w:World) (g k:Nat) (xs:List UInt8) (c a:Nat) (h:Rdr w g k xs c a false) (hn:a+8≤xs.length) :
  Calls Tryz.prog 221 #[.pointer (some ⟨g,0,none⟩)] w fun e w'=>e=.returned (.int .i64 (IntKind.i64.wrap (beVal ((xs.drop a).take 8))))∧Rdr w' g k xs c (a+8) false∧Only g w w' none:=by
 have hmf:∀ (fn:Fn) (first cap:Array Value) (w:World),(Instr.makeFunc fn first cap).run Tryz.prog w=.ok (.func fn first cap) w:=fun _ _ _ _=>rfl
 obtain ⟨hr,hb⟩:=rdr_one h (.pointer (some ⟨g,0,none⟩)) 56
 have ht:=tell93_met _ g k xs c a (a+8) (.int .i64 (IntKind.i64.wrap (beVal ((xs.drop a).take 8)))) 271 #[.pointer (some ⟨w.heap.size,0,none⟩)] hr (callK 271 Tryz.f271 Tryz.func271 (by kernel_rfl) (by kernel_rfl) _)
  (fun W hW hR=>num94_good W _ g k xs c a (by rw [hW.cell (p:=⟨w.heap.size,0,none⟩) (by simp)];simp [go_sem]) hR hn)
 have HT:=Lib.hid ht
 have HB:=Lib.hid hb
 clear ht hb hr h
 go_enter Tryz.func221,Tryz.ntmps221
 go_wp2_with fail
 refine HT.out.mono ?_
 rintro e w1 ⟨rfl,hr,ho⟩
 have HR:=Lib.hid (And.intro hr ((only_below HB.out).trans0 ho))
 clear hr ho
 go_wp2_with fail
 go_ret
 exact ⟨rfl,HR.out⟩
set_option maxRecDepth 100000 in
theorem ask56_bad (w:World) (g k:Nat) (xs:List UInt8) (c a:Nat) (h:Rdr w g k xs c a false) (ha:a≤xs.length) (hn:xs.length < a+8) :
  Calls Tryz.prog 221 #[.pointer (some ⟨g,0,none⟩)] w fun e w'=>e=.returned (.int .i64 0)∧Rdr w' g k xs c a true∧Only g w w' none:=by
 have hmf:∀ (fn:Fn) (first cap:Array Value) (w:World),(Instr.makeFunc fn first cap).run Tryz.prog w=.ok (.func fn first cap) w:=fun _ _ _ _=>rfl
 obtain ⟨hr,hb⟩:=rdr_one h (.pointer (some ⟨g,0,none⟩)) 56
 have ht:=tell93_unmet _ g k xs c a 271 #[.pointer (some ⟨w.heap.size,0,none⟩)] hr (callK 271 Tryz.f271 Tryz.func271 (by kernel_rfl) (by kernel_rfl) _)
  (fun W hW hR=>num94_bad W _ g k xs c a (by rw [hW.cell (p:=⟨w.heap.size,0,none⟩) (by simp)];simp [go_sem]) hR ha hn)
 have HT:=Lib.hid ht
 have HB:=Lib.hid hb
 clear ht hb hr h
 go_enter Tryz.func221,Tryz.ntmps221
 go_wp2_with fail
 refine HT.out.mono ?_
 rintro e w1 ⟨rfl,hr,ho⟩
 have HR:=Lib.hid (And.intro hr ((only_below HB.out).trans0 ho))
 clear hr ho
 go_wp2_with fail
 go_ret
 exact ⟨rfl,HR.out⟩
end Go.Proofs.YtilbbemdinpjcaaGreat.W
namespace Go.Proofs.YtilbbemdinpjcaaGreat.W
open Go.RowKit
theorem upto_bad (W:World) (g k:Nat) (xs:List UInt8) (c a:Nat) (m:Int) (s:Nat) (h:Rdr W g k xs c a false) (ha:a≤xs.length) (hs:s≤7) (hm:xs.length < a+s ∨ m < beVal ((xs.drop a).take s)) (h0:0 < s:=by omega) :
  Calls Tryz.prog 269 #[.pointer (some ⟨g,0,none⟩),.int .i64 m,.int .i64 s] W fun e W'=>Unmet e∧(∃ a',Rdr W' g k xs c a' false)∧Only g W W' none:=by
 by_cases hh:xs.length < a+s
 ·
  exact (upto_short W g k xs c a h ha m s hh).mono fun e W' hh=>⟨hh.1,⟨a,h.below hh.2⟩,only_below hh.2⟩
 ·
  exact (upto_great W g k xs c a h m s hs (by omega) (by omega)).mono fun e W' hh=>⟨hh.1,⟨_,hh.2.1⟩,hh.2.2⟩
set_option maxRecDepth 100000 in
theorem flag1_bad (W:World) (p g k:Nat) (xs:List UInt8) (c a:Nat) (hp:W.cell? ⟨p,0,none⟩=some (.pointer (some ⟨g,0,none⟩))) (h:Rdr W g k xs c a false) (ha:a≤xs.length)
  (hm:xs.length < a+1 ∨ (1:Int) < beVal ((xs.drop a).take 1)) :
  Calls Tryz.prog 292 #[.pointer (some ⟨p,0,none⟩)] W fun e W'=>Unmet e∧(∃ a',Rdr W' g k xs c a' false)∧Only g W W' none:=by
 have HU:=Lib.hid (upto_bad W g k xs c a 1 1 h ha (by omega) hm)
 clear h hm
 go_enter Tryz.func292,Tryz.ntmps292
 go_wp2_with fail
 refine HU.out.mono ?_
 rintro e w1 ⟨⟨v,rfl⟩,hr⟩
 have HR:=Lib.hid hr
 clear hr
 go_wp2_with fail
 exact ⟨rfl,⟨_,rfl⟩,HR.out⟩
set_option maxRecDepth 100000 in
theorem flag_bad (w:World) (g k:Nat) (xs:List UInt8) (c a:Nat) (h:Rdr w g k xs c a false) (ha:a≤xs.length) (hm:xs.length < a+1 ∨ (1:Int) < beVal ((xs.drop a).take 1)) :
  Calls Tryz.prog 273 #[.pointer (some ⟨g,0,none⟩)] w fun e w'=>e=.returned (.bool false)∧Rdr w' g k xs c a true∧Only g w w' none:=by
 have hmf:∀ (fn:Fn) (first cap:Array Value) (w:World),(Instr.makeFunc fn first cap).run Tryz.prog w=.ok (.func fn first cap) w:=fun _ _ _ _=>rfl
 obtain ⟨hr,hb⟩:=rdr_one h (.pointer (some ⟨g,0,none⟩)) 56
 have ht:=tell85_unmet _ g k xs c a 292 #[.pointer (some ⟨w.heap.size,0,none⟩)] hr (callK 292 Tryz.f292 Tryz.func292 (by kernel_rfl) (by kernel_rfl) _)
  (fun W hW hR=>flag1_bad W _ g k xs c a (by rw [hW.cell (p:=⟨w.heap.size,0,none⟩) (by simp)];simp [go_sem]) hR ha hm)
 have HT:=Lib.hid ht
 have HB:=Lib.hid hb
 clear ht hb hr h hm
 go_enter Tryz.func273,Tryz.ntmps273
 go_wp2_with fail
 refine HT.out.mono ?_
 rintro e w1 ⟨rfl,hr,ho⟩
 have HR:=Lib.hid (And.intro hr ((only_below HB.out).trans0 ho))
 clear hr ho
 go_wp2_with fail
 go_ret
 exact ⟨rfl,HR.out⟩
end Go.Proofs.YtilbbemdinpjcaaGreat.W
namespace Go.Proofs.YtilbbemdinpjcaaGreat.W
open Go.RowKit
end Go.Proofs.YtilbbemdinpjcaaGreat.W
namespace Go.Proofs.YtilbbemdinpjcaaGreat.W
open Go.RowKit
set_option maxRecDepth 100000 in
theorem text1_zero (W:World) (p q g k:Nat) (xs:List UInt8) (c a:Nat) (m:Int) (hp:W.cell? ⟨p,0,none⟩=some (.pointer (some ⟨g,0,none⟩))) (hq:W.cell? ⟨q,0,none⟩=some (.int .i64 m)) (hpl:p < W.heap.size) (hql:q < W.heap.size) (hpg:p≠g) (hqg:q≠g) (h:Rdr W g k xs c a false)
  (hn:a+2≤xs.length) (hv:beVal ((xs.drop a).take 2)=0) (hm:0≤m) :
  Calls Tryz.prog 282 #[.pointer (some ⟨p,0,none⟩),.pointer (some ⟨q,0,none⟩)] W fun e W'=>e=.returned (.string ⟨#[]⟩)∧Rdr W' g k xs c (a+2) false∧Only g W W' none:=by
 have hu:∀ V,Rdr V g k xs c a false→Calls Tryz.prog 269 #[.pointer (some ⟨g,0,none⟩),.int .i64 m,.int .i64 2] V fun e V'=>e=.returned (.int .i64 0)∧Rdr V' g k xs c (a+2) false∧Only g V V' none:=fun V hV=>by
  have:=upto_good V g k xs c a hV m 2 (by omega) (by omega) (by rw [hv];exact hm)
  rwa [hv] at this
 have hx:∀ V,Rdr V g k xs c (a+2) false→Calls Tryz.prog 276 #[.pointer (some ⟨g,0,none⟩),.int .i64 0] V fun e V'=>∃ off c',e=.returned (.slice (some ⟨k,off,none⟩) 0 c')∧Rdr V' g k xs c (a+2) false∧Only g V V' none:=fun V hV=>(next_good V g k xs c (a+2) hV 0 (by omega) (hV.notNil (by omega))).mono fun e V' hh=>by
  obtain ⟨off,c',he,_,h1,h2⟩:=hh
  exact ⟨off,c',he,h1,h2⟩
 have hts:∀ V,V.cell? ⟨p,0,none⟩=some (.pointer (some ⟨g,0,none⟩))→V.cell? ⟨q,0,none⟩=some (.int .i64 m) →
   V.cell? ⟨p,0,none⟩=some (.pointer (some ⟨g,0,none⟩))∧V.cell? ⟨q,0,none⟩=some (.int .i64 m)∧(∀ off c',(convert 54 9 (.slice (some ⟨k,off,none⟩) 0 c')).run Tryz.prog V=.ok (.string ⟨#[]⟩) V):=fun V h1 h2=>⟨h1,h2,fun off c'=>str_none V k off c'⟩
 have HU:=Lib.hid hu
 have HX:=Lib.hid hx
 have HT:=Lib.hid hts
 have hbd:Below W.heap.size W W.drew:=(Below.refl _ _).drew
 have hd:=h.below hbd
 have HBD:=Lib.hid hbd
 have HR:=Lib.hid hd
 clear hu hx hts hv hm hd hbd h
 go_enter Tryz.func282,Tryz.ntmps282
 go_wp2_with fail
 go_region_held3 (fun w'=>w'.cell? ⟨p,0,none⟩=some (.pointer (some ⟨g,0,none⟩))∧w'.cell? ⟨q,0,none⟩=some (.int .i64 m)∧(∀ off c',(convert 54 9 (.slice (some ⟨k,off,none⟩) 0 c')).run Tryz.prog w'=.ok (.string ⟨#[]⟩) w')) (exact HT.out _ (by assumption) (by assumption)) (first
  | ((with_reducible refine (HU.out _ HR.out).mono ?_);rintro e w1 ⟨rfl,hr1,ho1⟩;have g1:=(ho1.cell (o:=0) hpl hpg).trans hp;have g2:=(ho1.cell (o:=0) hql hqg).trans hq)
  | ((with_reducible refine (HX.out _ hr1).mono ?_);rintro e w2 ⟨off,c',rfl,hr2,ho2⟩;have k1:=(ho2.cell (o:=0) (Nat.lt_of_lt_of_le hpl ho1.size) hpg).trans g1;have k2:=(ho2.cell (o:=0) (Nat.lt_of_lt_of_le hql ho1.size) hqg).trans g2))
 all_goals
  go_wp2_with fail
  go_ret
  exact ⟨rfl,hr2,((only_below HBD.out).trans0 ho1).trans0 ho2⟩
set_option maxRecDepth 100000 in
theorem rtext_zero (w:World) (g k:Nat) (xs:List UInt8) (c a:Nat) (m:Int) (h:Rdr w g k xs c a false)
 (hn:a+2≤xs.length) (hv:beVal ((xs.drop a).take 2)=0) (hm:0≤m) :
 Calls Tryz.prog 254 #[.pointer (some ⟨g,0,none⟩),.int .i64 m] w fun e w'=>e=.returned (.string ⟨#[]⟩)∧Rdr w' g k xs c (a+2) false∧Only g w w' none:=by
 have hmf:∀ (fn:Fn) (first cap:Array Value) (w:World),(Instr.makeFunc fn first cap).run Tryz.prog w=.ok (.func fn first cap) w:=fun _ _ _ _=>rfl
 have hgl:=h.1.lt
 obtain ⟨hr,hb⟩:=rdr_pair h (.pointer (some ⟨g,0,none⟩)) (.int .i64 m) 56 3
 have ht:=tell83_met _ g k xs c a (a+2) (.string ⟨#[]⟩) 282 #[.pointer (some ⟨w.heap.size,0,none⟩),.pointer (some ⟨w.heap.size+1,0,none⟩)] hr (callK 282 Tryz.f282 Tryz.func282 (by kernel_rfl) (by kernel_rfl) _)
  (fun W hW hR=>text1_zero W w.heap.size (w.heap.size+1) g k xs c a m (by rw [hW.cell (p:=⟨w.heap.size,0,none⟩) (by simp;omega)];simp [go_sem]) (by rw [hW.cell (p:=⟨w.heap.size+1,0,none⟩) (by simp)];simp [go_sem])
    (by have:=hW.size;simp at this;omega) (by have:=hW.size;simp at this;omega) (by omega) (by omega) hR hn hv hm)
 have HT:=Lib.hid ht
 have HB:=Lib.hid hb
 clear ht hb hr h hv hm
 go_enter Tryz.func254,Tryz.ntmps254
 go_wp2_with fail
 refine HT.out.mono ?_
 rintro e w1 ⟨rfl,hr,ho⟩
 have HR:=Lib.hid (And.intro hr ((only_below HB.out).trans0 ho))
 clear hr ho
 go_wp2_with fail
 go_ret
 exact ⟨rfl,HR.out⟩
end Go.Proofs.YtilbbemdinpjcaaGreat.W
