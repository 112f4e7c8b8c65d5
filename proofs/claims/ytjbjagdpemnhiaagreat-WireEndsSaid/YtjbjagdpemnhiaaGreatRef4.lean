/-
  The document's own writer: Text.
-/
import Derived.Test.YtjbjagdpemnhiaaGreatRef3
import Derived.Lib.ConvBytes
namespace Go.Proofs.YtjbjagdpemnhiaaGreat
open Go.RowKit

theorem str_len (s : ByteArray) : s.data.toList.length = s.size := Array.length_toList
theorem bytesWorld_below (w : World) (s : ByteArray) : Below w.heap.size w (Lib.bytesWorld w 5 s) :=
  ⟨rfl, rfl, rfl, by rw [Lib.bytesWorld_size]; omega, fun k hk => Lib.bytesWorld_at_old w 5 s k hk⟩
theorem bytesWorld_src (w : World) (s : ByteArray) : Src (Lib.bytesWorld w 5 s) w.heap.size 0 s.data.toList := fun j hj => by
  have := Lib.bytesWorld_cell w 5 s j (by rw [← str_len]; exact hj)
  rwa [Nat.zero_add]
theorem stepText_ref (st : Option (List UInt8)) (s : ByteArray) (hs2 : s.size < 9223372036854775808) : stepText st s = stepB (stepN st (low64 s.size) 2) s.data.toList := by
  have hl : low64 s.size = s.size := by have := low64_fit s.size (by omega) (by omega); omega
  by_cases h : s.size < 65536
  · rw [stepText, if_pos h, stepN_fit2 st s.size (by omega) (by omega), hl]
    cases st with
    | none => rfl
    | some l => simp [stepB]
  · rw [stepText, if_neg h, stepN_not2 st s.size (by omega) (by omega) (by omega)]
    rfl
set_option maxRecDepth 100000 in
theorem rtext_st (w : World) (B g : Nat) (v : Value) (st : Option (List UInt8)) (s : ByteArray) (h : RfS w B g v st) (hB : B ≤ w.heap.size) (hx : ∀ l, st = some l → l.length ≤ 900000) (hs2 : s.size < 9223372036854775808) (hs3 : ∀ l, st = some l → l.length + s.size ≤ 1000000) :
    Calls Tryz.prog 40 #[.pointer (some ⟨g, 0, none⟩), .string s] w fun e w' => e = .returned (.tuple #[]) ∧ RMoreO w B g v (stepText st s) w' := by
  rw [stepText_ref st s hs2]
  have hu := ru16_st w B g v st s.size (by omega) (by omega) h hB (fun l e => by have := hx l e; omega)
  have hx3 : ∀ l, stepN st (low64 s.size) 2 = some l → l.length + s.data.toList.length ≤ 2000000 := by
    intro l e
    have hsz := str_len s
    cases st with
    | none => cases e
    | some l0 =>
      simp only [stepN, Option.bind_some] at e
      split at e
      · cases e
        have := hs3 l0 rfl
        rw [List.length_append, beN_length]; omega
      · cases e
  have HU := Lib.hid hu
  have HX := Lib.hid hx3
  clear hu h hx hx3 hs3
  go_enter Tryz.func40, Tryz.ntmps40
  go_wp2_with fail
  refine HU.out.mono ?_
  rintro e w1 ⟨rfl, v1, hw1, ho1, ha1⟩
  have hB1 : B ≤ w1.heap.size := Nat.le_trans hB ho1.size
  have hb := bytesWorld_below w1 s
  have he := fun c => rraw_in (Lib.bytesWorld w1 5 s) B g v1 (.slice (some ⟨w1.heap.size, 0, none⟩) s.data.toList.length c) _ s.data.toList (hw1.below hb) (.inr ⟨_, c, rfl, src_news (bytesWorld_src w1 s)⟩) (Nat.le_trans hB1 hb.size) HX.out
  rw [str_len] at he
  have hcv := Lib.run_convert_string_bytes (P := Tryz.prog) w1 9 26 5 s Tryz.underlying9 Tryz.underlying26 Tryz.underlying5
  have HE := Lib.hid he
  have HO := Lib.hid (And.intro ho1 (And.intro ha1 hb))
  clear he hb hw1 ho1 ha1 HU
  go_wp2_with fail
  refine (HE.out _).mono ?_
  rintro e w2 ⟨rfl, hm⟩
  have HM := Lib.hid hm
  clear hm HE hcv
  go_wp2_with fail
  go_end0
  exact ⟨rfl, RMoreO.trans HO.out.1 HO.out.2.1 (HM.out.after HO.out.2.2)⟩
end Go.Proofs.YtjbjagdpemnhiaaGreat
