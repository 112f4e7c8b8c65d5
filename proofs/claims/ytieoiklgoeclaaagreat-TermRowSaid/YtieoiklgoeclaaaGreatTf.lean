/-
  Terms as forests (a first node, what is below it, what stands beside it): the order of two of them is one order.
-/
import Derived.Test.YtieoiklgoeclaaaGreatTr
import Derived.Test.YtieoiklgoeclaaaGreatFPl
namespace Go.Proofs.YtieoiklgoeclaaaGreat

def cmpL : List UInt8 → List UInt8 → Int
  | [], [] => 0
  | [], _ :: _ => -1
  | _ :: _, [] => 1
  | a :: x, b :: y => if a < b then -1 else if b < a then 1 else cmpL x y
theorem cmpL_is : ∀ x y : List UInt8, (if Op.bytesLess x y = true then (-1 : Int) else if (x == y) = true then 0 else 1) = cmpL x y
  | [], [] => rfl
  | [], _ :: _ => rfl
  | _ :: _, [] => rfl
  | a :: x, b :: y => by
    have ih := cmpL_is x y
    unfold cmpL
    by_cases h1 : a < b
    · simp [Op.bytesLess, h1]
    · by_cases h2 : b < a
      · have h3 : ¬ a = b := fun e => by subst e; exact h1 h2
        simp [Op.bytesLess, h1, h2, h3]
      · have h3 : a = b := UInt8.le_antisymm (UInt8.not_lt.1 h2) (UInt8.not_lt.1 h1)
        subst h3
        simp [Op.bytesLess, h1]
        simpa using ih
theorem cmpS_is (x y : ByteArray) : cmpS x y = cmpL x.toList y.toList := cmpL_is _ _
theorem cmpL_turn : ∀ x y : List UInt8, cmpL x y = - cmpL y x
  | [], [] => rfl
  | [], _ :: _ => rfl
  | _ :: _, [] => rfl
  | a :: x, b :: y => by
    have ih := cmpL_turn x y
    unfold cmpL
    by_cases h1 : a < b
    · have h2 : ¬ b < a := fun h => UInt8.lt_irrefl _ (UInt8.lt_trans h1 h)
      simp [h1, h2]
    · by_cases h2 : b < a
      · simp [h1, h2]
      · simp [h1, h2]; exact ih
theorem cmpL_range : ∀ x y : List UInt8, -1 ≤ cmpL x y ∧ cmpL x y ≤ 1
  | [], [] => by simp [cmpL]
  | [], _ :: _ => by simp [cmpL]
  | _ :: _, [] => by simp [cmpL]
  | a :: x, b :: y => by
    have ih := cmpL_range x y
    unfold cmpL
    split
    · omega
    · split <;> omega
theorem cmpL_tri : ∀ x y z : List UInt8, cmpL x y ≤ 0 → cmpL y z ≤ 0 → cmpL x z ≤ 0 ∧ (cmpL x z = 0 → cmpL x y = 0 ∧ cmpL y z = 0)
  | [], [], z, _, h => ⟨h, fun e => ⟨rfl, e⟩⟩
  | [], _ :: _, [], _, h => by simp [cmpL] at h
  | [], _ :: _, _ :: _, _, _ => ⟨by simp [cmpL], fun h => by simp [cmpL] at h⟩
  | _ :: _, [], _, h, _ => by simp [cmpL] at h
  | _ :: _, _ :: _, [], _, h => by simp [cmpL] at h
  | a :: x, b :: y, c :: z, h1, h2 => by
    have ih := cmpL_tri x y z
    unfold cmpL at h1 h2 ⊢
    simp only [UInt8.lt_iff_toNat_lt] at *
    by_cases e1 : a.toNat < b.toNat
    · have e3 : ¬ c.toNat < b.toNat := fun e => by rw [if_neg (by omega), if_pos e] at h2; omega
      rw [if_pos (show a.toNat < c.toNat by omega)]
      exact ⟨by omega, fun h => by omega⟩
    · rw [if_neg e1] at h1
      by_cases e2 : b.toNat < a.toNat
      · rw [if_pos e2] at h1; omega
      · rw [if_neg e2] at h1
        by_cases e4 : b.toNat < c.toNat
        · rw [if_pos (show a.toNat < c.toNat by omega)]
          exact ⟨by omega, fun h => by omega⟩
        · rw [if_neg e4] at h2
          by_cases e5 : c.toNat < b.toNat
          · rw [if_pos e5] at h2; omega
          · rw [if_neg e5] at h2
            have ih2 := ih h1 h2
            rw [if_neg (show ¬ a.toNat < c.toNat by omega), if_neg (show ¬ c.toNat < a.toNat by omega), if_neg e1, if_neg e2, if_neg e4, if_neg e5]
            exact ih2
theorem cmpL_eq : ∀ x y : List UInt8, cmpL x y = 0 → x = y
  | [], [], _ => rfl
  | [], _ :: _, h => by simp [cmpL] at h
  | _ :: _, [], h => by simp [cmpL] at h
  | a :: x, b :: y, h => by
    unfold cmpL at h
    by_cases h1 : a < b
    · rw [if_pos h1] at h; omega
    · by_cases h2 : b < a
      · rw [if_neg h1, if_pos h2] at h; omega
      · rw [if_neg h1, if_neg h2] at h
        rw [cmpL_eq x y h, UInt8.le_antisymm (UInt8.not_lt.1 h2) (UInt8.not_lt.1 h1)]
/-- What two nodes are beside their kids, reals by their places. -/
def partB (a b : Nd) : Int := if cmpI a.kind b.kind ≠ 0 then cmpI a.kind b.kind else if cmpI a.num b.num ≠ 0 then cmpI a.num b.num else if orderB a.bits b.bits ≠ 0 then orderB a.bits b.bits else cmpL a.txt.toList b.txt.toList
theorem partO_is (a b : Nd) (ha : a.bits < 2 ^ 64) (hb : b.bits < 2 ^ 64) : partO a b = partB a b := by
  unfold partO partB
  rw [ordC_eq a.bits b.bits ha hb, cmpS_is]
  simp only [firstNZ]
  by_cases h1 : cmpI a.kind b.kind = 0
  · by_cases h2 : cmpI a.num b.num = 0
    · by_cases h3 : orderB a.bits b.bits = 0
      · by_cases h4 : cmpL a.txt.toList b.txt.toList = 0 <;> simp [h1, h2, h3, h4]
      · simp [h1, h2, h3]
    · simp [h1, h2]
  · simp [h1]
theorem ite_z {β : Type} {a : Int} {x y : β} (h : a = 0) : (if a ≠ 0 then x else y) = y := if_neg fun k => k h
theorem ite_nz {β : Type} {a : Int} {x y : β} (h : ¬ a = 0) : (if a ≠ 0 then x else y) = x := if_pos h
/-- One order: of two just one way, of three the first one ahead of the last one. -/
structure IsO {α : Type} (c : α → α → Int) : Prop where
  turn : ∀ a b, c a b = - c b a
  range : ∀ a b, -1 ≤ c a b ∧ c a b ≤ 1
  tri : ∀ a b e, c a b ≤ 0 → c b e ≤ 0 → c a e ≤ 0 ∧ (c a e = 0 → c a b = 0 ∧ c b e = 0)
theorem isO_of {α : Type} {c : α → α → Int} (h1 : ∀ a b, c a b = - c b a) (h2 : ∀ a b, -1 ≤ c a b ∧ c a b ≤ 1) (h3 : ∀ a b e, c a b ≤ 0 → c b e ≤ 0 → c a e ≤ 0) : IsO c :=
  ⟨h1, h2, fun a b e x y => ⟨h3 a b e x y, fun z => by
    have t1 := h1 a b
    have t2 := h1 b e
    have t3 := h1 a e
    have k1 := h3 b e a y (by omega)
    have k2 := h3 e a b (by omega) x
    omega⟩⟩
theorem IsO.pull {α β : Type} {c : α → α → Int} (h : IsO c) (f : β → α) : IsO (fun a b => c (f a) (f b)) := ⟨fun _ _ => h.turn _ _, fun _ _ => h.range _ _, fun _ _ _ => h.tri _ _ _⟩
theorem IsO.lex {α : Type} {c d : α → α → Int} (h : IsO c) (k : IsO d) : IsO (fun a b => if c a b ≠ 0 then c a b else d a b) := by
  refine ⟨fun a b => ?_, fun a b => ?_, fun a b e x y => ?_⟩
  · have := h.turn a b
    by_cases h0 : c a b = 0
    · have h1 : c b a = 0 := by omega
      simp only [h0, h1, ne_eq, not_true_eq_false, if_false]; exact k.turn a b
    · have h1 : ¬ c b a = 0 := by omega
      simp only [ne_eq, h0, h1, not_false_eq_true, if_true]; exact this
  · have h1 := h.range a b
    have h2 := k.range a b
    split <;> assumption
  · have x1 : c a b ≤ 0 := by by_cases z : c a b = 0
                              · omega
                              · rw [ite_nz z] at x; exact x
    have y1 : c b e ≤ 0 := by by_cases z : c b e = 0
                              · omega
                              · rw [ite_nz z] at y; exact y
    have t := h.tri a b e x1 y1
    by_cases z : c a e = 0
    · obtain ⟨z1, z2⟩ := t.2 z
      rw [ite_z z1] at x ⊢
      rw [ite_z z2] at y ⊢
      rw [ite_z z]
      exact k.tri a b e x y
    · rw [ite_nz z]
      exact ⟨t.1, fun w => absurd w z⟩
theorem cmpI_self (x : Int) : cmpI x x = 0 := by simp [cmpI]
theorem cmpI_eq {x y : Int} (h : cmpI x y = 0) : x = y := by
  unfold cmpI at h
  split at h
  · omega
  · split at h <;> omega
theorem cmpI_turn (x y : Int) : cmpI x y = - cmpI y x := by
  unfold cmpI
  by_cases h1 : x < y
  · have : ¬ y < x := by omega
    simp [h1, this]
  · by_cases h2 : y < x <;> simp [h1, h2]
theorem cmpI_range (x y : Int) : -1 ≤ cmpI x y ∧ cmpI x y ≤ 1 := by
  unfold cmpI
  split
  · omega
  · split <;> omega
theorem cmpI_le (x y : Int) : cmpI x y ≤ 0 ↔ x ≤ y := by
  unfold cmpI
  split
  · omega
  · split <;> omega
theorem isO_I : IsO cmpI := isO_of cmpI_turn cmpI_range fun x y z h1 h2 => by rw [cmpI_le] at *; omega
theorem isO_L : IsO cmpL := ⟨cmpL_turn, cmpL_range, cmpL_tri⟩
theorem isO_B : IsO orderB := isO_of orderB_turn orderB_range orderB_trans
theorem isO_part : IsO partB := (isO_I.pull Nd.kind).lex ((isO_I.pull Nd.num).lex ((isO_B.pull Nd.bits).lex (isO_L.pull fun n : Nd => n.txt.toList)))
theorem IsO.self {α : Type} {c : α → α → Int} (h : IsO c) (a : α) : c a a = 0 := by have := h.turn a a; omega
inductive Fo where
  | nil : Fo
  | cons (n : Nd) (k r : Fo) : Fo
namespace Fo
def cnt : Fo → Nat
  | nil => 0
  | cons _ _ r => r.cnt + 1
def len : Fo → Nat
  | nil => 0
  | cons _ k r => 1 + k.len + r.len
def flat : Fo → List Nd
  | nil => []
  | cons n k r => { n with kids := (k.cnt : Int) } :: (k.flat ++ r.flat)
def dep : Fo → Nat
  | nil => 0
  | cons _ k r => max (k.dep + 1) r.dep
def app : Fo → Fo → Fo
  | nil, g => g
  | cons n k r, g => cons n k (r.app g)
def cmp : Fo → Fo → Int
  | nil, nil => 0
  | nil, cons .. => -1
  | cons .., nil => 1
  | cons n k r, cons n' k' r' => if partB n n' ≠ 0 then partB n n' else if k.cmp k' ≠ 0 then k.cmp k' else r.cmp r'
theorem flat_len : ∀ f : Fo, f.flat.length = f.len
  | nil => rfl
  | cons n k r => by simp [flat, len, flat_len k, flat_len r]; omega
theorem flat_app : ∀ f g : Fo, (f.app g).flat = f.flat ++ g.flat
  | nil, g => rfl
  | cons n k r, g => by simp [flat, app, flat_app r g]
theorem cnt_app : ∀ f g : Fo, (f.app g).cnt = f.cnt + g.cnt
  | nil, g => by simp [app, cnt]
  | cons n k r, g => by simp [cnt, app, cnt_app r g]; omega
theorem dep_app : ∀ f g : Fo, (f.app g).dep = max f.dep g.dep
  | nil, g => by simp [app, dep]
  | cons n k r, g => by simp [dep, app, dep_app r g, Nat.max_assoc]
theorem cnt_le : ∀ f : Fo, f.cnt ≤ f.len
  | nil => Nat.le_refl _
  | cons n k r => by have := cnt_le r; simp only [cnt, len]; omega
theorem app_nil : ∀ f : Fo, f.app nil = f
  | nil => rfl
  | cons n k r => by simp [app, app_nil r]
end Fo
theorem isO_cmp : IsO Fo.cmp := by
  refine ⟨?_, ?_, ?_⟩
  · intro f
    induction f with
    | nil => intro g; cases g <;> simp [Fo.cmp]
    | cons n k r ihk ihr =>
      intro g
      cases g with
      | nil => simp [Fo.cmp]
      | cons n' k' r' =>
        have h1 := isO_part.turn n n'
        have h2 := ihk k'
        have h3 := ihr r'
        simp only [Fo.cmp]
        by_cases z1 : partB n n' = 0
        · have z1' : partB n' n = 0 := by omega
          rw [ite_z z1, ite_z z1']
          by_cases z2 : k.cmp k' = 0
          · have z2' : k'.cmp k = 0 := by omega
            rw [ite_z z2, ite_z z2']; exact h3
          · have z2' : ¬ k'.cmp k = 0 := by omega
            rw [ite_nz z2, ite_nz z2']; exact h2
        · have z1' : ¬ partB n' n = 0 := by omega
          rw [ite_nz z1, ite_nz z1']; exact h1
  · intro f
    induction f with
    | nil => intro g; cases g <;> simp [Fo.cmp]
    | cons n k r ihk ihr =>
      intro g
      cases g with
      | nil => simp [Fo.cmp]
      | cons n' k' r' =>
        simp only [Fo.cmp]
        split
        · exact isO_part.range _ _
        · split
          · exact ihk _
          · exact ihr _
  · intro f
    induction f with
    | nil =>
      intro g h x y
      cases g with
      | nil => exact ⟨y, fun e => ⟨rfl, e⟩⟩
      | cons _ _ _ =>
        cases h with
        | nil => simp [Fo.cmp] at y
        | cons _ _ _ => exact ⟨by simp [Fo.cmp], fun e => by simp [Fo.cmp] at e⟩
    | cons n k r ihk ihr =>
      intro g h x y
      cases g with
      | nil => simp [Fo.cmp] at x
      | cons n' k' r' =>
        cases h with
        | nil => simp [Fo.cmp] at y
        | cons n'' k'' r'' =>
          simp only [Fo.cmp] at x y ⊢
          have x1 : partB n n' ≤ 0 := by
            by_cases z : partB n n' = 0
            · omega
            · rw [ite_nz z] at x; exact x
          have y1 : partB n' n'' ≤ 0 := by
            by_cases z : partB n' n'' = 0
            · omega
            · rw [ite_nz z] at y; exact y
          have t := isO_part.tri n n' n'' x1 y1
          by_cases z : partB n n'' = 0
          · obtain ⟨z1, z2⟩ := t.2 z
            rw [ite_z z1] at x ⊢
            rw [ite_z z2] at y ⊢
            rw [ite_z z]
            have x2 : k.cmp k' ≤ 0 := by
              by_cases z : k.cmp k' = 0
              · omega
              · rw [ite_nz z] at x; exact x
            have y2 : k'.cmp k'' ≤ 0 := by
              by_cases z : k'.cmp k'' = 0
              · omega
              · rw [ite_nz z] at y; exact y
            have t2 := ihk k' k'' x2 y2
            by_cases u : k.cmp k'' = 0
            · obtain ⟨u1, u2⟩ := t2.2 u
              rw [ite_z u1] at x ⊢
              rw [ite_z u2] at y ⊢
              rw [ite_z u]
              exact ihr r' r'' x y
            · rw [ite_nz u]
              exact ⟨t2.1, fun w => absurd w u⟩
          · rw [ite_nz z]
            exact ⟨t.1, fun w => absurd w z⟩
theorem Fo.cmp_cnt : ∀ f g : Fo, f.cmp g = 0 → f.cnt = g.cnt
  | .nil, .nil, _ => rfl
  | .nil, .cons .., h => by simp [cmp] at h
  | .cons .., .nil, h => by simp [cmp] at h
  | .cons n k r, .cons n' k' r', h => by
    simp only [cmp] at h
    by_cases z1 : partB n n' = 0
    · rw [ite_z z1] at h
      by_cases z2 : k.cmp k' = 0
      · rw [ite_z z2] at h
        simp only [cnt, cmp_cnt r r' h]
      · rw [ite_nz z2] at h; exact absurd h z2
    · rw [ite_nz z1] at h; exact absurd h z1
/-- All bits are words. -/
def Words (xs : List Nd) : Prop := ∀ x ∈ xs, x.bits < 2 ^ 64
theorem ahead_cons {x y : Nd} {xs ys : List Nd} {d l : Int} (hl : 0 < l) : aheadR (x :: xs) (y :: ys) d l = if partO x y ≠ 0 then some (partO x y) else if x.kids = y.kids then aheadR xs ys d (l + (x.kids - 1)) else aheadR xs ys (cmpI x.kids y.kids) (min x.kids y.kids) := by
  simp only [aheadR]
  rw [if_neg (by omega)]
theorem ahead_zero {xs ys : List Nd} {d l : Int} (hl : l ≤ 0) : aheadR xs ys d l = some d := by
  cases xs <;> simp only [aheadR, if_pos hl]
theorem cmpI_nat {a b : Nat} : cmpI ((a + 1 : Nat) : Int) ((b + 1 : Nat) : Int) = cmpI (a : Int) (b : Int) := by
  unfold cmpI
  by_cases h1 : (a : Int) < b
  · rw [if_pos h1, if_pos (by omega)]
  · by_cases h2 : (b : Int) < a
    · rw [if_neg h1, if_pos h2, if_neg (by omega), if_pos (by omega)]
    · rw [if_neg h1, if_neg h2, if_neg (by omega), if_neg (by omega)]
theorem ahead_fo : ∀ f g : Fo, Words f.flat → Words g.flat → (f.cnt = g.cnt → ∀ (X Y : List Nd) (d m : Int), 0 ≤ m → aheadR (f.flat ++ X) (g.flat ++ Y) d (f.cnt + m) = if f.cmp g ≠ 0 then some (f.cmp g) else aheadR X Y d m) ∧
    (f.cnt ≠ g.cnt → ∀ (X Y : List Nd), aheadR (f.flat ++ X) (g.flat ++ Y) (cmpI f.cnt g.cnt) (min (f.cnt : Int) g.cnt) = some (f.cmp g)) := by
  intro f
  induction f with
  | nil =>
    intro g hf hg
    cases g with
    | nil =>
      refine ⟨fun _ X Y d m _ => ?_, fun h => absurd rfl h⟩
      rw [show ((Fo.nil.cnt : Nat) : Int) + m = m by simp [Fo.cnt]]
      simp [Fo.cmp, Fo.flat]
    | cons n k r =>
      refine ⟨fun h => by simp [Fo.cnt] at h, fun _ X Y => ?_⟩
      have e : cmpI (Fo.nil.cnt : Nat) ((Fo.cons n k r).cnt : Nat) = -1 := by
        unfold cmpI
        rw [if_pos]
        simp only [Fo.cnt]; omega
      rw [e, show (Fo.nil.cmp (.cons n k r)) = -1 by simp [Fo.cmp]]
      exact ahead_zero (by simp [Fo.cnt]; omega)
  | cons n k r ihk ihr =>
    intro g hf hg
    cases g with
    | nil =>
      refine ⟨fun h => by simp [Fo.cnt] at h, fun _ X Y => ?_⟩
      have e : cmpI ((Fo.cons n k r).cnt : Nat) (Fo.nil.cnt : Nat) = 1 := by
        unfold cmpI
        rw [if_neg (by simp only [Fo.cnt]; omega), if_pos (by simp only [Fo.cnt]; omega)]
      rw [e, show ((Fo.cons n k r).cmp .nil) = 1 by simp [Fo.cmp]]
      exact ahead_zero (by simp [Fo.cnt]; omega)
    | cons n' k' r' =>
      have fk : Words k.flat := fun x hx => hf x (by simp [Fo.flat, hx])
      have fr : Words r.flat := fun x hx => hf x (by simp [Fo.flat, hx])
      have gk : Words k'.flat := fun x hx => hg x (by simp [Fo.flat, hx])
      have gr : Words r'.flat := fun x hx => hg x (by simp [Fo.flat, hx])
      have hp : partO { n with kids := (k.cnt : Int) } { n' with kids := (k'.cnt : Int) } = partB n n' :=
        (partO_is _ _ (hf _ (by simp [Fo.flat])) (hg _ (by simp [Fo.flat])))
      have ik := ihk k' fk gk
      have ir := ihr r' fr gr
      have goes : ∀ (X Y : List Nd) (d m : Int), 0 ≤ m → 0 < m + 1 → aheadR ((Fo.cons n k r).flat ++ X) ((Fo.cons n' k' r').flat ++ Y) d (m + 1) = if partB n n' ≠ 0 then some (partB n n') else if k.cmp k' ≠ 0 then some (k.cmp k') else aheadR (r.flat ++ X) (r'.flat ++ Y) d m := by
        intro X Y d m hm hm1
        simp only [Fo.flat, List.cons_append, List.append_assoc]
        rw [ahead_cons hm1, hp]
        by_cases z1 : partB n n' = 0
        · rw [ite_z z1, ite_z z1]
          simp only
          by_cases z2 : k.cnt = k'.cnt
          · rw [if_pos (by omega), show m + 1 + ((k.cnt : Int) - 1) = (k.cnt : Int) + m by omega, ik.1 z2 _ _ d m hm]
          · rw [if_neg (by omega), ik.2 z2, if_pos (fun e => z2 (Fo.cmp_cnt _ _ e))]
        · rw [ite_nz z1, ite_nz z1]
      refine ⟨fun h X Y d m hm => ?_, fun h X Y => ?_⟩
      · have hc : r.cnt = r'.cnt := by simpa [Fo.cnt] using h
        rw [show (((Fo.cons n k r).cnt : Nat) : Int) + m = ((r.cnt : Int) + m) + 1 by simp only [Fo.cnt]; omega, goes X Y d _ (by omega) (by omega), ir.1 hc X Y d m hm]
        simp only [Fo.cmp]
        by_cases z1 : partB n n' = 0
        · by_cases z2 : k.cmp k' = 0 <;> simp [z1, z2]
        · simp [z1]
      · have hc : ¬ r.cnt = r'.cnt := by simpa [Fo.cnt] using h
        rw [show min (((Fo.cons n k r).cnt : Nat) : Int) ((Fo.cons n' k' r').cnt : Nat) = (min (r.cnt : Int) r'.cnt) + 1 by simp only [Fo.cnt]; omega, goes X Y _ _ (by omega) (by omega)]
        rw [show cmpI (((Fo.cons n k r).cnt : Nat) : Int) ((Fo.cons n' k' r').cnt : Nat) = cmpI r.cnt r'.cnt from cmpI_nat, ir.2 hc X Y]
        simp only [Fo.cmp]
        by_cases z1 : partB n n' = 0
        · by_cases z2 : k.cmp k' = 0 <;> simp [z1, z2]
        · simp [z1]
/-- A term: one tree. -/
theorem ahead_one (f g : Fo) (hf : Words f.flat) (hg : Words g.flat) (h1 : f.cnt = 1) (h2 : g.cnt = 1) : aheadR f.flat g.flat 0 1 = some (f.cmp g) := by
  have := (ahead_fo f g hf hg).1 (by omega) [] [] 0 0 (by omega)
  rw [h1] at this
  simp only [List.append_nil] at this
  rw [show ((1 : Nat) : Int) + 0 = 1 by omega] at this
  rw [this]
  by_cases z : f.cmp g = 0
  · rw [ite_z z, z]; exact ahead_zero (by omega)
  · rw [ite_nz z]
end Go.Proofs.YtieoiklgoeclaaaGreat
