/-
  What lies in order is a forest of one tree, and the other way round; how deep it is; the order of terms is that of forests.
-/
import Derived.Test.YtilbbemdinpjcaaGreatJTTr
import Derived.Test.YtilbbemdinpjcaaGreatJTFPl
namespace Go.Proofs.YtilbbemdinpjcaaGreat.T

def cmpL : List UInt8 → List UInt8 → Int
  | [], [] => 0
  | [], _ :: _ => -1
  | _ :: _, [] => 1
  | a :: x, b :: y => if a < b then -1 else if b < a then 1 else cmpL x y
theorem cmpL_is : ∀ x y : List UInt8, (if Op.bytesLess x y = true then (-1 : Int) else if (x == y) = true then 0 else 1) = cmpL x y
  | [], [] => rfl
  | [], _ :: _ => rfl
  | _ :: _, [] => rfl
  | a :: x, b :: y => by
    have ih := cmpL_is x y
    unfold cmpL
    by_cases h1 : a < b
    · simp [Op.bytesLess, h1]
    · by_cases h2 : b < a
      · have h3 : ¬ a = b := fun e => by subst e; exact h1 h2
        simp [Op.bytesLess, h1, h2, h3]
      · have h3 : a = b := UInt8.le_antisymm (UInt8.not_lt.1 h2) (UInt8.not_lt.1 h1)
        subst h3
        simp [Op.bytesLess, h1]
        simpa using ih
theorem cmpS_is (x y : ByteArray) : cmpS x y = cmpL x.toList y.toList := cmpL_is _ _
theorem cmpL_turn : ∀ x y : List UInt8, cmpL x y = - cmpL y x
  | [], [] => rfl
  | [], _ :: _ => rfl
  | _ :: _, [] => rfl
  | a :: x, b :: y => by
    have ih := cmpL_turn x y
    unfold cmpL
    by_cases h1 : a < b
    · have h2 : ¬ b < a := fun h => UInt8.lt_irrefl _ (UInt8.lt_trans h1 h)
      simp [h1, h2]
    · by_cases h2 : b < a
      · simp [h1, h2]
      · simp [h1, h2]; exact ih
theorem cmpL_range : ∀ x y : List UInt8, -1 ≤ cmpL x y ∧ cmpL x y ≤ 1
  | [], [] => by simp [cmpL]
  | [], _ :: _ => by simp [cmpL]
  | _ :: _, [] => by simp [cmpL]
  | a :: x, b :: y => by
    have ih := cmpL_range x y
    unfold cmpL
    split
    · omega
    · split <;> omega
theorem cmpL_tri : ∀ x y z : List UInt8, cmpL x y ≤ 0 → cmpL y z ≤ 0 → cmpL x z ≤ 0 ∧ (cmpL x z = 0 → cmpL x y = 0 ∧ cmpL y z = 0)
  | [], [], z, _, h => ⟨h, fun e => ⟨rfl, e⟩⟩
  | [], _ :: _, [], _, h => by simp [cmpL] at h
  | [], _ :: _, _ :: _, _, _ => ⟨by simp [cmpL], fun h => by simp [cmpL] at h⟩
  | _ :: _, [], _, h, _ => by simp [cmpL] at h
  | _ :: _, _ :: _, [], _, h => by simp [cmpL] at h
  | a :: x, b :: y, c :: z, h1, h2 => by
    have ih := cmpL_tri x y z
    unfold cmpL at h1 h2 ⊢
    simp only [UInt8.lt_iff_toNat_lt] at *
    by_cases e1 : a.toNat < b.toNat
    · have e3 : ¬ c.toNat < b.toNat := fun e => by rw [if_neg (by omega), if_pos e] at h2; omega
      rw [if_pos (show a.toNat < c.toNat by omega)]
      exact ⟨by omega, fun h => by omega⟩
    · rw [if_neg e1] at h1
      by_cases e2 : b.toNat < a.toNat
      · rw [if_pos e2] at h1; omega
      · rw [if_neg e2] at h1
        by_cases e4 : b.toNat < c.toNat
        · rw [if_pos (show a.toNat < c.toNat by omega)]
          exact ⟨by omega, fun h => by omega⟩
        · rw [if_neg e4] at h2
          by_cases e5 : c.toNat < b.toNat
          · rw [if_pos e5] at h2; omega
          · rw [if_neg e5] at h2
            have ih2 := ih h1 h2
            rw [if_neg (show ¬ a.toNat < c.toNat by omega), if_neg (show ¬ c.toNat < a.toNat by omega), if_neg e1, if_neg e2, if_neg e4, if_neg e5]
            exact ih2
theorem cmpL_eq : ∀ x y : List UInt8, cmpL x y = 0 → x = y
  | [], [], _ => rfl
  | [], _ :: _, h => by simp [cmpL] at h
  | _ :: _, [], h => by simp [cmpL] at h
  | a :: x, b :: y, h => by
    unfold cmpL at h
    by_cases h1 : a < b
    · rw [if_pos h1] at h; omega
    · by_cases h2 : b < a
      · rw [if_neg h1, if_pos h2] at h; omega
      · rw [if_neg h1, if_neg h2] at h
        rw [cmpL_eq x y h, UInt8.le_antisymm (UInt8.not_lt.1 h2) (UInt8.not_lt.1 h1)]
/-- What two nodes are beside their kids, reals by their places. -/
def partB (a b : Nd) : Int := if cmpI a.kind b.kind ≠ 0 then cmpI a.kind b.kind else if cmpI a.num b.num ≠ 0 then cmpI a.num b.num else if orderB a.bits b.bits ≠ 0 then orderB a.bits b.bits else cmpL a.txt.toList b.txt.toList
theorem partO_is (a b : Nd) (ha : a.bits < 2 ^ 64) (hb : b.bits < 2 ^ 64) : partO a b = partB a b := by
  unfold partO partB
  rw [ordC_eq a.bits b.bits ha hb, cmpS_is]
  simp only [firstNZ]
  by_cases h1 : cmpI a.kind b.kind = 0
  · by_cases h2 : cmpI a.num b.num = 0
    · by_cases h3 : orderB a.bits b.bits = 0
      · by_cases h4 : cmpL a.txt.toList b.txt.toList = 0 <;> simp [h1, h2, h3, h4]
      · simp [h1, h2, h3]
    · simp [h1, h2]
  · simp [h1]
theorem ite_z {β : Type} {a : Int} {x y : β} (h : a = 0) : (if a ≠ 0 then x else y) = y := if_neg fun k => k h
theorem ite_nz {β : Type} {a : Int} {x y : β} (h : ¬ a = 0) : (if a ≠ 0 then x else y) = x := if_pos h
/-- One order: of two just one way, of three the first one ahead of the last one. -/
structure IsO {α : Type} (c : α → α → Int) : Prop where
  turn : ∀ a b, c a b = - c b a
  range : ∀ a b, -1 ≤ c a b ∧ c a b ≤ 1
  tri : ∀ a b e, c a b ≤ 0 → c b e ≤ 0 → c a e ≤ 0 ∧ (c a e = 0 → c a b = 0 ∧ c b e = 0)
theorem isO_of {α : Type} {c : α → α → Int} (h1 : ∀ a b, c a b = - c b a) (h2 : ∀ a b, -1 ≤ c a b ∧ c a b ≤ 1) (h3 : ∀ a b e, c a b ≤ 0 → c b e ≤ 0 → c a e ≤ 0) : IsO c :=
  ⟨h1, h2, fun a b e x y => ⟨h3 a b e x y, fun z => by
    have t1 := h1 a b
    have t2 := h1 b e
    have t3 := h1 a e
    have k1 := h3 b e a y (by omega)
    have k2 := h3 e a b (by omega) x
    omega⟩⟩
theorem IsO.pull {α β : Type} {c : α → α → Int} (h : IsO c) (f : β → α) : IsO (fun a b => c (f a) (f b)) := ⟨fun _ _ => h.turn _ _, fun _ _ => h.range _ _, fun _ _ _ => h.tri _ _ _⟩
theorem IsO.lex {α : Type} {c d : α → α → Int} (h : IsO c) (k : IsO d) : IsO (fun a b => if c a b ≠ 0 then c a b else d a b) := by
  refine ⟨fun a b => ?_, fun a b => ?_, fun a b e x y => ?_⟩
  · have := h.turn a b
    by_cases h0 : c a b = 0
    · have h1 : c b a = 0 := by omega
      simp only [h0, h1, ne_eq, not_true_eq_false, if_false]; exact k.turn a b
    · have h1 : ¬ c b a = 0 := by omega
      simp only [ne_eq, h0, h1, not_false_eq_true, if_true]; exact this
  · have h1 := h.range a b
    have h2 := k.range a b
    split <;> assumption
  · have x1 : c a b ≤ 0 := by by_cases z : c a b = 0
                              · omega
                              · rw [ite_nz z] at x; exact x
    have y1 : c b e ≤ 0 := by by_cases z : c b e = 0
                              · omega
                              · rw [ite_nz z] at y; exact y
    have t := h.tri a b e x1 y1
    by_cases z : c a e = 0
    · obtain ⟨z1, z2⟩ := t.2 z
      rw [ite_z z1] at x ⊢
      rw [ite_z z2] at y ⊢
      rw [ite_z z]
      exact k.tri a b e x y
    · rw [ite_nz z]
      exact ⟨t.1, fun w => absurd w z⟩
theorem cmpI_self (x : Int) : cmpI x x = 0 := by simp [cmpI]
theorem cmpI_eq {x y : Int} (h : cmpI x y = 0) : x = y := by
  unfold cmpI at h
  split at h
  · omega
  · split at h <;> omega
theorem cmpI_turn (x y : Int) : cmpI x y = - cmpI y x := by
  unfold cmpI
  by_cases h1 : x < y
  · have : ¬ y < x := by omega
    simp [h1, this]
  · by_cases h2 : y < x <;> simp [h1, h2]
theorem cmpI_range (x y : Int) : -1 ≤ cmpI x y ∧ cmpI x y ≤ 1 := by
  unfold cmpI
  split
  · omega
  · split <;> omega
theorem cmpI_le (x y : Int) : cmpI x y ≤ 0 ↔ x ≤ y := by
  unfold cmpI
  split
  · omega
  · split <;> omega
theorem isO_I : IsO cmpI := isO_of cmpI_turn cmpI_range fun x y z h1 h2 => by rw [cmpI_le] at *; omega
theorem isO_L : IsO cmpL := ⟨cmpL_turn, cmpL_range, cmpL_tri⟩
theorem isO_B : IsO orderB := isO_of orderB_turn orderB_range orderB_trans
theorem isO_part : IsO partB := (isO_I.pull Nd.kind).lex ((isO_I.pull Nd.num).lex ((isO_B.pull Nd.bits).lex (isO_L.pull fun n : Nd => n.txt.toList)))
theorem IsO.self {α : Type} {c : α → α → Int} (h : IsO c) (a : α) : c a a = 0 := by have := h.turn a a; omega
inductive Fo where
  | nil : Fo
  | cons (n : Nd) (k r : Fo) : Fo
namespace Fo
def cnt : Fo → Nat
  | nil => 0
  | cons _ _ r => r.cnt + 1
def len : Fo → Nat
  | nil => 0
  | cons _ k r => 1 + k.len + r.len
def flat : Fo → List Nd
  | nil => []
  | cons n k r => { n with kids := (k.cnt : Int) } :: (k.flat ++ r.flat)
def dep : Fo → Nat
  | nil => 0
  | cons _ k r => max (k.dep + 1) r.dep
def app : Fo → Fo → Fo
  | nil, g => g
  | cons n k r, g => cons n k (r.app g)
def cmp : Fo → Fo → Int
  | nil, nil => 0
  | nil, cons .. => -1
  | cons .., nil => 1
  | cons n k r, cons n' k' r' => if partB n n' ≠ 0 then partB n n' else if k.cmp k' ≠ 0 then k.cmp k' else r.cmp r'
theorem flat_len : ∀ f : Fo, f.flat.length = f.len
  | nil => rfl
  | cons n k r => by simp [flat, len, flat_len k, flat_len r]; omega
theorem flat_app : ∀ f g : Fo, (f.app g).flat = f.flat ++ g.flat
  | nil, g => rfl
  | cons n k r, g => by simp [flat, app, flat_app r g]
theorem cnt_app : ∀ f g : Fo, (f.app g).cnt = f.cnt + g.cnt
  | nil, g => by simp [app, cnt]
  | cons n k r, g => by simp [cnt, app, cnt_app r g]; omega
theorem dep_app : ∀ f g : Fo, (f.app g).dep = max f.dep g.dep
  | nil, g => by simp [app, dep]
  | cons n k r, g => by simp [dep, app, dep_app r g, Nat.max_assoc]
theorem cnt_le : ∀ f : Fo, f.cnt ≤ f.len
  | nil => Nat.le_refl _
  | cons n k r => by have := cnt_le r; simp only [cnt, len]; omega
theorem app_nil : ∀ f : Fo, f.app nil = f
  | nil => rfl
  | cons n k r => by simp [app, app_nil r]
end Fo
theorem isO_cmp : IsO Fo.cmp := by
  refine ⟨?_, ?_, ?_⟩
  · intro f
    induction f with
    | nil => intro g; cases g <;> simp [Fo.cmp]
    | cons n k r ihk ihr =>
      intro g
      cases g with
      | nil => simp [Fo.cmp]
      | cons n' k' r' =>
        have h1 := isO_part.turn n n'
        have h2 := ihk k'
        have h3 := ihr r'
        simp only [Fo.cmp]
        by_cases z1 : partB n n' = 0
        · have z1' : partB n' n = 0 := by omega
          rw [ite_z z1, ite_z z1']
          by_cases z2 : k.cmp k' = 0
          · have z2' : k'.cmp k = 0 := by omega
            rw [ite_z z2, ite_z z2']; exact h3
          · have z2' : ¬ k'.cmp k = 0 := by omega
            rw [ite_nz z2, ite_nz z2']; exact h2
        · have z1' : ¬ partB n' n = 0 := by omega
          rw [ite_nz z1, ite_nz z1']; exact h1
  · intro f
    induction f with
    | nil => intro g; cases g <;> simp [Fo.cmp]
    | cons n k r ihk ihr =>
      intro g
      cases g with
      | nil => simp [Fo.cmp]
      | cons n' k' r' =>
        simp only [Fo.cmp]
        split
        · exact isO_part.range _ _
        · split
          · exact ihk _
          · exact ihr _
  · intro f
    induction f with
    | nil =>
      intro g h x y
      cases g with
      | nil => exact ⟨y, fun e => ⟨rfl, e⟩⟩
      | cons _ _ _ =>
        cases h with
        | nil => simp [Fo.cmp] at y
        | cons _ _ _ => exact ⟨by simp [Fo.cmp], fun e => by simp [Fo.cmp] at e⟩
    | cons n k r ihk ihr =>
      intro g h x y
      cases g with
      | nil => simp [Fo.cmp] at x
      | cons n' k' r' =>
        cases h with
        | nil => simp [Fo.cmp] at y
        | cons n'' k'' r'' =>
          simp only [Fo.cmp] at x y ⊢
          have x1 : partB n n' ≤ 0 := by
            by_cases z : partB n n' = 0
            · omega
            · rw [ite_nz z] at x; exact x
          have y1 : partB n' n'' ≤ 0 := by
            by_cases z : partB n' n'' = 0
            · omega
            · rw [ite_nz z] at y; exact y
          have t := isO_part.tri n n' n'' x1 y1
          by_cases z : partB n n'' = 0
          · obtain ⟨z1, z2⟩ := t.2 z
            rw [ite_z z1] at x ⊢
            rw [ite_z z2] at y ⊢
            rw [ite_z z]
            have x2 : k.cmp k' ≤ 0 := by
              by_cases z : k.cmp k' = 0
              · omega
              · rw [ite_nz z] at x; exact x
            have y2 : k'.cmp k'' ≤ 0 := by
              by_cases z : k'.cmp k'' = 0
              · omega
              · rw [ite_nz z] at y; exact y
            have t2 := ihk k' k'' x2 y2
            by_cases u : k.cmp k'' = 0
            · obtain ⟨u1, u2⟩ := t2.2 u
              rw [ite_z u1] at x ⊢
              rw [ite_z u2] at y ⊢
              rw [ite_z u]
              exact ihr r' r'' x y
            · rw [ite_nz u]
              exact ⟨t2.1, fun w => absurd w u⟩
          · rw [ite_nz z]
            exact ⟨t.1, fun w => absurd w z⟩
theorem Fo.cmp_cnt : ∀ f g : Fo, f.cmp g = 0 → f.cnt = g.cnt
  | .nil, .nil, _ => rfl
  | .nil, .cons .., h => by simp [cmp] at h
  | .cons .., .nil, h => by simp [cmp] at h
  | .cons n k r, .cons n' k' r', h => by
    simp only [cmp] at h
    by_cases z1 : partB n n' = 0
    · rw [ite_z z1] at h
      by_cases z2 : k.cmp k' = 0
      · rw [ite_z z2] at h
        simp only [cnt, cmp_cnt r r' h]
      · rw [ite_nz z2] at h; exact absurd h z2
    · rw [ite_nz z1] at h; exact absurd h z1
/-- All bits are words. -/
def Words (xs : List Nd) : Prop := ∀ x ∈ xs, x.bits < 2 ^ 64
theorem ahead_cons {x y : Nd} {xs ys : List Nd} {d l : Int} (hl : 0 < l) : aheadR (x :: xs) (y :: ys) d l = if partO x y ≠ 0 then some (partO x y) else if x.kids = y.kids then aheadR xs ys d (l + (x.kids - 1)) else aheadR xs ys (cmpI x.kids y.kids) (min x.kids y.kids) := by
  simp only [aheadR]
  rw [if_neg (by omega)]
theorem ahead_zero {xs ys : List Nd} {d l : Int} (hl : l ≤ 0) : aheadR xs ys d l = some d := by
  cases xs <;> simp only [aheadR, if_pos hl]
theorem cmpI_nat {a b : Nat} : cmpI ((a + 1 : Nat) : Int) ((b + 1 : Nat) : Int) = cmpI (a : Int) (b : Int) := by
  unfold cmpI
  by_cases h1 : (a : Int) < b
  · rw [if_pos h1, if_pos (by omega)]
  · by_cases h2 : (b : Int) < a
    · rw [if_neg h1, if_pos h2, if_neg (by omega), if_pos (by omega)]
    · rw [if_neg h1, if_neg h2, if_neg (by omega), if_neg (by omega)]
theorem ahead_fo : ∀ f g : Fo, Words f.flat → Words g.flat → (f.cnt = g.cnt → ∀ (X Y : List Nd) (d m : Int), 0 ≤ m → aheadR (f.flat ++ X) (g.flat ++ Y) d (f.cnt + m) = if f.cmp g ≠ 0 then some (f.cmp g) else aheadR X Y d m) ∧
    (f.cnt ≠ g.cnt → ∀ (X Y : List Nd), aheadR (f.flat ++ X) (g.flat ++ Y) (cmpI f.cnt g.cnt) (min (f.cnt : Int) g.cnt) = some (f.cmp g)) := by
  intro f
  induction f with
  | nil =>
    intro g hf hg
    cases g with
    | nil =>
      refine ⟨fun _ X Y d m _ => ?_, fun h => absurd rfl h⟩
      rw [show ((Fo.nil.cnt : Nat) : Int) + m = m by simp [Fo.cnt]]
      simp [Fo.cmp, Fo.flat]
    | cons n k r =>
      refine ⟨fun h => by simp [Fo.cnt] at h, fun _ X Y => ?_⟩
      have e : cmpI (Fo.nil.cnt : Nat) ((Fo.cons n k r).cnt : Nat) = -1 := by
        unfold cmpI
        rw [if_pos]
        simp only [Fo.cnt]; omega
      rw [e, show (Fo.nil.cmp (.cons n k r)) = -1 by simp [Fo.cmp]]
      exact ahead_zero (by simp [Fo.cnt]; omega)
  | cons n k r ihk ihr =>
    intro g hf hg
    cases g with
    | nil =>
      refine ⟨fun h => by simp [Fo.cnt] at h, fun _ X Y => ?_⟩
      have e : cmpI ((Fo.cons n k r).cnt : Nat) (Fo.nil.cnt : Nat) = 1 := by
        unfold cmpI
        rw [if_neg (by simp only [Fo.cnt]; omega), if_pos (by simp only [Fo.cnt]; omega)]
      rw [e, show ((Fo.cons n k r).cmp .nil) = 1 by simp [Fo.cmp]]
      exact ahead_zero (by simp [Fo.cnt]; omega)
    | cons n' k' r' =>
      have fk : Words k.flat := fun x hx => hf x (by simp [Fo.flat, hx])
      have fr : Words r.flat := fun x hx => hf x (by simp [Fo.flat, hx])
      have gk : Words k'.flat := fun x hx => hg x (by simp [Fo.flat, hx])
      have gr : Words r'.flat := fun x hx => hg x (by simp [Fo.flat, hx])
      have hp : partO { n with kids := (k.cnt : Int) } { n' with kids := (k'.cnt : Int) } = partB n n' :=
        (partO_is _ _ (hf _ (by simp [Fo.flat])) (hg _ (by simp [Fo.flat])))
      have ik := ihk k' fk gk
      have ir := ihr r' fr gr
      have goes : ∀ (X Y : List Nd) (d m : Int), 0 ≤ m → 0 < m + 1 → aheadR ((Fo.cons n k r).flat ++ X) ((Fo.cons n' k' r').flat ++ Y) d (m + 1) = if partB n n' ≠ 0 then some (partB n n') else if k.cmp k' ≠ 0 then some (k.cmp k') else aheadR (r.flat ++ X) (r'.flat ++ Y) d m := by
        intro X Y d m hm hm1
        simp only [Fo.flat, List.cons_append, List.append_assoc]
        rw [ahead_cons hm1, hp]
        by_cases z1 : partB n n' = 0
        · rw [ite_z z1, ite_z z1]
          simp only
          by_cases z2 : k.cnt = k'.cnt
          · rw [if_pos (by omega), show m + 1 + ((k.cnt : Int) - 1) = (k.cnt : Int) + m by omega, ik.1 z2 _ _ d m hm]
          · rw [if_neg (by omega), ik.2 z2, if_pos (fun e => z2 (Fo.cmp_cnt _ _ e))]
        · rw [ite_nz z1, ite_nz z1]
      refine ⟨fun h X Y d m hm => ?_, fun h X Y => ?_⟩
      · have hc : r.cnt = r'.cnt := by simpa [Fo.cnt] using h
        rw [show (((Fo.cons n k r).cnt : Nat) : Int) + m = ((r.cnt : Int) + m) + 1 by simp only [Fo.cnt]; omega, goes X Y d _ (by omega) (by omega), ir.1 hc X Y d m hm]
        simp only [Fo.cmp]
        by_cases z1 : partB n n' = 0
        · by_cases z2 : k.cmp k' = 0 <;> simp [z1, z2]
        · simp [z1]
      · have hc : ¬ r.cnt = r'.cnt := by simpa [Fo.cnt] using h
        rw [show min (((Fo.cons n k r).cnt : Nat) : Int) ((Fo.cons n' k' r').cnt : Nat) = (min (r.cnt : Int) r'.cnt) + 1 by simp only [Fo.cnt]; omega, goes X Y _ _ (by omega) (by omega)]
        rw [show cmpI (((Fo.cons n k r).cnt : Nat) : Int) ((Fo.cons n' k' r').cnt : Nat) = cmpI r.cnt r'.cnt from cmpI_nat, ir.2 hc X Y]
        simp only [Fo.cmp]
        by_cases z1 : partB n n' = 0
        · by_cases z2 : k.cmp k' = 0 <;> simp [z1, z2]
        · simp [z1]
/-- A term: one tree. -/
theorem ahead_one (f g : Fo) (hf : Words f.flat) (hg : Words g.flat) (h1 : f.cnt = 1) (h2 : g.cnt = 1) : aheadR f.flat g.flat 0 1 = some (f.cmp g) := by
  have := (ahead_fo f g hf hg).1 (by omega) [] [] 0 0 (by omega)
  rw [h1] at this
  simp only [List.append_nil] at this
  rw [show ((1 : Nat) : Int) + 0 = 1 by omega] at this
  rw [this]
  by_cases z : f.cmp g = 0
  · rw [ite_z z, z]; exact ahead_zero (by omega)
  · rw [ite_nz z]
end Go.Proofs.YtilbbemdinpjcaaGreat.T
namespace Go.Proofs.YtilbbemdinpjcaaGreat.T

theorem sub_split {xs : List Nd} {p e b : Nat} (h1 : p ≤ e) (h2 : e ≤ b) : sub xs p b = sub xs p e ++ sub xs e b := by
  unfold sub
  rw [show b - p = (e - p) + (b - e) by omega, List.take_add, List.drop_drop, show p + (e - p) = e by omega]
theorem sub_cons {xs : List Nd} {p b : Nat} (h1 : p < b) (h2 : p < xs.length) : sub xs p b = xs[p] :: sub xs (p + 1) b := by
  unfold sub
  rw [List.drop_eq_getElem_cons h2, show b - p = (b - (p + 1)) + 1 by omega, List.take_succ_cons]
theorem sub_self (xs : List Nd) (p : Nat) : sub xs p p = [] := by simp [sub]
theorem fo_of {xs : List Nd} {E : Nat → Nat} (h : Ends xs E) : ∀ (N m p b : Nat), xs.length - p ≤ N → p ≤ xs.length → steps E xs.length m p = some b → p ≤ b ∧ b ≤ xs.length ∧ ∃ f : Fo, f.cnt = m ∧ f.flat = sub xs p b
  | _, 0, p, b, _, hp, hs => by
    simp only [steps, Option.some.injEq] at hs
    subst hs
    exact ⟨Nat.le_refl _, hp, .nil, rfl, by rw [sub_self]; rfl⟩
  | 0, m + 1, p, b, hN, hp, hs => by
    simp only [steps] at hs
    rw [if_pos (by omega)] at hs
    cases hs
  | N + 1, m + 1, p, b, hN, hp, hs => by
    simp only [steps] at hs
    by_cases hn : xs.length ≤ p
    · rw [if_pos hn] at hs; cases hs
    rw [if_neg hn] at hs
    have hi := h.inc p (by omega)
    have hk := h.kids p (by omega)
    obtain ⟨k1, k2, fk, k3, k4⟩ := fo_of h N xs[p].kids.toNat (p + 1) (E p) (by omega) (by omega) hk.2
    obtain ⟨r1, r2, fr, r3, r4⟩ := fo_of h N m (E p) b (by omega) (by omega) hs
    refine ⟨by omega, r2, .cons xs[p] fk fr, by simp [Fo.cnt, r3], ?_⟩
    rw [sub_cons (by omega) (by omega), sub_split (p := p + 1) (e := E p) (by omega) r1]
    simp only [Fo.flat, k4, r4, k3]
    have e : ((xs[p].kids.toNat : Nat) : Int) = xs[p].kids := by omega
    rw [e]
theorem walk_front (E D : Nat → Nat) (n : Nat) : ∀ (k p d : Nat), walk E D n (k + 1) (p, d) = if p = n then none else walk E D n k (E p, max d (D p))
  | 0, p, d => by simp only [walk]
  | k + 1, p, d => by
    have ih := walk_front E D n k p d
    rw [show walk E D n (k + 1 + 1) (p, d) = (match walk E D n (k + 1) (p, d) with | none => none | some (a, m) => if a = n then none else some (E a, max m (D a))) from rfl, ih]
    by_cases h : p = n
    · rw [if_pos h, if_pos h]
    · rw [if_neg h, if_neg h]
      rfl
/-- At a place stands a node above a forest. -/
def AtFo (xs : List Nd) (i : Nat) (n : Nd) (k : Fo) (rest : List Nd) : Prop := xs.drop i = { n with kids := (k.cnt : Int) } :: (k.flat ++ rest)
theorem fo_at : ∀ (f : Fo) (rest : List Nd) (i : Nat), i < f.len → ∃ n k rest', AtFo (f.flat ++ rest) i n k rest'
  | .nil, _, i, h => by simp [Fo.len] at h
  | .cons n k r, rest, i, h => by
    unfold AtFo
    simp only [Fo.flat, List.cons_append, List.append_assoc]
    cases i with
    | zero => exact ⟨n, k, r.flat ++ rest, rfl⟩
    | succ i =>
      simp only [Fo.len] at h
      rw [List.drop_succ_cons]
      by_cases hk : i < k.len
      · exact fo_at k (r.flat ++ rest) i hk
      · rw [List.drop_append, List.drop_eq_nil_of_le (by rw [Fo.flat_len]; omega), List.nil_append, Fo.flat_len]
        exact fo_at r rest (i - k.len) (by omega)
def GoodL (xs : List Nd) (E D : Nat → Nat) (q : Nat) : Prop := ∀ i, q ≤ i → ∀ n k rest, AtFo xs i n k rest → E i = i + 1 + k.len ∧ D i = k.dep + 1
theorem walk_fo {xs : List Nd} {E D : Nat → Nat} {q0 : Nat} (hg : GoodL xs E D q0) : ∀ (f : Fo) (q d : Nat) (rest : List Nd), q0 ≤ q → xs.drop q = f.flat ++ rest → walk E D xs.length f.cnt (q, d) = some (q + f.len, max d f.dep)
  | .nil, q, d, rest, _, _ => by simp [Fo.cnt, walk, Fo.len, Fo.dep]
  | .cons n k r, q, d, rest, h0, h => by
    have hat : AtFo xs q n k (r.flat ++ rest) := by unfold AtFo; rw [h]; simp [Fo.flat]
    have hq : q < xs.length := by
      rcases Nat.lt_or_ge q xs.length with h1 | h1
      · exact h1
      · rw [List.drop_eq_nil_of_le h1] at h; simp [Fo.flat] at h
    obtain ⟨e1, e2⟩ := hg q h0 n k _ hat
    rw [show (Fo.cons n k r).cnt = r.cnt + 1 from rfl, walk_front, if_neg (by omega), e1, e2]
    rw [walk_fo hg r (q + 1 + k.len) _ rest (by omega) ?_]
    · simp only [Fo.len, Fo.dep, Option.some.injEq, Prod.mk.injEq]
      omega
    · unfold AtFo at hat
      rw [show q + 1 + k.len = q + (k.len + 1) by omega, ← List.drop_drop, hat, List.drop_succ_cons]
      exact List.drop_left' (Fo.flat_len k)
theorem lay_fo (xs : List Nd) (hd : ∀ i, i < xs.length → ∃ n k rest, AtFo xs i n k rest) : ∀ j, j ≤ xs.length → ∃ E D, layN (ksOf xs) xs.length j = some (E, D) ∧ GoodL xs E D (xs.length - j)
  | 0, _ => ⟨fun _ => 0, fun _ => 0, rfl, fun i hi n k rest h => by
    unfold AtFo at h
    rw [List.drop_eq_nil_of_le (by omega)] at h
    cases h⟩
  | j + 1, hj => by
    obtain ⟨E, D, h1, h2⟩ := lay_fo xs hd j (by omega)
    obtain ⟨n, k, rest, h3⟩ := hd (xs.length - 1 - j) (by omega)
    have hi : xs.length - 1 - j < xs.length := by omega
    have hks : ksOf xs (xs.length - 1 - j) = (k.cnt : Int) := by
      rw [ksOf_get xs _ hi]
      unfold AtFo at h3
      rw [List.drop_eq_getElem_cons hi] at h3
      rw [(List.cons.inj h3).1]
    have hdr : xs.drop (xs.length - 1 - j + 1) = k.flat ++ rest := by
      unfold AtFo at h3
      rw [List.drop_eq_getElem_cons hi] at h3
      exact (List.cons.inj h3).2
    have hw := walk_fo h2 k (xs.length - 1 - j + 1) 0 rest (by omega) hdr
    refine ⟨upd E (xs.length - 1 - j) (xs.length - 1 - j + 1 + k.len), upd D (xs.length - 1 - j) (max 0 k.dep + 1), ?_, ?_⟩
    · simp only [layN, h1, hks]
      rw [if_neg (by omega), Int.toNat_natCast, hw]
    · intro i hi2 n' k' rest' hat
      by_cases e : i = xs.length - 1 - j
      · subst e
        have hkk : k'.flat ++ rest' = k.flat ++ rest := by
          unfold AtFo at hat
          rw [List.drop_eq_getElem_cons hi] at hat
          rw [← (List.cons.inj hat).2, hdr]
        have hc : k'.cnt = k.cnt := by
          unfold AtFo at hat h3
          rw [h3] at hat
          have := congrArg Nd.kids (List.cons.inj hat).1
          simp only at this
          omega
        have hw' := walk_fo h2 k' (xs.length - 1 - j + 1) 0 rest' (by omega) (by rw [hdr, hkk])
        rw [hc, hw] at hw'
        simp only [Option.some.injEq, Prod.mk.injEq] at hw'
        simp only [upd, if_true]
        omega
      · simp only [upd, if_neg e]
        exact h2 i (by omega) n' k' rest' hat
theorem laid_fo (f : Fo) (hf : f.cnt = 1) : ∃ E D, Laid (ksOf f.flat) f.flat.length E D ∧ D 0 = f.dep := by
  obtain ⟨E, D, h1, h2⟩ := lay_fo f.flat (fun i hi => by
    have := fo_at f [] i (by rw [Fo.flat_len] at hi; exact hi)
    simpa using this) _ (Nat.le_refl _)
  cases f with
  | nil => simp [Fo.cnt] at hf
  | cons n k r =>
    cases r with
    | cons _ _ _ => simp [Fo.cnt] at hf
    | nil =>
      obtain ⟨e1, e2⟩ := h2 0 (by omega) n k [] (by simp [AtFo, Fo.flat])
      refine ⟨E, D, ⟨by simp [Fo.flat], h1, ?_⟩, ?_⟩
      · rw [e1, Fo.flat_len]; simp only [Fo.len]; omega
      · rw [e2]; simp [Fo.dep]
theorem layOf_laid {ks : Nat → Int} {n : Nat} {E D : Nat → Nat} (h : Laid ks n E D) : layOf ks n = some (E, D) := by
  unfold layOf
  rw [h.2.1]
  simp only
  have h0 := h.1
  have h2 := h.2.2
  first | (rw [if_neg (by omega)]) | (rw [if_pos (by omega)]) | simp [h2, Nat.ne_of_gt h0]
theorem inO_fo (f : Fo) (hf : f.cnt = 1) : inO f.flat = true := by
  obtain ⟨E, D, h, -⟩ := laid_fo f hf
  unfold inO inOrd
  rw [layOf_laid h]; rfl
def deepT (xs : List Nd) : Nat := deepOf (ksOf xs) xs.length
theorem deep_fo (f : Fo) (hf : f.cnt = 1) : deepT f.flat = f.dep := by
  obtain ⟨E, D, h, h2⟩ := laid_fo f hf
  unfold deepT deepOf
  rw [layOf_laid h]
  exact h2
theorem deep_none {xs : List Nd} (h : inO xs = false) : deepT xs = 0 := by
  unfold inO inOrd at h
  unfold deepT deepOf
  cases hl : layOf (ksOf xs) xs.length with
  | none => rfl
  | some y => rw [hl] at h; cases h
theorem fo_inO {xs : List Nd} (h : inO xs = true) : ∃ f : Fo, f.cnt = 1 ∧ f.flat = xs := by
  obtain ⟨E, D, l⟩ := inO_laid h
  have he := ends_of l
  have h0 := l.1
  have hst : steps E xs.length 1 0 = some xs.length := by
    simp only [steps]
    rw [if_neg (by omega), l.2.2]
  obtain ⟨-, -, f, h1, h2⟩ := fo_of he _ 1 0 xs.length (Nat.le_refl _) (by omega) hst
  exact ⟨f, h1, by rw [h2]; simp [sub]⟩
theorem dep_pos {f : Fo} (hf : f.cnt = 1) : 0 < f.dep := by
  cases f with
  | nil => simp [Fo.cnt] at hf
  | cons n k r => simp only [Fo.dep]; omega
theorem deep_pos (xs : List Nd) : 0 < deepT xs ↔ inO xs = true := by
  cases h : inO xs with
  | false => rw [deep_none h]; simp
  | true =>
    obtain ⟨f, h1, h2⟩ := fo_inO h
    rw [← h2, deep_fo f h1]
    simp [dep_pos h1]
theorem ord_fo (f g : Fo) (hf : f.cnt = 1) (hg : g.cnt = 1) (wf : Words f.flat) (wg : Words g.flat) : ordT f.flat g.flat = f.cmp g := by
  unfold ordT
  rw [if_pos (inO_fo f hf), if_pos (inO_fo g hg), ahead_one f g wf wg hf hg]
  rfl
theorem ordT_isO (P : List Nd → Prop) (hP : ∀ xs, P xs → Words xs) : IsO (fun (a b : {xs : List Nd // P xs}) => ordT a.1 b.1) := by
  refine ⟨fun a b => ?_, fun a b => ?_, fun a b c => ?_⟩
  · cases ha : inO a.1 with
    | false => cases hb : inO b.1 <;> simp [ordT, ha, hb]
    | true =>
      cases hb : inO b.1 with
      | false => simp [ordT, ha, hb]
      | true =>
        obtain ⟨f, f1, f2⟩ := fo_inO ha
        obtain ⟨g, g1, g2⟩ := fo_inO hb
        have wf := hP _ a.2
        have wg := hP _ b.2
        rw [← f2] at wf ⊢
        rw [← g2] at wg ⊢
        rw [ord_fo f g f1 g1 wf wg, ord_fo g f g1 f1 wg wf]
        exact isO_cmp.turn f g
  · cases ha : inO a.1 with
    | false => cases hb : inO b.1 <;> simp [ordT, ha, hb]
    | true =>
      cases hb : inO b.1 with
      | false => simp [ordT, ha, hb]
      | true =>
        obtain ⟨f, f1, f2⟩ := fo_inO ha
        obtain ⟨g, g1, g2⟩ := fo_inO hb
        have wf := hP _ a.2
        have wg := hP _ b.2
        rw [← f2] at wf ⊢
        rw [← g2] at wg ⊢
        rw [ord_fo f g f1 g1 wf wg]
        exact isO_cmp.range f g
  · intro x y
    cases ha : inO a.1 with
    | false =>
      cases hb : inO b.1 with
      | false => refine ⟨by simpa [ordT, ha, hb] using y, fun e => ⟨by simp [ordT, ha, hb], by simpa [ordT, ha, hb] using e⟩⟩
      | true =>
        cases hc : inO c.1 with
        | false => simp [ordT, hc, hb] at y
        | true => simp [ordT, ha, hc]
    | true =>
      cases hb : inO b.1 with
      | false => simp [ordT, ha, hb] at x
      | true =>
        cases hc : inO c.1 with
        | false => simp [ordT, hc, hb] at y
        | true =>
          obtain ⟨f, f1, f2⟩ := fo_inO ha
          obtain ⟨g, g1, g2⟩ := fo_inO hb
          obtain ⟨h, h1, h2⟩ := fo_inO hc
          have wf := hP _ a.2
          have wg := hP _ b.2
          have wh := hP _ c.2
          rw [← f2] at wf x ⊢
          rw [← g2] at wg x y ⊢
          rw [← h2] at wh y ⊢
          rw [ord_fo f g f1 g1 wf wg] at x
          rw [ord_fo g h g1 h1 wg wh] at y
          rw [ord_fo f h f1 h1 wf wh, ord_fo f g f1 g1 wf wg, ord_fo g h g1 h1 wg wh]
          exact isO_cmp.tri f g h x y
end Go.Proofs.YtilbbemdinpjcaaGreat.T
