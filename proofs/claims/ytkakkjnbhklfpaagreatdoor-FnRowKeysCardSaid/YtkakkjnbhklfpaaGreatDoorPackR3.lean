/-
  Together: OrderPlain, LessP, PartOrder, KeyOrder, RowEq, RowSelf, KeysTwo, TokPlain, DefPlain, But, DefView, DefBox
-/
import Derived.Test.YtkakkjnbhklfpaaGreatDoorPackR2
import Derived.Test.YtkakkjnbhklfpaaGreatDoorPackR1
import Derived.Laws.BytesArg
import Derived.WalkSpells
import Derived.Test.YtkakkjnbhklfpaaGreatDoorProg
/-
  Of two unlike values one is less, plainly.
-/
namespace Go.Proofs.YtkakkjnbhklfpaaGreatDoor
open Go.RowKit
set_option maxRecDepth 4000

theorem bl_irr : ∀ l : List UInt8, Op.bytesLess l l = false
  | [] => rfl
  | x :: xs => by simp [Op.bytesLess, bl_irr xs]
theorem bl_tri : ∀ a b : List UInt8, a ≠ b → Op.bytesLess a b = !Op.bytesLess b a
  | [], [], h => absurd rfl h
  | [], _ :: _, _ => by simp [Op.bytesLess]
  | _ :: _, [], _ => by simp [Op.bytesLess]
  | x :: xs, y :: ys, h => by
    by_cases e : x = y
    · subst e
      have hne : xs ≠ ys := fun e => h (by rw [e])
      simp [Op.bytesLess, bl_tri xs ys hne]
    · have e1 : (x == y) = false := by simpa using e
      have e2 : (y == x) = false := by simpa using fun e3 => e e3.symm
      simp only [Op.bytesLess, e1, e2, Bool.false_and, Bool.or_false]
      have hn : x.toNat ≠ y.toNat := fun e3 => e (UInt8.toNat_inj.1 e3)
      by_cases hl : x < y
      · have : ¬ y < x := by simp only [UInt8.lt_iff_toNat_lt] at hl ⊢; omega
        simp [hl, this]
      · have : y < x := by simp only [UInt8.lt_iff_toNat_lt] at hl ⊢; omega
        simp [hl, this]

theorem ltS_irr (s : ByteArray) : ltS s s = false := bl_irr _
theorem ltS_tri {s t : ByteArray} (h : s ≠ t) : ltS s t = !ltS t s := bl_tri _ _ (fun e => h (toList_inj.1 e))

theorem order3 (k n : Int) (s : ByteArray) (k' n' : Int) (s' : ByteArray) :
    (lessV k n s k' n' s' = true ∧ lessV k' n' s' k n s = false ∧ eqV k n s k' n' s' = false) ∨ (lessV k n s k' n' s' = false ∧ lessV k' n' s' k n s = true ∧ eqV k n s k' n' s' = false) ∨
    (lessV k n s k' n' s' = false ∧ lessV k' n' s' k n s = false ∧ eqV k n s k' n' s' = true) := by
  unfold lessV eqV
  by_cases h1 : k = k'
  · subst h1
    by_cases h2 : n = n'
    · subst h2
      by_cases h3 : s = s'
      · subst h3
        right; right
        simp [ltS_irr]
      · have ht := ltS_tri h3
        cases hx : ltS s' s
        · rw [hx] at ht; left; simp [ht, h3]
        · rw [hx] at ht; right; left; simp [ht, h3]
    · have h2' : ¬ n' = n := fun e => h2 e.symm
      by_cases hl : n < n'
      · left; simp [h2, h2', hl]; omega
      · right; left; simp [h2, h2']; omega
  · have h1' : ¬ k' = k := fun e => h1 e.symm
    by_cases hl : k < k'
    · left; simp [h1, h1', hl]; omega
    · right; left; simp [h1, h1']; omega
end Go.Proofs.YtkakkjnbhklfpaaGreatDoor

/-
  A part's order of values, plainly.
-/
namespace Go.Proofs.YtkakkjnbhklfpaaGreatDoor
open Go.RowKit
set_option maxRecDepth 4000

def lessP (d : Bool) (k n : Int) (s : ByteArray) (k' n' : Int) (s' : ByteArray) : Bool := if d then lessV k' n' s' k n s else lessV k n s k' n' s'
end Go.Proofs.YtkakkjnbhklfpaaGreatDoor

/-
  Of two values that fit a part, plainly: alike, or their bytes part at some place, and stand there in the order of the values.
-/
namespace Go.Proofs.YtkakkjnbhklfpaaGreatDoor
open Go.RowKit
set_option maxRecDepth 4000

/-- Two lists part at some place: the one has x there, the other y. -/
def PartsAt (x y : Int) : List Int → List Int → Prop
  | a :: l, b :: k => (a = x ∧ b = y) ∨ (a = b ∧ PartsAt x y l k)
  | _, _ => False

theorem PartsAt.append {x y : Int} : ∀ {l k : List Int}, PartsAt x y l k → ∀ r r', PartsAt x y (l ++ r) (k ++ r')
  | a :: l, b :: k, h, r, r' => by
    rcases h with h | ⟨h1, h2⟩
    · exact .inl h
    · exact .inr ⟨h1, PartsAt.append h2 r r'⟩
theorem PartsAt.behind {x y : Int} {l k : List Int} (h : PartsAt x y l k) : ∀ p : List Int, PartsAt x y (p ++ l) (p ++ k)
  | [] => h
  | _ :: p => .inr ⟨rfl, h.behind p⟩
theorem PartsAt.turn {x y : Int} : ∀ {l k : List Int}, PartsAt x y l k → PartsAt (255 - x) (255 - y) (l.map (fun z => 255 - z)) (k.map (fun z => 255 - z))
  | a :: l, b :: k, h => by
    rcases h with ⟨rfl, rfl⟩ | ⟨rfl, h2⟩
    · exact .inl ⟨rfl, rfl⟩
    · exact .inr ⟨rfl, h2.turn⟩
theorem PartsAt.ahead {x y : Int} (hx : 0 ≤ x ∧ x ≤ 255) (hy : 0 ≤ y ∧ y ≤ 255) (hne : x ≠ y) : ∀ {l k : List Int}, (∀ z ∈ l, 0 ≤ z ∧ z ≤ 255) → (∀ z ∈ k, 0 ≤ z ∧ z ≤ 255) → PartsAt x y l k → ahead l k = decide (x < y)
  | a :: l, b :: k, hl, hk, h => by
    rw [ahead_cons a b l k (hl a (by simp)) (hk b (by simp))]
    rcases h with ⟨rfl, rfl⟩ | ⟨rfl, h2⟩
    · by_cases h : a < b
      · simp [h]
      · simp [h, hne]
    · rw [if_neg (by omega), if_pos rfl]
      exact PartsAt.ahead hx hy hne (fun z hz => hl z (by simp [hz])) (fun z hz => hk z (by simp [hz])) h2
theorem PartsAt.notBegin {x y : Int} (hne : x ≠ y) : ∀ {l k r : List Int}, PartsAt x y l k → l ≠ k ++ r
  | a :: l, b :: k, r, h => by
    intro e
    simp only [List.cons_append, List.cons.injEq] at e
    rcases h with ⟨rfl, rfl⟩ | ⟨_, h2⟩
    · exact hne e.1
    · exact h2.notBegin hne e.2
theorem PartsAt.symm {x y : Int} : ∀ {l k : List Int}, PartsAt x y l k → PartsAt y x k l
  | a :: l, b :: k, h => by
    rcases h with ⟨rfl, rfl⟩ | ⟨rfl, h2⟩
    · exact .inl ⟨rfl, rfl⟩
    · exact .inr ⟨rfl, h2.symm⟩
theorem PartsAt.bytes {x y : Int} : ∀ {l k : List Int}, (∀ z ∈ l, 0 ≤ z ∧ z ≤ 255) → (∀ z ∈ k, 0 ≤ z ∧ z ≤ 255) → PartsAt x y l k → (0 ≤ x ∧ x ≤ 255) ∧ (0 ≤ y ∧ y ≤ 255)
  | a :: l, b :: k, hl, hk, h => by
    rcases h with ⟨rfl, rfl⟩ | ⟨_, h2⟩
    · exact ⟨hl a (by simp), hk b (by simp)⟩
    · exact h2.bytes (fun z hz => hl z (by simp [hz])) (fun z hz => hk z (by simp [hz]))
/-- Lists of which neither begins the other part. -/
theorem partsAt_of : ∀ {l k : List Int}, (∀ r, l ≠ k ++ r) → (∀ r, k ≠ l ++ r) → ∃ x y, x ≠ y ∧ PartsAt x y l k
  | [], k, _, h2 => absurd rfl (h2 k)
  | a :: l, [], h1, _ => absurd rfl (h1 (a :: l))
  | a :: l, b :: k, h1, h2 => by
    by_cases e : a = b
    · subst e
      obtain ⟨x, y, hne, h⟩ := partsAt_of (l := l) (k := k) (fun r e => h1 r (by rw [e]; rfl)) (fun r e => h2 r (by rw [e]; rfl))
      exact ⟨x, y, hne, .inr ⟨rfl, h⟩⟩
    · exact ⟨a, b, e, .inl ⟨rfl, rfl⟩⟩

theorem fixL_inj {x y : Int} (hx : -2147483648 ≤ x ∧ x ≤ 2147483647) (hy : -2147483648 ≤ y ∧ y ≤ 2147483647) (h : fixL x = fixL y) : x = y := by
  have h1 := fix_ahead x y
  have h2 := fix_ahead y x
  rw [h] at h1 h2
  rw [h2] at h1
  rw [clampF_self x hx, clampF_self y hy] at h1
  rw [clampF_self x hx, clampF_self y hy] at h2
  simp only [decide_eq_decide] at h1
  omega

/-- Of two values of a type that are within: unlike ones have bytes that part, in the order of the values. -/
theorem val_order {t x x' : Int} {s s' : ByteArray} (ht : 1 ≤ t ∧ t ≤ 4) (h : okF t x s = true) (h' : okF t x' s' = true) (hne : ¬ (x = x' ∧ s = s')) :
    ∃ a b, a ≠ b ∧ PartsAt a b (valL t x s) (valL t x' s') ∧ decide (a < b) = lessV t x s t x' s' := by
  have bl := valL_byte t x s
  have bl' := valL_byte t x' s'
  have key : (∀ r, valL t x s ≠ valL t x' s' ++ r) → (∀ r, valL t x' s' ≠ valL t x s ++ r) → ahead (valL t x s) (valL t x' s') = lessV t x s t x' s' → ∃ a b, a ≠ b ∧ PartsAt a b (valL t x s) (valL t x' s') ∧ decide (a < b) = lessV t x s t x' s' := by
    intro h1 h2 h3
    obtain ⟨a, b, hab, hp⟩ := partsAt_of h1 h2
    obtain ⟨ba, bb⟩ := hp.bytes bl bl'
    exact ⟨a, b, hab, hp, by rw [← h3, hp.ahead ba bb hab bl bl']⟩
  obtain rfl | rfl | rfl | rfl : t = 1 ∨ t = 2 ∨ t = 3 ∨ t = 4 := by omega
  · rw [okF_spec1] at h h'
    simp at h h'
    obtain ⟨⟨h1, h2⟩, rfl⟩ := h
    obtain ⟨⟨h3, h4⟩, rfl⟩ := h'
    have hx : x ≠ x' := fun e => hne ⟨e, rfl⟩
    have e1 : ∀ z, valL 1 z noBytes = fixL z := fun z => rfl
    rw [e1, e1] at key ⊢
    refine key (fun r e => hx ?_) (fun r e => hx ?_) ?_
    · have hl : r = [] := by have := congrArg List.length e; rw [List.length_append, fixL_len, fixL_len] at this; exact List.eq_nil_of_length_eq_zero (by omega)
      rw [hl, List.append_nil] at e
      exact fixL_inj ⟨h1, h2⟩ ⟨h3, h4⟩ e
    · have hl : r = [] := by have := congrArg List.length e; rw [List.length_append, fixL_len, fixL_len] at this; exact List.eq_nil_of_length_eq_zero (by omega)
      rw [hl, List.append_nil] at e
      exact (fixL_inj ⟨h3, h4⟩ ⟨h1, h2⟩ e).symm
    · rw [fix_ahead, clampF_self x ⟨h1, h2⟩, clampF_self x' ⟨h3, h4⟩]
      unfold lessV
      simp [hx]
  · rw [okF_spec2] at h h'
    simp at h h'
    obtain ⟨⟨h1, h2⟩, rfl⟩ := h
    obtain ⟨⟨h3, h4⟩, rfl⟩ := h'
    have hx : x ≠ x' := fun e => hne ⟨e, rfl⟩
    have e1 : ∀ z, valL 2 z noBytes = varL z := fun z => rfl
    rw [e1, e1] at key ⊢
    have e2 : varL x = keptL x := by unfold varL; rw [clampV_self x ⟨h1, h2⟩]
    have e3 : varL x' = keptL x' := by unfold varL; rw [clampV_self x' ⟨h3, h4⟩]
    rw [e2, e3] at key ⊢
    refine key (fun r e => hx (kept_prefix ⟨h1, h2⟩ ⟨h3, h4⟩ e)) (fun r e => hx (kept_prefix ⟨h3, h4⟩ ⟨h1, h2⟩ e).symm) ?_
    rw [kept_ahead ⟨h1, h2⟩ ⟨h3, h4⟩]
    unfold lessV
    simp [hx]
  · rw [okF_spec3] at h h'
    simp at h h'
    obtain ⟨h1, rfl⟩ := h
    obtain ⟨h2, rfl⟩ := h'
    have hx : s ≠ s' := fun e => hne ⟨rfl, e⟩
    have e1 : ∀ z, valL 3 0 z = escL (sl z) ++ [0, 1] := fun z => rfl
    rw [e1, e1] at key ⊢
    refine key (fun r e => hx (sl_inj (esc_prefix e))) (fun r e => hx (sl_inj (esc_prefix e)).symm) ?_
    rw [esc_ahead]
    unfold lessV ltS
    simp
  · rw [okF_spec4] at h h'
    simp at h h'
    obtain ⟨⟨h1, h2⟩, rfl⟩ := h
    obtain ⟨⟨h3, h4⟩, rfl⟩ := h'
    have hx : x ≠ x' := fun e => hne ⟨e, rfl⟩
    refine ⟨x % 256, x' % 256, by omega, .inl ⟨rfl, rfl⟩, ?_⟩
    unfold lessV
    rw [show x % 256 = x by omega, show x' % 256 = x' by omega]
    simp [hx]

/-- Of two values that fit a part: alike, or their bytes part, in the order of the values. -/
theorem part_order {t : Int} {nul d : Bool} {k x : Int} {s : ByteArray} {k' x' : Int} {s' : ByteArray} (ht : 1 ≤ t ∧ t ≤ 4) (h : fitsP t nul k x s = true) (h' : fitsP t nul k' x' s' = true) (hne : eqV k x s k' x' s' = false) :
    ∃ a b, a ≠ b ∧ PartsAt a b (turnL d (partL nul k x s)) (turnL d (partL nul k' x' s')) ∧ decide (a < b) = lessP d k x s k' x' s' := by
  have hne' : ¬ (k = k' ∧ x = x' ∧ s = s') := by
    rintro ⟨rfl, rfl, rfl⟩
    simp [eqV] at hne
  have base : ∃ a b, a ≠ b ∧ PartsAt a b (partL nul k x s) (partL nul k' x' s') ∧ decide (a < b) = lessV k x s k' x' s' := by
    unfold fitsP at h h'
    simp only [Bool.and_eq_true, Bool.or_eq_true, decide_eq_true_eq] at h h'
    by_cases k0 : k = 0
    · subst k0
      by_cases k1 : k' = 0
      · subst k1
        obtain ⟨o1, _⟩ := h
        obtain ⟨o2, _⟩ := h'
        rw [okF_spec0] at o1 o2
        simp at o1 o2
        exact absurd ⟨rfl, by rw [o1.1, o2.1], by rw [o1.2, o2.2]⟩ hne'
      · have hn : nul = true := by rcases h.2 with h2 | h2; exact absurd rfl h2.2; exact h2.2
        subst hn
        have e2 : partL true k' x' s' = 1 :: valL k' x' s' := by unfold partL; rw [if_neg k1]; rfl
        have hk : k' = t := by rcases h'.2 with h2 | h2; exact h2.1; exact absurd h2.1 k1
        rw [show partL true 0 x s = [0] from rfl, e2]
        refine ⟨0, 1, by decide, .inl ⟨rfl, rfl⟩, ?_⟩
        unfold lessV
        rw [if_pos (Ne.symm k1)]
        simp; omega
    · have hk : k = t := by rcases h.2 with h2 | h2; exact h2.1; exact absurd h2.1 k0
      by_cases k1 : k' = 0
      · subst k1
        have hn : nul = true := by rcases h'.2 with h2 | h2; exact absurd rfl h2.2; exact h2.2
        subst hn
        have e2 : partL true k x s = 1 :: valL k x s := by unfold partL; rw [if_neg k0]; rfl
        rw [show partL true 0 x' s' = [0] from rfl, e2]
        refine ⟨1, 0, by decide, .inl ⟨rfl, rfl⟩, ?_⟩
        unfold lessV
        rw [if_pos k0]
        simp; omega
      · have hk' : k' = t := by rcases h'.2 with h2 | h2; exact h2.1; exact absurd h2.1 k1
        subst hk
        subst hk'
        obtain ⟨a, b, hab, hp, hl⟩ := val_order ht h.1 h'.1 (fun e => hne' ⟨rfl, e⟩)
        refine ⟨a, b, hab, ?_, hl⟩
        unfold partL
        rw [if_neg k0, if_neg k0]
        cases nul with
        | false => exact hp
        | true => exact .inr ⟨rfl, hp⟩
  obtain ⟨a, b, hab, hp, hl⟩ := base
  cases d with
  | false => exact ⟨a, b, hab, hp, hl⟩
  | true =>
    refine ⟨255 - a, 255 - b, by omega, hp.turn, ?_⟩
    show _ = lessV k' x' s' k x s
    have h3 : decide (255 - a < 255 - b) = !decide (a < b) := by
      by_cases hlt : a < b
      · simp [hlt]; omega
      · simp [hlt]; omega
    rw [h3, hl]
    rcases order3 k x s k' x' s' with h1 | h1 | h1
    · rw [h1.1, h1.2.1]; rfl
    · rw [h1.1, h1.2.1]; rfl
    · rw [hne] at h1; exact absurd h1.2.2 (by decide)
end Go.Proofs.YtkakkjnbhklfpaaGreatDoor

/-
  The order of keys, plainly, and that of their bytes; beginnings.
-/
namespace Go.Proofs.YtkakkjnbhklfpaaGreatDoor
open Go.RowKit
set_option maxRecDepth 4000

section
variable (n : Nat) (fd : Nat → Bool) (m : Nat) (fk fn : Nat → Int) (fs : Nat → ByteArray) (m' : Nat) (fk' fn' : Nat → Int) (fs' : Nat → ByteArray)
/-- Whether the values at a place are alike. -/
def sameAt (i : Nat) : Bool := eqV (fk i) (fn i) (fs i) (fk' i) (fn' i) (fs' i)
/-- Whether the one key is less. -/
def lessK : Bool :=
  match (List.range (min m m')).find? (fun i => !sameAt fk fn fs fk' fn' fs' i) with
  | some i => decide (i < n) && lessP (fd i) (fk i) (fn i) (fs i) (fk' i) (fn' i) (fs' i)
  | none => decide (m < m')
end
section
variable {n : Nat} {fc ft : Nat → Int} {fu fd : Nat → Bool} {m : Nat} {fk fn : Nat → Int} {fs : Nat → ByteArray} {m' : Nat} {fk' fn' : Nat → Int} {fs' : Nat → ByteArray}
theorem lessK_at {i : Nat} (hi : i < m) (hi' : i < m') (hne : sameAt fk fn fs fk' fn' fs' i = false) (hs : ∀ j, j < i → sameAt fk fn fs fk' fn' fs' j = true) : lessK n fd m fk fn fs m' fk' fn' fs' = (decide (i < n) && lessP (fd i) (fk i) (fn i) (fs i) (fk' i) (fn' i) (fs' i)) := by
  have e : (List.range (min m m')).find? (fun i => !sameAt fk fn fs fk' fn' fs' i) = some i := by
    rw [List.find?_range_eq_some]
    refine ⟨by simp [hne], by simp; omega, fun j hj => by simp [hs j hj]⟩
  unfold lessK
  rw [e]
theorem lessK_same (hs : ∀ j, j < min m m' → sameAt fk fn fs fk' fn' fs' j = true) : lessK n fd m fk fn fs m' fk' fn' fs' = decide (m < m') := by
  have e : (List.range (min m m')).find? (fun i => !sameAt fk fn fs fk' fn' fs' i) = none := by
    rw [List.find?_range_eq_none]
    intro j hj
    simp [hs j hj]
  unfold lessK
  rw [e]
theorem sameAt_iff {i : Nat} : sameAt fk fn fs fk' fn' fs' i = true ↔ fk i = fk' i ∧ fn i = fn' i ∧ fs i = fs' i := by
  unfold sameAt eqV; simp [and_assoc]

/-- Of two lists of values all are alike up to k, or there is a first place where they are not. -/
theorem first_ne (k : Nat) : (∀ j, j < k → sameAt fk fn fs fk' fn' fs' j = true) ∨ ∃ i, i < k ∧ sameAt fk fn fs fk' fn' fs' i = false ∧ ∀ j, j < i → sameAt fk fn fs fk' fn' fs' j = true := by
  induction k with
  | zero => exact .inl (fun j hj => absurd hj (Nat.not_lt_zero _))
  | succ k ih =>
    rcases ih with ih | ⟨i, hi, h1, h2⟩
    · cases hk : sameAt fk fn fs fk' fn' fs' k with
      | true =>
        refine .inl (fun j hj => ?_)
        by_cases e : j < k
        · exact ih j e
        · obtain rfl : j = k := by omega
          exact hk
      | false => exact .inr ⟨k, by omega, hk, ih⟩
    · exact .inr ⟨i, by omega, h1, h2⟩

theorem onePL_same {i : Nat} (h : sameAt fk fn fs fk' fn' fs' i = true) : onePL fc ft fu fd fk fn fs i = onePL fc ft fu fd fk' fn' fs' i := by
  obtain ⟨h1, h2, h3⟩ := sameAt_iff.1 h
  unfold onePL
  rw [h1, h2, h3]
theorem onePL_fit {i : Nat} (hp : partOk (fc i) (ft i) = true) (hf : fitsP (ft i) (fu i) (fk i) (fn i) (fs i) = true) : onePL fc ft fu fd fk fn fs i = turnL (fd i) (partL (fu i) (fk i) (fn i) (fs i)) := by
  unfold onePL putPL; rw [hp, hf]; rfl

/-- At the first place where they are not alike the bytes part, in the order of the values. -/
theorem keys_part {i k k' : Nat} (hi : i < k) (hi' : i < k') (hp : partOk (fc i) (ft i) = true) (hf : fitsP (ft i) (fu i) (fk i) (fn i) (fs i) = true) (hf' : fitsP (ft i) (fu i) (fk' i) (fn' i) (fs' i) = true) (hne : sameAt fk fn fs fk' fn' fs' i = false) (hs : ∀ j, j < i → sameAt fk fn fs fk' fn' fs' j = true) :
    ∃ a b, a ≠ b ∧ PartsAt a b (keyT (onePL fc ft fu fd fk fn fs) k) (keyT (onePL fc ft fu fd fk' fn' fs') k') ∧ decide (a < b) = lessP (fd i) (fk i) (fn i) (fs i) (fk' i) (fn' i) (fs' i) := by
  have ht : 1 ≤ ft i ∧ ft i ≤ 4 := by unfold partOk at hp; simp at hp; omega
  obtain ⟨a, b, hab, hpa, hl⟩ := part_order (d := fd i) ht hf hf' hne
  refine ⟨a, b, hab, ?_, hl⟩
  have e1 := keyT_split (onePL fc ft fu fd fk fn fs) (i + 1) (k - (i + 1))
  have e2 := keyT_split (onePL fc ft fu fd fk' fn' fs') (i + 1) (k' - (i + 1))
  rw [show i + 1 + (k - (i + 1)) = k by omega] at e1
  rw [show i + 1 + (k' - (i + 1)) = k' by omega] at e2
  rw [e1, e2, keyT, keyT, keyT_congr (fun j hj => onePL_same (fc := fc) (ft := ft) (fu := fu) (fd := fd) (hs j hj)), onePL_fit hp hf, onePL_fit hp hf']
  exact (hpa.behind _).append _ _

end
end Go.Proofs.YtkakkjnbhklfpaaGreatDoor

/-
  Rows of values held against each other, plainly.
-/
namespace Go.Proofs.YtkakkjnbhklfpaaGreatDoor
open Go.RowKit
set_option maxRecDepth 4000

def allEq (fk fn : Nat → Int) (fs : Nat → ByteArray) (gk gn : Nat → Int) (gs : Nat → ByteArray) : Nat → Bool
  | 0 => true
  | k + 1 => allEq fk fn fs gk gn gs k && eqV (fk k) (fn k) (fs k) (gk k) (gn k) (gs k)

theorem allEq_bad {fk fn : Nat → Int} {fs : Nat → ByteArray} {gk gn : Nat → Int} {gs : Nat → ByteArray} {k : Nat} (h : eqV (fk k) (fn k) (fs k) (gk k) (gn k) (gs k) = false) : ∀ n, k < n → allEq fk fn fs gk gn gs n = false
  | 0, hk => absurd hk (Nat.not_lt_zero _)
  | n + 1, hk => by
    simp only [allEq]
    by_cases e : k = n
    · subst e; rw [h]; simp
    · rw [allEq_bad h n (by omega)]; rfl

def rowEq (n m : Nat) (fk fn : Nat → Int) (fs : Nat → ByteArray) (gk gn : Nat → Int) (gs : Nat → ByteArray) : Bool := decide (n = m) && allEq fk fn fs gk gn gs n

end Go.Proofs.YtkakkjnbhklfpaaGreatDoor

/-
  A row is itself.
-/
namespace Go.Proofs.YtkakkjnbhklfpaaGreatDoor
open Go.RowKit
set_option maxRecDepth 4000

theorem allEq_iff {fk fn : Nat → Int} {fs : Nat → ByteArray} {gk gn : Nat → Int} {gs : Nat → ByteArray} : ∀ {n : Nat}, allEq fk fn fs gk gn gs n = true ↔ ∀ j, j < n → eqV (fk j) (fn j) (fs j) (gk j) (gn j) (gs j) = true
  | 0 => by simp [allEq]
  | n + 1 => by
    rw [allEq, Bool.and_eq_true, allEq_iff (n := n)]
    constructor
    · rintro ⟨h1, h2⟩ j hj
      by_cases e : j < n
      · exact h1 j e
      · obtain rfl : j = n := by omega
        exact h2
    · intro h
      exact ⟨fun j hj => h j (by omega), h n (by omega)⟩
end Go.Proofs.YtkakkjnbhklfpaaGreatDoor

/-
  Keys of two lists of values that fit a plan, plainly: alike, or they part, and stand in the order of the values.
-/
namespace Go.Proofs.YtkakkjnbhklfpaaGreatDoor
open Go.RowKit
set_option maxRecDepth 4000

theorem lof_getD (L : List Int) : lof L.length (fun i => L.getD i 0) = L := lof_self L
/-- The one begins with the other. -/
theorem begin_of {L1 L2 : List Int} (h : L2.length ≤ L1.length ∧ lof L2.length (fun i => L1.getD i 0) = lof L2.length (fun i => L2.getD i 0)) : ∃ r, L1 = L2 ++ r := by
  rw [lof_getD L2] at h
  refine ⟨L1.drop L2.length, ?_⟩
  have e : L1.take L2.length = L2 := by
    rw [← h.2]
    apply List.ext_getElem
    · simp [lof_len]; omega
    · intro i h1 h2
      have hi : i < L1.length := by simp at h1; omega
      simp [lof, List.getD, List.getElem?_eq_getElem hi]
  conv => lhs; rw [← List.take_append_drop L2.length L1, e]

/-- What holds of the two keys. -/
structure TwoKeys (L1 L2 : List Int) (s lk : Bool) : Prop where
  ah : ahead (lof L1.length (fun i => L1.getD i 0)) (lof L2.length (fun i => L2.getD i 0)) = lk
  same : decide (lof L1.length (fun i => L1.getD i 0) = lof L2.length (fun i => L2.getD i 0)) = s
  no1 : s = false → decide (L2.length ≤ L1.length ∧ lof L2.length (fun i => L1.getD i 0) = lof L2.length (fun i => L2.getD i 0)) = false
  no2 : s = false → decide (L1.length ≤ L2.length ∧ lof L1.length (fun i => L2.getD i 0) = lof L1.length (fun i => L1.getD i 0)) = false

theorem ahead_irrefl (L : List Int) (hb : ∀ y ∈ L, 0 ≤ y ∧ y ≤ 255) : ahead L L = false := by
  induction L with
  | nil => simp [ahead, Op.bytesLess, strOfNums, ByteArray.toList_eq]
  | cons a L ih =>
    rw [ahead_cons a a L L (hb a (by simp)) (hb a (by simp)), if_neg (by omega), if_pos rfl]
    exact ih (fun y hy => hb y (by simp [hy]))

section
variable {m : Nat} {fc ft : Nat → Int} {fu fd : Nat → Bool} {fk fn : Nat → Int} {fs : Nat → ByteArray} {fk' fn' : Nat → Int} {fs' : Nat → ByteArray}
theorem rowEq_at : rowEq m m fk fn fs fk' fn' fs' = true ↔ ∀ j, j < m → sameAt fk fn fs fk' fn' fs' j = true := by
  unfold rowEq sameAt
  rw [decide_eq_true rfl, Bool.true_and, allEq_iff]
theorem keys_two (hp : ∀ i, i < m → partOk (fc i) (ft i) = true) (hf : ∀ i, i < m → fitsP (ft i) (fu i) (fk i) (fn i) (fs i) = true) (hf' : ∀ i, i < m → fitsP (ft i) (fu i) (fk' i) (fn' i) (fs' i) = true) (L1 L2 : List Int) (h1 : L1 = keyT (onePL fc ft fu fd fk fn fs) m) (h2 : L2 = keyT (onePL fc ft fu fd fk' fn' fs') m) :
    TwoKeys L1 L2 (rowEq m m fk fn fs fk' fn' fs') (lessK m fd m fk fn fs m fk' fn' fs') := by
  have hb1 : ∀ y ∈ L1, 0 ≤ y ∧ y ≤ 255 := by rw [h1]; exact keyT_byte (fun i _ => putPL_byte _ _ _ _ _ _ _)
  have hb2 : ∀ y ∈ L2, 0 ≤ y ∧ y ≤ 255 := by rw [h2]; exact keyT_byte (fun i _ => putPL_byte _ _ _ _ _ _ _)
  rcases first_ne (fk := fk) (fn := fn) (fs := fs) (fk' := fk') (fn' := fn') (fs' := fs') m with hs | ⟨i, hi, hne, hs⟩
  · have e : L1 = L2 := by rw [h1, h2]; exact keyT_congr (fun i hi => onePL_same (hs i hi))
    have hr : rowEq m m fk fn fs fk' fn' fs' = true := rowEq_at.2 hs
    rw [hr, lessK_same (fun j hj => hs j (by omega)), decide_eq_false (Nat.lt_irrefl m)]
    subst e
    refine ⟨by rw [lof_getD]; exact ahead_irrefl L1 hb1, decide_eq_true rfl, fun h => (by cases h), fun h => (by cases h)⟩
  · have hr : rowEq m m fk fn fs fk' fn' fs' = false := by
      rw [Bool.eq_false_iff]
      intro h
      rw [rowEq_at.1 h i hi] at hne; cases hne
    obtain ⟨a, b, hab, hP, hd⟩ := keys_part (fc := fc) (ft := ft) (fu := fu) (fd := fd) hi hi (hp i hi) (hf i hi) (hf' i hi) hne hs
    rw [← h1, ← h2] at hP
    rw [hr, lessK_at hi hi hne hs, decide_eq_true hi, Bool.true_and, ← hd]
    obtain ⟨ha, hb⟩ := hP.bytes hb1 hb2
    refine ⟨by rw [lof_getD, lof_getD]; exact hP.ahead ha hb hab hb1 hb2, ?_, fun _ => ?_, fun _ => ?_⟩
    · rw [lof_getD, lof_getD]
      apply decide_eq_false
      intro e
      exact hP.notBegin hab (r := []) (by simpa using e)
    · apply decide_eq_false
      intro h
      obtain ⟨r, e⟩ := begin_of h
      exact hP.notBegin hab e
    · apply decide_eq_false
      intro h
      obtain ⟨r, e⟩ := begin_of h
      exact hP.symm.notBegin (Ne.symm hab) e
end
end Go.Proofs.YtkakkjnbhklfpaaGreatDoor

/-
  Tokens, plainly: bytes of a text, names, marks, and a text as its tokens.
-/
namespace Go.Proofs.YtkakkjnbhklfpaaGreatDoor
open Go.RowKit
set_option maxRecDepth 4000

/-- A byte of a text. -/
def bt (s : ByteArray) (i : Nat) : Int := if h : i < s.size then (s[i].toNat : Int) else 0
theorem bt_at {s : ByteArray} {i : Nat} (h : i < s.size) : (s[i].toNat : Int) = bt s i := by unfold bt; rw [dif_pos h]
theorem bt_bd (s : ByteArray) (i : Nat) : 0 ≤ bt s i ∧ bt s i ≤ 255 := by
  unfold bt
  split
  · have := s[i].toNat_lt; omega
  · omega
def small (c : Int) : Bool := decide (97 ≤ c ∧ c ≤ 122)
def digit (c : Int) : Bool := decide (48 ≤ c ∧ c ≤ 57)
def blank (c : Int) : Bool := decide (c = 32 ∨ c = 9 ∨ c = 10 ∨ c = 13)
def markC (c : Int) : Bool := decide (c = 123 ∨ c = 125 ∨ c = 44 ∨ c = 59)
/-- Whether a byte goes on with a name. -/
def inName (c : Int) : Bool := small c || digit c
/-- Whether a text is a name. -/
def nameOk (s : ByteArray) : Bool := decide (1 ≤ s.size ∧ s.size ≤ 8 ∧ small (bt s 0) = true ∧ ∀ i, i < s.size → inName (bt s i) = true)
/-- Whether a text is a mark. -/
def markOk (s : ByteArray) : Bool := decide (s.size = 1 ∧ markC (bt s 0) = true)
/-- Whether a token is right. -/
def tokOk (k : Int) (s : ByteArray) : Bool := if k = 1 then nameOk s else if k = 2 then markOk s else false

/-- The end of the name that goes on at a place. -/
def endN (s : ByteArray) (i : Nat) : Nat := if _h : i < s.size ∧ inName (bt s i) = true then endN s (i + 1) else i
  termination_by s.size - i
theorem endN_step {s : ByteArray} {i : Nat} (h : i < s.size) (h1 : inName (bt s i) = true) : endN s i = endN s (i + 1) := by
  conv => lhs; unfold endN
  rw [dif_pos ⟨h, h1⟩]
theorem endN_stop {s : ByteArray} {i : Nat} (h : ¬ (i < s.size ∧ inName (bt s i) = true)) : endN s i = i := by
  unfold endN; rw [dif_neg h]
theorem endN_ge (s : ByteArray) (i : Nat) : i ≤ endN s i := by
  unfold endN
  split
  · have := endN_ge s (i + 1); omega
  · exact Nat.le_refl _
  termination_by s.size - i
theorem endN_le (s : ByteArray) (i : Nat) (hi : i ≤ s.size) : endN s i ≤ s.size := by
  unfold endN
  split
  · rename_i h; exact endN_le s (i + 1) (by omega)
  · exact hi
  termination_by s.size - i

/-- The kind and the end of the token at a place. -/
def kindAt (s : ByteArray) (i : Nat) : Int := if small (bt s i) then 1 else 2
def stopAt (s : ByteArray) (i : Nat) : Nat := if small (bt s i) then endN s (i + 1) else i + 1
theorem stopAt_gt (s : ByteArray) (i : Nat) : i < stopAt s i := by
  unfold stopAt
  split
  · have := endN_ge s (i + 1); omega
  · omega
/-- A text's tokens from a place on, behind those that are there; and -1, or the place where there is none. -/
def lexF (s : ByteArray) (i : Nat) (l : List (Int × ByteArray)) : List (Int × ByteArray) × Int :=
  if _h : i < s.size then
    if blank (bt s i) then lexF s (i + 1) l
    else if tokOk (kindAt s i) (s.extract i (stopAt s i)) = true ∧ l.length ≠ 500 then lexF s (stopAt s i) (l ++ [(kindAt s i, s.extract i (stopAt s i))])
    else ([], (i : Int))
  else (l, -1)
  termination_by s.size - i
  decreasing_by
    · omega
    · have := stopAt_gt s i; omega
theorem lexF_end {s : ByteArray} {i : Nat} {l : List (Int × ByteArray)} (h : ¬ i < s.size) : lexF s i l = (l, -1) := by unfold lexF; rw [dif_neg h]
theorem lexF_blank {s : ByteArray} {i : Nat} {l : List (Int × ByteArray)} (h : i < s.size) (hb : blank (bt s i) = true) : lexF s i l = lexF s (i + 1) l := by
  conv => lhs; unfold lexF
  rw [dif_pos h, if_pos hb]
theorem lexF_tok {s : ByteArray} {i : Nat} {l : List (Int × ByteArray)} (h : i < s.size) (hb : blank (bt s i) = false) (ht : tokOk (kindAt s i) (s.extract i (stopAt s i)) = true) (hl : l.length ≠ 500) : lexF s i l = lexF s (stopAt s i) (l ++ [(kindAt s i, s.extract i (stopAt s i))]) := by
  conv => lhs; unfold lexF
  rw [dif_pos h, if_neg (by rw [hb]; simp), if_pos ⟨ht, hl⟩]
theorem lexF_no {s : ByteArray} {i : Nat} {l : List (Int × ByteArray)} (h : i < s.size) (hb : blank (bt s i) = false) (ht : ¬ (tokOk (kindAt s i) (s.extract i (stopAt s i)) = true ∧ l.length ≠ 500)) : lexF s i l = ([], (i : Int)) := by
  unfold lexF
  rw [dif_pos h, if_neg (by rw [hb]; simp), if_neg ht]

/-- The bytes of a piece of a text. -/
theorem bt_extract {s : ByteArray} {i e j : Nat} (he : e ≤ s.size) (hj : i + j < e) : bt (s.extract i e) j = bt s (i + j) := by
  have h1 : j < (s.extract i e).size := by rw [ByteArray.size_extract]; omega
  rw [← bt_at h1, ← bt_at (s := s) (i := i + j) (by omega), ByteArray.getElem_extract]
end Go.Proofs.YtkakkjnbhklfpaaGreatDoor

/-
  Tables, plainly: columns, parts, indexes; what is wrong with one; whether two are the same.
-/
namespace Go.Proofs.YtkakkjnbhklfpaaGreatDoor
open Go.RowKit
set_option maxRecDepth 4000

structure PCol where
  name : ByteArray
  type : Int
  null : Bool
structure PBy where
  col : Int
  desc : Bool
structure PIdx where
  name : ByteArray
  uniq : Bool
  n : Nat
  part : Nat → PBy
structure PDef where
  name : ByteArray
  nc : Nat
  col : Nat → PCol
  np : Nat
  pri : Nat → PBy
  ni : Nat
  idx : Nat → PIdx

/-- The words that are no names: table, primary, unique, index, null, desc, int, num, text, bool. -/
def kwords : List (List UInt8) := [[116, 97, 98, 108, 101], [112, 114, 105, 109, 97, 114, 121], [117, 110, 105, 113, 117, 101], [105, 110, 100, 101, 120], [110, 117, 108, 108], [100, 101, 115, 99], [105, 110, 116], [110, 117, 109], [116, 101, 120, 116], [98, 111, 111, 108]]
def isKw (s : ByteArray) : Bool := kwords.contains s.toList
/-- Whether a text may be a name in a table. -/
def wordOk (s : ByteArray) : Bool := nameOk s && !isKw s

def namesF (D : PDef) : Bool := decide ((∀ i, i < D.nc → wordOk (D.col i).name = true) ∧ (∀ i, i < D.ni → wordOk (D.idx i).name = true) ∧ wordOk D.name = true)
def typesF (D : PDef) : Bool := decide ((∀ i, i < D.nc → 1 ≤ (D.col i).type ∧ (D.col i).type ≤ 4) ∧ 1 ≤ D.nc ∧ D.nc ≤ 6)
def onceF (D : PDef) : Bool := decide ((∀ i, i < D.nc → ∀ j, j < i → (D.col j).name ≠ (D.col i).name) ∧ (∀ i, i < D.ni → ∀ j, j < i → (D.idx j).name ≠ (D.idx i).name))
def partsF (nc n : Nat) (f : Nat → PBy) : Bool := decide ((∀ i, i < n → 0 ≤ (f i).col ∧ (f i).col < nc ∧ (0 < i → (f 0).col ≠ (f i).col)) ∧ 1 ≤ n ∧ n ≤ 2)
def allPartsF (D : PDef) : Bool := decide ((∀ i, i < D.ni → partsF D.nc (D.idx i).n (D.idx i).part = true) ∧ partsF D.nc D.np D.pri = true)
def nullF (D : PDef) : Bool := decide (∃ i, i < D.np ∧ (D.col (D.pri i).col.toNat).null = true)
/-- What is wrong with a table: the first that holds. -/
def checkF (D : PDef) : Int :=
  if namesF D = false then 1 else if typesF D = false then 2 else if onceF D = false then 3 else if 2 < D.ni then 6 else if allPartsF D = false then 5 else if nullF D then 4 else 0

theorem partsF_two {nc n : Nat} {f : Nat → PBy} (h : partsF nc n f = true) : 1 ≤ n ∧ n ≤ 2 := by
  unfold partsF at h; exact (of_decide_eq_true h).2
theorem partsF_in {nc n : Nat} {f : Nat → PBy} (h : partsF nc n f = true) {i : Nat} (hi : i < n) : 0 ≤ (f i).col ∧ (f i).col < nc := by
  unfold partsF at h; have := (of_decide_eq_true h).1 i hi; exact ⟨this.1, this.2.1⟩
/-- What a table is that nothing is wrong with. -/
theorem checkF_good {D : PDef} (h : checkF D = 0) : namesF D = true ∧ typesF D = true ∧ onceF D = true ∧ D.ni ≤ 2 ∧ allPartsF D = true ∧ nullF D = false := by
  unfold checkF at h
  cases h1 : namesF D <;> rw [h1] at h
  · simp at h
  cases h2 : typesF D <;> rw [h2] at h
  · simp at h
  cases h3 : onceF D <;> rw [h3] at h
  · simp at h
  by_cases h4 : 2 < D.ni
  · simp [h4] at h
  cases h5 : allPartsF D <;> rw [h5] at h
  · simp [h4] at h
  cases h6 : nullF D <;> rw [h6] at h
  · exact ⟨rfl, rfl, rfl, by omega, rfl, rfl⟩
  · simp [h4] at h
end Go.Proofs.YtkakkjnbhklfpaaGreatDoor

/-
  What turns but one block: how it is carried.
-/
namespace Go.Proofs.YtkakkjnbhklfpaaGreatDoor
open Go.RowKit
set_option maxRecDepth 4000

/-- Of what was there block g alone may have turned. -/
structure But (g : Nat) (w w' : World) : Prop where
  os : w'.os = w.os
  tape : w'.tape = w.tape
  output : w'.output = w.output
  size : w.heap.size ≤ w'.heap.size
  block : ∀ k, k < w.heap.size → k ≠ g → w'.heap[k]? = w.heap[k]?

theorem But.refl (g : Nat) (w : World) : But g w w := ⟨rfl, rfl, rfl, Nat.le_refl _, fun _ _ _ => rfl⟩
theorem But.trans {g : Nat} {a b c : World} (h : But g a b) (k : But g b c) : But g a c :=
  ⟨k.os.trans h.os, k.tape.trans h.tape, k.output.trans h.output, Nat.le_trans h.size k.size, fun i hi hg => (k.block i (Nat.lt_of_lt_of_le hi h.size) hg).trans (h.block i hi hg)⟩
theorem But.ofOnly {g : Nat} {w w' : World} (h : Only g w w') : But g w w' := ⟨h.os, h.tape, h.output, by rw [h.size]; exact Nat.le_refl _, fun k _ hk => h.block k hk⟩
theorem But.ofBelow {g : Nat} {w w' : World} (h : Below w.heap.size w w') : But g w w' := ⟨h.os, h.tape, h.output, h.size, fun k hk _ => h.block k hk⟩
theorem But.below {g B : Nat} {w w' : World} (h : But g w w') (hB : B ≤ g) (hs : B ≤ w.heap.size) : Below B w w' := ⟨h.os, h.tape, h.output, h.size, fun k hk => h.block k (by omega) (by omega)⟩
theorem But.row {t : TypeId} {g b n : Nat} {f : Nat → Int} {w w' : World} (h : But g w w') (hr : Row t w b n f) (hne : b ≠ g) : Row t w' b n f := hr.of_block (h.block b hr.lt hne)
theorem But.view {g : Nat} {ao : Option Addr} {n cap : Nat} {f : Nat → Int} {w w' : World} (h : But g w w') (hv : View w ao n cap f) (hne : ∀ a, ao = some a → 0 < n → a.block ≠ g) : View w' ao n cap f := by
  refine ⟨hv.le, hv.byte, fun hn => ?_⟩
  obtain ⟨b', off, e, hlt, hc⟩ := hv.cells hn
  refine ⟨b', off, e, Nat.lt_of_lt_of_le hlt h.size, fun i hi => ?_⟩
  rw [World.cell?_of_block (w := w) (h.block b' hlt (hne _ e hn))]
  exact hc i hi
theorem Only.grown {g : Nat} {w w' : World} (h : Only g w w') : w.grownBy w' (some g) :=
  ⟨h.os, h.tape, h.output, by rw [h.size]; exact Nat.le_refl _, fun k _ hk => h.block k (fun e => hk (by rw [e]))⟩
theorem But.grown {g : Nat} {w w' : World} (h : But g w w') : w.grownBy w' (some g) := ⟨h.os, h.tape, h.output, h.size, fun k hk hne => h.block k hk (fun e => hne (by rw [e]))⟩
end Go.Proofs.YtkakkjnbhklfpaaGreatDoor

/-
  Rows of columns, of parts and of indexes that read, and a table that reads; how that is carried from one world to the next.
-/
namespace Go.Proofs.YtkakkjnbhklfpaaGreatDoor
open Go.RowKit
set_option maxRecDepth 4000

/-- The slice value '.slice ao n cap' reads as n columns. -/
structure CView (w : World) (ao : Option Addr) (n cap : Nat) (f : Nat → PCol) : Prop where
  le : n ≤ cap
  cells : 0 < n → ∃ b off, ao = some ⟨b, off, none⟩ ∧ b < w.heap.size ∧ ∀ i, i < n → w.cell? ⟨b, off + i * 3, none⟩ = some (.string (f i).name) ∧ w.cell? ⟨b, off + i * 3 + 1, none⟩ = some (.int .i64 (f i).type) ∧ w.cell? ⟨b, off + i * 3 + 2, none⟩ = some (.bool (f i).null)
/-- .. as n parts. -/
structure BView (w : World) (ao : Option Addr) (n cap : Nat) (f : Nat → PBy) : Prop where
  le : n ≤ cap
  cells : 0 < n → ∃ b off, ao = some ⟨b, off, none⟩ ∧ b < w.heap.size ∧ ∀ i, i < n → w.cell? ⟨b, off + i * 2, none⟩ = some (.int .i64 (f i).col) ∧ w.cell? ⟨b, off + i * 2 + 1, none⟩ = some (.bool (f i).desc)
/-- .. as n indexes. -/
structure IView (w : World) (ao : Option Addr) (n cap : Nat) (f : Nat → PIdx) : Prop where
  le : n ≤ cap
  cells : 0 < n → ∃ b off, ao = some ⟨b, off, none⟩ ∧ b < w.heap.size ∧ ∀ i, i < n → w.cell? ⟨b, off + i * 3, none⟩ = some (.string (f i).name) ∧ w.cell? ⟨b, off + i * 3 + 1, none⟩ = some (.bool (f i).uniq) ∧ ∃ a c, w.cell? ⟨b, off + i * 3 + 2, none⟩ = some (.slice a (f i).n c) ∧ BView w a (f i).n c (f i).part
/-- A table's value. -/
structure DView (w : World) (v : Value) (D : PDef) : Prop where
  is : ∃ ac cc ap cp ai ci, v = .agg #[.string D.name, .slice ac D.nc cc, .slice ap D.np cp, .slice ai D.ni ci] ∧ CView w ac D.nc cc D.col ∧ BView w ap D.np cp D.pri ∧ IView w ai D.ni ci D.idx

theorem CView.below {w w' : World} {ao : Option Addr} {n cap : Nat} {f : Nat → PCol} (h : CView w ao n cap f) (hb : Below w.heap.size w w') : CView w' ao n cap f := by
  refine ⟨h.le, fun hn => ?_⟩
  obtain ⟨b, off, e, hlt, hc⟩ := h.cells hn
  refine ⟨b, off, e, Nat.lt_of_lt_of_le hlt hb.size, fun i hi => ?_⟩
  rw [hb.cell (p := ⟨b, off + i * 3, none⟩) hlt, hb.cell (p := ⟨b, off + i * 3 + 1, none⟩) hlt, hb.cell (p := ⟨b, off + i * 3 + 2, none⟩) hlt]
  exact hc i hi
theorem BView.below {w w' : World} {ao : Option Addr} {n cap : Nat} {f : Nat → PBy} (h : BView w ao n cap f) (hb : Below w.heap.size w w') : BView w' ao n cap f := by
  refine ⟨h.le, fun hn => ?_⟩
  obtain ⟨b, off, e, hlt, hc⟩ := h.cells hn
  refine ⟨b, off, e, Nat.lt_of_lt_of_le hlt hb.size, fun i hi => ?_⟩
  rw [hb.cell (p := ⟨b, off + i * 2, none⟩) hlt, hb.cell (p := ⟨b, off + i * 2 + 1, none⟩) hlt]
  exact hc i hi
theorem IView.below {w w' : World} {ao : Option Addr} {n cap : Nat} {f : Nat → PIdx} (h : IView w ao n cap f) (hb : Below w.heap.size w w') : IView w' ao n cap f := by
  refine ⟨h.le, fun hn => ?_⟩
  obtain ⟨b, off, e, hlt, hc⟩ := h.cells hn
  refine ⟨b, off, e, Nat.lt_of_lt_of_le hlt hb.size, fun i hi => ?_⟩
  rw [hb.cell (p := ⟨b, off + i * 3, none⟩) hlt, hb.cell (p := ⟨b, off + i * 3 + 1, none⟩) hlt, hb.cell (p := ⟨b, off + i * 3 + 2, none⟩) hlt]
  obtain ⟨h0, h1, a, c, h2, hv⟩ := hc i hi
  exact ⟨h0, h1, a, c, h2, hv.below hb⟩
theorem DView.below {w w' : World} {v : Value} {D : PDef} (h : DView w v D) (hb : Below w.heap.size w w') : DView w' v D := by
  obtain ⟨ac, cc, ap, cp, ai, ci, e, h1, h2, h3⟩ := h.is
  exact ⟨ac, cc, ap, cp, ai, ci, e, h1.below hb, h2.below hb, h3.below hb⟩
theorem CView.take {w : World} {ao : Option Addr} {n cap m : Nat} {f : Nat → PCol} (h : CView w ao n cap f) (hm : m ≤ n) : CView w ao m cap f := by
  refine ⟨Nat.le_trans hm h.le, fun hn => ?_⟩
  obtain ⟨b, off, e, hlt, hc⟩ := h.cells (by omega)
  exact ⟨b, off, e, hlt, fun i hi => hc i (by omega)⟩
end Go.Proofs.YtkakkjnbhklfpaaGreatDoor

/-
  A table in a variable of the call's own.
-/
namespace Go.Proofs.YtkakkjnbhklfpaaGreatDoor
open Go.RowKit
set_option maxRecDepth 4000

/-- Numbers of columns, parts and indexes, and texts, that are not great. -/
structure DFine (D : PDef) : Prop where
  name : D.name.size ≤ 1048576
  nc : D.nc ≤ 1048576
  col : ∀ i, i < D.nc → (D.col i).name.size ≤ 1048576
  np : D.np ≤ 1048576
  ni : D.ni ≤ 1048576
  idx : ∀ i, i < D.ni → (D.idx i).name.size ≤ 1048576 ∧ (D.idx i).n ≤ 1048576

/-- What was put into a variable of four cells is there while nothing of it is written. -/
theorem box4 {w wr : World} {T : TypeId} {x0 x1 x2 x3 : Value} (h : Below (w.heap.size + 1) (w.alloc (.cells #[x0, x1, x2, x3] T)) wr) :
    wr.cell? ⟨w.heap.size, 0, none⟩ = some x0 ∧ wr.cell? ⟨w.heap.size, 1, none⟩ = some x1 ∧ wr.cell? ⟨w.heap.size, 2, none⟩ = some x2 ∧ wr.cell? ⟨w.heap.size, 3, none⟩ = some x3 := by
  refine ⟨?_, ?_, ?_, ?_⟩
  all_goals (rw [h.cell (by simp)]; simp [go_sem])
theorem box4_below {w wr : World} {o : Obj} (h : Below (w.heap.size + 1) (w.alloc o) wr) : Below w.heap.size w wr ∧ w.heap.size + 1 ≤ wr.heap.size := by
  refine ⟨((Below.refl _ _).alloc (Nat.le_refl _) _).trans (h.mono (by simp)), ?_⟩
  have := h.size
  simpa using this
theorem box4_start (w : World) (o : Obj) : Below (w.heap.size + 1) (w.alloc o) (w.alloc o) := Below.refl _ _
theorem box4_on {w wr w' : World} {o : Obj} (h : Below (w.heap.size + 1) (w.alloc o) wr) (h' : Below wr.heap.size wr w') : Below (w.heap.size + 1) (w.alloc o) w' := h.trans (h'.mono (box4_below h).2)
end Go.Proofs.YtkakkjnbhklfpaaGreatDoor

