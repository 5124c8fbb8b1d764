/-
  Numbers in order, plainly: the order of their bytes is theirs, none is the beginning of another one, and they come back.
-/
import Derived.Test.YtfgigbgfkkmaiabBefore
import Derived.Test.YtfgigbgfkkmaiabGetVarPlain
namespace Go.Proofs.Ytfgigbgfkkmaiab
open Go.RowKit

def u8 (z : Int) : UInt8 := UInt8.ofNat z.toNat
theorem u8_lt {a b : Int} (ha : 0 ≤ a ∧ a ≤ 255) (hb : 0 ≤ b ∧ b ≤ 255) : u8 a < u8 b ↔ a < b := by
  unfold u8
  rw [UInt8.lt_iff_toNat_lt, UInt8.toNat_ofNat', UInt8.toNat_ofNat']
  omega
theorem u8_inj {a b : Int} (ha : 0 ≤ a ∧ a ≤ 255) (hb : 0 ≤ b ∧ b ≤ 255) : u8 a = u8 b ↔ a = b := by
  constructor
  · intro h
    have := congrArg UInt8.toNat h
    unfold u8 at this
    rw [UInt8.toNat_ofNat', UInt8.toNat_ofNat'] at this
    omega
  · intro h; rw [h]

theorem less_snoc (x y : UInt8) : ∀ a b : List UInt8, a.length = b.length → Op.bytesLess (a ++ [x]) (b ++ [y]) = (Op.bytesLess a b || (decide (a = b) && decide (x < y)))
  | [], [], _ => by
    by_cases h : x < y
    · simp [Op.bytesLess, h]
    · simp [Op.bytesLess, h]
  | p :: ps, q :: qs, h => by
    have ih := less_snoc x y ps qs (by simpa using h)
    simp only [List.cons_append, Op.bytesLess]
    by_cases h1 : p < q
    · simp [h1]
    · by_cases h2 : p = q
      · subst h2
        simp [h1, ih]
      · have hb : (p == q) = false := by simpa using h2
        simp [h1, h2, hb]

theorem ahead_eq (l k : List Int) : ahead l k = Op.bytesLess (l.map u8) (k.map u8) := by
  unfold ahead
  rw [toList_data, toList_data, strOfNums_data, strOfNums_data]
  rfl
theorem lof_snoc (k : Nat) (f : Nat → Int) : lof (k + 1) f = lof k f ++ [f k] := by simp [lof, List.range_succ]

theorem map_u8_inj : ∀ (l k : List Int), (∀ y ∈ l, 0 ≤ y ∧ y ≤ 255) → (∀ y ∈ k, 0 ≤ y ∧ y ≤ 255) → (l.map u8 = k.map u8 ↔ l = k)
  | [], [], _, _ => by simp
  | [], _ :: _, _, _ => by simp
  | _ :: _, [], _, _ => by simp
  | x :: xs, y :: ys, h1, h2 => by
    have ih := map_u8_inj xs ys (fun z hz => h1 z (by simp [hz])) (fun z hz => h2 z (by simp [hz]))
    simp only [List.map_cons, List.cons.injEq, ih, u8_inj (h1 x (by simp)) (h2 y (by simp))]

section
variable {f g : Nat → Int}
theorem valF_inj (k : Nat) (hf : ∀ i, i < k → 0 ≤ f i ∧ f i ≤ 255) (hg : ∀ i, i < k → 0 ≤ g i ∧ g i ≤ 255) : lof k f = lof k g ↔ valF k f = valF k g := by
  constructor
  · intro h
    apply valF_congr
    intro i hi
    rw [← lof_get k f i hi, ← lof_get k g i hi, h]
  · intro h
    unfold lof
    apply List.map_congr_left
    intro i hi
    have hi := List.mem_range.1 hi
    rw [← be_valF k f hf i hi, ← be_valF k g hg i hi, h]

/-- Of as many bytes the order is that of the numbers. -/
theorem ahead_valF : ∀ (k : Nat), (∀ i, i < k → 0 ≤ f i ∧ f i ≤ 255) → (∀ i, i < k → 0 ≤ g i ∧ g i ≤ 255) → ahead (lof k f) (lof k g) = decide (valF k f < valF k g)
  | 0, _, _ => by rw [ahead_eq]; rfl
  | k + 1, hf, hg => by
    have ih := ahead_valF k (fun i hi => hf i (by omega)) (fun i hi => hg i (by omega))
    have hj := valF_inj k (fun i hi => hf i (by omega)) (fun i hi => hg i (by omega))
    have hfk := hf k (by omega)
    have hgk := hg k (by omega)
    rw [ahead_eq] at ih ⊢
    rw [lof_snoc, lof_snoc, List.map_append, List.map_append]
    show Op.bytesLess ((lof k f).map u8 ++ [u8 (f k)]) ((lof k g).map u8 ++ [u8 (g k)]) = _
    rw [less_snoc _ _ _ _ (by simp [lof_len]), ih]
    have e1 : ((lof k f).map u8 = (lof k g).map u8) = (valF k f = valF k g) := propext ((map_u8_inj _ _ (lof_byte (fun i hi => hf i (by omega))) (lof_byte (fun i hi => hg i (by omega)))).trans hj)
    have e2 : (u8 (f k) < u8 (g k)) = (f k < g k) := propext (u8_lt hfk hgk)
    simp only [e1, e2, valF]
    rw [← Bool.decide_and, ← Bool.decide_or]
    apply decide_eq_decide.2
    omega
end

theorem ahead_cons (x y : Int) (l k : List Int) (hx : 0 ≤ x ∧ x ≤ 255) (hy : 0 ≤ y ∧ y ≤ 255) : ahead (x :: l) (y :: k) = if x < y then true else if x = y then ahead l k else false := by
  rw [ahead_eq, ahead_eq]
  simp only [List.map_cons, Op.bytesLess]
  by_cases h1 : x < y
  · simp [h1, (u8_lt hx hy).2 h1]
  · have n1 : ¬ u8 x < u8 y := fun h => h1 ((u8_lt hx hy).1 h)
    by_cases h2 : x = y
    · subst h2; simp
    · have n2 : u8 x ≠ u8 y := fun h => h2 ((u8_inj hx hy).1 h)
      simp [h1, h2, n1, n2]

theorem clampF_self (x : Int) (h : -2147483648 ≤ x ∧ x ≤ 2147483647) : clampF x = x := by unfold clampF; rw [if_neg (by omega), if_neg (by omega)]
theorem clampV_self (x : Int) (h : -1000000000000000 ≤ x ∧ x ≤ 1000000000000000) : clampV x = x := by unfold clampV; rw [if_neg (by omega), if_neg (by omega)]
theorem valF_fix (x : Int) : valF 4 (be 4 (clampF x + 2147483648)) = clampF x + 2147483648 := by
  have := clampF_bd x
  have e : (256 : Int) ^ 4 = 4294967296 := by decide
  exact valF_be 4 _ (by omega) (by omega)
theorem fix_ahead (x y : Int) : ahead (fixL x) (fixL y) = decide (clampF x < clampF y) := by
  unfold fixL
  rw [ahead_valF 4 (fun i _ => be_bd _ _ i) (fun i _ => be_bd _ _ i), valF_fix, valF_fix]
  apply decide_eq_decide.2
  omega
theorem fixL_clamp (x : Int) : fixL (clampF x) = fixL x := by unfold fixL; rw [clampF_self _ (clampF_bd x)]
theorem varL_clamp (x : Int) : varL (clampV x) = varL x := by unfold varL; rw [clampV_self _ (clampV_bd x)]

theorem behind (l k : List Int) (m i : Nat) (h : l.length = m) : (l ++ k).getD (m + i) 0 = k.getD i 0 := by
  rw [List.getD_eq_getElem?_getD, List.getD_eq_getElem?_getD, List.getElem?_append_right (by omega), show m + i - l.length = i by omega]

section
variable {x y : Int} (hx : -1000000000000000 ≤ x ∧ x ≤ 1000000000000000) (hy : -1000000000000000 ≤ y ∧ y ≤ 1000000000000000)
include hx
theorem size_lt : sizeV x < 256 ^ cnt (sizeV x) := cnt_lt _ (by have := sizeV_bd x hx; omega)
theorem size_back : valF (cnt (sizeV x)) (be (cnt (sizeV x)) (sizeV x)) = sizeV x := valF_be _ _ (sizeV_bd x hx).1 (size_lt hx)
/-- The digits, turned or not, as a number. -/
theorem tail_val : valF (cnt (sizeV x)) (tailV x) = if x < 0 then 256 ^ cnt (sizeV x) + x else x := by
  have hb := size_back hx
  by_cases h : x < 0
  · rw [if_pos h]
    have e : sizeV x = -1 - x := by unfold sizeV; rw [if_pos h]
    have key : ∀ k, valF k (tailV x) = 256 ^ k - 1 - valF k (be (cnt (sizeV x)) (sizeV x)) := by
      intro k
      induction k with
      | zero => rfl
      | succ k ih =>
        rw [valF, valF, ih, Int.pow_succ]
        unfold tailV
        rw [if_pos h]
        omega
    rw [key, hb, e]
    omega
  · rw [if_neg h]
    have e : sizeV x = x := by unfold sizeV; rw [if_neg h]
    have : valF (cnt (sizeV x)) (tailV x) = valF (cnt (sizeV x)) (be (cnt (sizeV x)) (sizeV x)) := by
      apply valF_congr
      intro i _
      unfold tailV
      rw [if_neg h]
    rw [this, hb, e]

include hy
theorem head_lt (h : headV x < headV y) : x < y := by
  have lx := size_lt hx
  have ly := size_lt hy
  unfold headV at h
  by_cases h1 : x < 0
  · by_cases h2 : y < 0
    · rw [if_pos h1, if_pos h2] at h
      have e1 : sizeV x = -1 - x := by unfold sizeV; rw [if_pos h1]
      have e2 : sizeV y = -1 - y := by unfold sizeV; rw [if_pos h2]
      have hg := cnt_ge (sizeV x) (by omega)
      have hm : (256 : Int) ^ cnt (sizeV y) ≤ 256 ^ (cnt (sizeV x) - 1) := pow_mono (by omega)
      omega
    · omega
  · by_cases h2 : y < 0
    · rw [if_neg h1, if_pos h2] at h
      omega
    · rw [if_neg h1, if_neg h2] at h
      have e1 : sizeV x = x := by unfold sizeV; rw [if_neg h1]
      have e2 : sizeV y = y := by unfold sizeV; rw [if_neg h2]
      have hg := cnt_ge (sizeV y) (by omega)
      have hm : (256 : Int) ^ cnt (sizeV x) ≤ 256 ^ (cnt (sizeV y) - 1) := pow_mono (by omega)
      omega
omit hx hy in
theorem head_same (h : headV x = headV y) : cnt (sizeV x) = cnt (sizeV y) ∧ (x < 0 ↔ y < 0) := by
  unfold headV at h
  (repeat' split at h) <;> omega
theorem kept_ahead : ahead (keptL x) (keptL y) = decide (x < y) := by
  unfold keptL
  rw [ahead_cons _ _ _ _ (headV_bd x) (headV_bd y)]
  by_cases h1 : headV x < headV y
  · rw [if_pos h1, decide_eq_true (head_lt hx hy h1)]
  · rw [if_neg h1]
    by_cases h2 : headV x = headV y
    · rw [if_pos h2]
      obtain ⟨hc, hs⟩ := head_same h2
      have tx := tail_val hx
      have ty := tail_val hy
      rw [← hc] at ty ⊢
      rw [ahead_valF _ (fun i _ => tailV_bd x i) (fun i _ => tailV_bd y i), tx, ty]
      apply decide_eq_decide.2
      by_cases h : x < 0
      · rw [if_pos h, if_pos (hs.1 h)]; omega
      · rw [if_neg h, if_neg (fun h' => h (hs.2 h'))]
    · rw [if_neg h2, decide_eq_false]
      intro h
      rcases Int.lt_trichotomy (headV x) (headV y) with h3 | h3 | h3
      · exact h1 h3
      · exact h2 h3
      · have := head_lt hy hx h3
        omega
theorem kept_same (h : headV x = headV y) (ht : lof (cnt (sizeV x)) (tailV x) = lof (cnt (sizeV y)) (tailV y)) : x = y := by
  obtain ⟨hc, hs⟩ := head_same h
  have tx := tail_val hx
  have ty := tail_val hy
  rw [← hc] at ty ht
  have e := (valF_inj _ (fun i _ => tailV_bd x i) (fun i _ => tailV_bd y i)).1 ht
  rw [tx, ty] at e
  by_cases h : x < 0
  · rw [if_pos h, if_pos (hs.1 h)] at e; omega
  · rw [if_neg h, if_neg (fun h' => h (hs.2 h'))] at e; exact e
theorem kept_prefix {r : List Int} (h : keptL x = keptL y ++ r) : x = y := by
  have hh : headV x = headV y := by unfold keptL at h; simpa using (List.cons.inj h).1
  have hl := congrArg List.length h
  rw [List.length_append, keptL_len, keptL_len, (head_same hh).1] at hl
  have : r = [] := List.eq_nil_of_length_eq_zero (by omega)
  rw [this, List.append_nil] at h
  unfold keptL at h
  exact kept_same hx hy hh (List.cons.inj h).2
end
end Go.Proofs.Ytfgigbgfkkmaiab
