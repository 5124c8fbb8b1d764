/-
  Numbers as bytes that keep their order, plainly: a number's bytes, the highest first, and what is read of them.
-/
import Derived.Test.YtbcgonfihdpjnaqPutPlain
namespace Go.Proofs.Ytbcgonfihdpjnaq
open Go.RowKit
set_option maxRecDepth 4000

/-- A number's byte that lies j from its end. -/
def dg (n : Int) (j : Nat) : Int := n / 256 ^ j % 256
theorem dg_bd (n : Int) (j : Nat) : 0 ≤ dg n j ∧ dg n j ≤ 255 := by unfold dg; omega
theorem dg_zero (n : Int) : dg n 0 = n % 256 := by unfold dg; simp
theorem div_pow_succ (n : Int) (j : Nat) : n / 256 ^ j / 256 = n / 256 ^ (j + 1) := by
  rw [Int.pow_succ, Int.ediv_ediv_of_nonneg (Int.le_of_lt (Int.pow_pos (by decide)))]
theorem dg_succ (n : Int) (j : Nat) : dg n (j + 1) = dg (n / 256) j := by
  unfold dg
  rw [Int.pow_succ, Int.mul_comm, ← Int.ediv_ediv_of_nonneg (by decide)]
/-- The last k bytes of a number, the highest first. -/
def be (k : Nat) (n : Int) (i : Nat) : Int := dg n (k - 1 - i)
theorem be_bd (k : Nat) (n : Int) (i : Nat) : 0 ≤ be k n i ∧ be k n i ≤ 255 := dg_bd _ _

/-- What k bytes are as a number. -/
def valF : Nat → (Nat → Int) → Int
  | 0, _ => 0
  | k + 1, f => valF k f * 256 + f k
theorem valF_bd : ∀ (k : Nat) (f : Nat → Int), (∀ i, i < k → 0 ≤ f i ∧ f i ≤ 255) → 0 ≤ valF k f ∧ valF k f < 256 ^ k
  | 0, _, _ => by simp [valF]
  | k + 1, f, h => by
    have ih := valF_bd k f (fun i hi => h i (by omega))
    have := h k (by omega)
    rw [valF, Int.pow_succ]
    omega
theorem valF_congr : ∀ (k : Nat) (f g : Nat → Int), (∀ i, i < k → f i = g i) → valF k f = valF k g
  | 0, _, _, _ => rfl
  | k + 1, f, g, h => by rw [valF, valF, valF_congr k f g (fun i hi => h i (by omega)), h k (by omega)]

theorem mod_split (a m : Int) (hm : 0 < m) : a % (m * 256) = a / 256 % m * 256 + a % 256 := by
  have h1 : a = 256 * (a / 256) + a % 256 := (Int.mul_ediv_add_emod a 256).symm
  have h2 : a / 256 = m * (a / 256 / m) + a / 256 % m := (Int.mul_ediv_add_emod (a / 256) m).symm
  have b1 := Int.emod_nonneg (a / 256) (Int.ne_of_gt hm)
  have b2 := Int.emod_lt_of_pos (a / 256) hm
  generalize a / 256 / m = q at *
  generalize a / 256 % m = t at *
  have e : a = (t * 256 + a % 256) + m * 256 * q := by
    have : m * 256 * q = 256 * (m * q) := by rw [Int.mul_comm m 256, Int.mul_assoc]
    rw [this]
    omega
  conv => lhs; rw [e]
  rw [Int.add_mul_emod_self_left]
  exact Int.emod_eq_of_lt (by omega) (by omega)

theorem valF_be' (k : Nat) (n : Int) : ∀ j, j ≤ k → valF j (be k n) = n / 256 ^ (k - j) % 256 ^ j
  | 0, _ => by simp [valF, Int.emod_one]
  | j + 1, h => by
    have ih := valF_be' k n j (by omega)
    have e : k - j = (k - (j + 1)) + 1 := by omega
    rw [valF, ih, e, ← div_pow_succ, Int.pow_succ, mod_split _ _ (Int.pow_pos (by decide))]
    unfold be dg
    rw [show k - 1 - j = k - (j + 1) by omega]
theorem valF_be (k : Nat) (n : Int) (h0 : 0 ≤ n) (h1 : n < 256 ^ k) : valF k (be k n) = n := by
  rw [valF_be' k n k (Nat.le_refl _), Nat.sub_self]
  simp only [Int.pow_zero, Int.ediv_one]
  exact Int.emod_eq_of_lt h0 h1

/-- What bytes are as a number has these bytes. -/
theorem be_valF : ∀ (k : Nat) (f : Nat → Int), (∀ i, i < k → 0 ≤ f i ∧ f i ≤ 255) → ∀ i, i < k → be k (valF k f) i = f i
  | 0, _, _, i, hi => absurd hi (Nat.not_lt_zero _)
  | k + 1, f, h, i, hi => by
    have hk := h k (by omega)
    unfold be
    by_cases e : i = k
    · subst e
      rw [show i + 1 - 1 - i = 0 by omega, dg_zero, valF]
      omega
    · have ih := be_valF k f (fun j hj => h j (by omega)) i (by omega)
      rw [show k + 1 - 1 - i = (k - 1 - i) + 1 by omega, dg_succ, valF]
      rw [show (valF k f * 256 + f k) / 256 = valF k f by omega]
      exact ih

/-- How many bytes a number has (0 of 0). -/
def cnt (n : Int) : Nat :=
  if n < 1 then 0 else if n < 256 then 1 else if n < 65536 then 2 else if n < 16777216 then 3 else if n < 4294967296 then 4 else if n < 1099511627776 then 5 else if n < 281474976710656 then 6 else 7
theorem cnt_le (n : Int) : cnt n ≤ 7 := by
  unfold cnt
  repeat (first | omega | split)
theorem cnt_lt (n : Int) (h1 : n < 72057594037927936) : n < 256 ^ cnt n := by
  unfold cnt
  repeat (first | (simp only [Int.reducePow, Int.pow_zero]; omega) | split)
theorem cnt_ge (n : Int) (h : 0 < cnt n) : 256 ^ (cnt n - 1) ≤ n := by
  unfold cnt at h ⊢
  split
  · rename_i h1; rw [if_pos h1] at h; omega
  · repeat (first | (simp only [Nat.reduceSub, Int.pow_zero, Nat.sub_self, Int.pow_succ]; omega) | split)
theorem cnt_pos (n : Int) : 0 < cnt n ↔ 0 < n := by
  unfold cnt
  split
  · omega
  · constructor
    · intro _; omega
    · intro _; repeat (first | omega | split)
theorem pow_mono {a b : Nat} (h : a ≤ b) : (256 : Int) ^ a ≤ 256 ^ b := by
  have h1 : 256 ^ a ≤ 256 ^ b := Nat.pow_le_pow_right (by decide) h
  have e1 : ((256 ^ a : Nat) : Int) = 256 ^ a := by simp
  have e2 : ((256 ^ b : Nat) : Int) = 256 ^ b := by simp
  rw [← e1, ← e2]
  exact Int.ofNat_le.2 h1
theorem cnt_is (n : Int) (k : Nat) (hk : k ≤ 7) (h1 : n < 256 ^ k) (h2 : 0 < k → 256 ^ (k - 1) ≤ n) : cnt n = k := by
  have hc := cnt_lt n (by
    have : (256 : Int) ^ k ≤ 256 ^ 7 := pow_mono hk
    have e : (256 : Int) ^ 7 = 72057594037927936 := by decide
    omega)
  rcases Nat.lt_trichotomy (cnt n) k with h | h | h
  · have := h2 (by omega)
    have e : (256 : Int) ^ cnt n ≤ 256 ^ (k - 1) := pow_mono (by omega)
    omega
  · exact h
  · have := cnt_ge n (by omega)
    have e : (256 : Int) ^ k ≤ 256 ^ (cnt n - 1) := pow_mono (by omega)
    omega

theorem lof_cons (k : Nat) (f : Nat → Int) : lof (1 + k) f = f 0 :: lof k (fun i => f (i + 1)) := by
  unfold lof
  rw [Nat.add_comm, List.range_succ_eq_map, List.map_cons, List.map_map]
  rfl
/-- The nearest number that four bytes have. -/
def clampF (x : Int) : Int := if x < -2147483648 then -2147483648 else if 2147483647 < x then 2147483647 else x
theorem clampF_bd (x : Int) : -2147483648 ≤ clampF x ∧ clampF x ≤ 2147483647 := by unfold clampF; split <;> (try split) <;> omega
/-- The nearest number that is kept. -/
def clampV (x : Int) : Int := if x < -1000000000000000 then -1000000000000000 else if 1000000000000000 < x then 1000000000000000 else x
theorem clampV_bd (x : Int) : -1000000000000000 ≤ clampV x ∧ clampV x ≤ 1000000000000000 := by unfold clampV; split <;> (try split) <;> omega

/-- The four bytes of a number. -/
def fixL (x : Int) : List Int := lof 4 (be 4 (clampF x + 2147483648))
theorem fixL_len (x : Int) : (fixL x).length = 4 := lof_len _ _
theorem getD_in {l : List Int} {i : Nat} (h : i < l.length) : l.getD i 0 ∈ l := by
  rw [List.getD_eq_getElem?_getD, List.getElem?_eq_getElem h]
  exact List.getElem_mem h
theorem lof_byte {k : Nat} {f : Nat → Int} (h : ∀ i, i < k → 0 ≤ f i ∧ f i ≤ 255) : ∀ y ∈ lof k f, 0 ≤ y ∧ y ≤ 255 := by
  intro y hy
  simp only [lof, List.mem_map, List.mem_range] at hy
  obtain ⟨j, hj, rfl⟩ := hy
  exact h j hj
theorem fixL_byte (x : Int) : ∀ y ∈ fixL x, 0 ≤ y ∧ y ≤ 255 := lof_byte (fun i _ => be_bd _ _ i)

/-- A number without its sign: what its bytes are of. -/
def sizeV (x : Int) : Int := if x < 0 then -1 - x else x
theorem sizeV_bd (x : Int) (h : -1000000000000000 ≤ x ∧ x ≤ 1000000000000000) : 0 ≤ sizeV x ∧ sizeV x ≤ 1000000000000000 := by unfold sizeV; split <;> omega
/-- Its first byte. -/
def headV (x : Int) : Int := if x < 0 then 127 - (cnt (sizeV x) : Int) else 128 + (cnt (sizeV x) : Int)
/-- Those behind it. -/
def tailV (x : Int) (i : Nat) : Int := if x < 0 then 255 - be (cnt (sizeV x)) (sizeV x) i else be (cnt (sizeV x)) (sizeV x) i
/-- A kept number's bytes. -/
def keptL (x : Int) : List Int := headV x :: lof (cnt (sizeV x)) (tailV x)
def varL (x : Int) : List Int := keptL (clampV x)
theorem keptL_len (x : Int) : (keptL x).length = cnt (sizeV x) + 1 := by simp [keptL, lof_len]
theorem headV_bd (x : Int) : 0 ≤ headV x ∧ headV x ≤ 255 := by
  have := cnt_le (sizeV x)
  unfold headV
  split <;> omega
theorem tailV_bd (x : Int) (i : Nat) : 0 ≤ tailV x i ∧ tailV x i ≤ 255 := by
  have := be_bd (cnt (sizeV x)) (sizeV x) i
  unfold tailV
  split <;> omega
theorem keptL_byte (x : Int) : ∀ y ∈ keptL x, 0 ≤ y ∧ y ≤ 255 := by
  intro y hy
  rcases List.mem_cons.1 hy with rfl | hy
  · exact headV_bd x
  · exact lof_byte (fun i _ => tailV_bd x i) y hy
theorem varL_len (x : Int) : 1 ≤ (varL x).length ∧ (varL x).length ≤ 8 := by
  have := cnt_le (sizeV (clampV x))
  unfold varL
  rw [keptL_len]
  omega
theorem varL_byte (x : Int) : ∀ y ∈ varL x, 0 ≤ y ∧ y ≤ 255 := keptL_byte _
end Go.Proofs.Ytbcgonfihdpjnaq
