/-
  Together: NumPlain, GetVarPlain, GetFixPlain, PartPlain, KeyPlain, AllUpto, ValEq
-/
import Derived.Test.YtjoimkfpenbkmaaGreatDoorPackP1
import Derived.Test.YtjoimkfpenbkmaaGreatDoorPackP21
import Derived.Test.YtjoimkfpenbkmaaGreatDoorPackP2
import Derived.Laws.StructEq
/-
  Numbers as bytes that keep their order, plainly: a number's bytes, the highest first, and what is read of them.
-/
namespace Go.Proofs.YtjoimkfpenbkmaaGreatDoor
open Go.RowKit
set_option maxRecDepth 4000

/-- A number's byte that lies j from its end. -/
def dg (n : Int) (j : Nat) : Int := n / 256 ^ j % 256
theorem dg_bd (n : Int) (j : Nat) : 0 ≤ dg n j ∧ dg n j ≤ 255 := by unfold dg; omega
theorem dg_zero (n : Int) : dg n 0 = n % 256 := by unfold dg; simp
theorem div_pow_succ (n : Int) (j : Nat) : n / 256 ^ j / 256 = n / 256 ^ (j + 1) := by
  rw [Int.pow_succ, Int.ediv_ediv_of_nonneg (Int.le_of_lt (Int.pow_pos (by decide)))]
theorem dg_succ (n : Int) (j : Nat) : dg n (j + 1) = dg (n / 256) j := by
  unfold dg
  rw [Int.pow_succ, Int.mul_comm, ← Int.ediv_ediv_of_nonneg (by decide)]
/-- The last k bytes of a number, the highest first. -/
def be (k : Nat) (n : Int) (i : Nat) : Int := dg n (k - 1 - i)
theorem be_bd (k : Nat) (n : Int) (i : Nat) : 0 ≤ be k n i ∧ be k n i ≤ 255 := dg_bd _ _

/-- What k bytes are as a number. -/
def valF : Nat → (Nat → Int) → Int
  | 0, _ => 0
  | k + 1, f => valF k f * 256 + f k
theorem valF_bd : ∀ (k : Nat) (f : Nat → Int), (∀ i, i < k → 0 ≤ f i ∧ f i ≤ 255) → 0 ≤ valF k f ∧ valF k f < 256 ^ k
  | 0, _, _ => by simp [valF]
  | k + 1, f, h => by
    have ih := valF_bd k f (fun i hi => h i (by omega))
    have := h k (by omega)
    rw [valF, Int.pow_succ]
    omega
theorem valF_congr : ∀ (k : Nat) (f g : Nat → Int), (∀ i, i < k → f i = g i) → valF k f = valF k g
  | 0, _, _, _ => rfl
  | k + 1, f, g, h => by rw [valF, valF, valF_congr k f g (fun i hi => h i (by omega)), h k (by omega)]

theorem mod_split (a m : Int) (hm : 0 < m) : a % (m * 256) = a / 256 % m * 256 + a % 256 := by
  have h1 : a = 256 * (a / 256) + a % 256 := (Int.mul_ediv_add_emod a 256).symm
  have h2 : a / 256 = m * (a / 256 / m) + a / 256 % m := (Int.mul_ediv_add_emod (a / 256) m).symm
  have b1 := Int.emod_nonneg (a / 256) (Int.ne_of_gt hm)
  have b2 := Int.emod_lt_of_pos (a / 256) hm
  generalize a / 256 / m = q at *
  generalize a / 256 % m = t at *
  have e : a = (t * 256 + a % 256) + m * 256 * q := by
    have : m * 256 * q = 256 * (m * q) := by rw [Int.mul_comm m 256, Int.mul_assoc]
    rw [this]
    omega
  conv => lhs; rw [e]
  rw [Int.add_mul_emod_self_left]
  exact Int.emod_eq_of_lt (by omega) (by omega)

theorem valF_be' (k : Nat) (n : Int) : ∀ j, j ≤ k → valF j (be k n) = n / 256 ^ (k - j) % 256 ^ j
  | 0, _ => by simp [valF, Int.emod_one]
  | j + 1, h => by
    have ih := valF_be' k n j (by omega)
    have e : k - j = (k - (j + 1)) + 1 := by omega
    rw [valF, ih, e, ← div_pow_succ, Int.pow_succ, mod_split _ _ (Int.pow_pos (by decide))]
    unfold be dg
    rw [show k - 1 - j = k - (j + 1) by omega]
theorem valF_be (k : Nat) (n : Int) (h0 : 0 ≤ n) (h1 : n < 256 ^ k) : valF k (be k n) = n := by
  rw [valF_be' k n k (Nat.le_refl _), Nat.sub_self]
  simp only [Int.pow_zero, Int.ediv_one]
  exact Int.emod_eq_of_lt h0 h1

/-- What bytes are as a number has these bytes. -/
theorem be_valF : ∀ (k : Nat) (f : Nat → Int), (∀ i, i < k → 0 ≤ f i ∧ f i ≤ 255) → ∀ i, i < k → be k (valF k f) i = f i
  | 0, _, _, i, hi => absurd hi (Nat.not_lt_zero _)
  | k + 1, f, h, i, hi => by
    have hk := h k (by omega)
    unfold be
    by_cases e : i = k
    · subst e
      rw [show i + 1 - 1 - i = 0 by omega, dg_zero, valF]
      omega
    · have ih := be_valF k f (fun j hj => h j (by omega)) i (by omega)
      rw [show k + 1 - 1 - i = (k - 1 - i) + 1 by omega, dg_succ, valF]
      rw [show (valF k f * 256 + f k) / 256 = valF k f by omega]
      exact ih

/-- How many bytes a number has (0 of 0). -/
def cnt (n : Int) : Nat :=
  if n < 1 then 0 else if n < 256 then 1 else if n < 65536 then 2 else if n < 16777216 then 3 else if n < 4294967296 then 4 else if n < 1099511627776 then 5 else if n < 281474976710656 then 6 else 7
theorem cnt_le (n : Int) : cnt n ≤ 7 := by
  unfold cnt
  repeat (first | omega | split)
theorem cnt_lt (n : Int) (h1 : n < 72057594037927936) : n < 256 ^ cnt n := by
  unfold cnt
  repeat (first | (simp only [Int.reducePow, Int.pow_zero]; omega) | split)
theorem cnt_ge (n : Int) (h : 0 < cnt n) : 256 ^ (cnt n - 1) ≤ n := by
  unfold cnt at h ⊢
  split
  · rename_i h1; rw [if_pos h1] at h; omega
  · repeat (first | (simp only [Nat.reduceSub, Int.pow_zero, Nat.sub_self, Int.pow_succ]; omega) | split)
theorem cnt_pos (n : Int) : 0 < cnt n ↔ 0 < n := by
  unfold cnt
  split
  · omega
  · constructor
    · intro _; omega
    · intro _; repeat (first | omega | split)
theorem pow_mono {a b : Nat} (h : a ≤ b) : (256 : Int) ^ a ≤ 256 ^ b := by
  have h1 : 256 ^ a ≤ 256 ^ b := Nat.pow_le_pow_right (by decide) h
  have e1 : ((256 ^ a : Nat) : Int) = 256 ^ a := by simp
  have e2 : ((256 ^ b : Nat) : Int) = 256 ^ b := by simp
  rw [← e1, ← e2]
  exact Int.ofNat_le.2 h1
theorem cnt_is (n : Int) (k : Nat) (hk : k ≤ 7) (h1 : n < 256 ^ k) (h2 : 0 < k → 256 ^ (k - 1) ≤ n) : cnt n = k := by
  have hc := cnt_lt n (by
    have : (256 : Int) ^ k ≤ 256 ^ 7 := pow_mono hk
    have e : (256 : Int) ^ 7 = 72057594037927936 := by decide
    omega)
  rcases Nat.lt_trichotomy (cnt n) k with h | h | h
  · have := h2 (by omega)
    have e : (256 : Int) ^ cnt n ≤ 256 ^ (k - 1) := pow_mono (by omega)
    omega
  · exact h
  · have := cnt_ge n (by omega)
    have e : (256 : Int) ^ k ≤ 256 ^ (cnt n - 1) := pow_mono (by omega)
    omega

theorem lof_cons (k : Nat) (f : Nat → Int) : lof (1 + k) f = f 0 :: lof k (fun i => f (i + 1)) := by
  unfold lof
  rw [Nat.add_comm, List.range_succ_eq_map, List.map_cons, List.map_map]
  rfl
/-- The nearest number that four bytes have. -/
def clampF (x : Int) : Int := if x < -2147483648 then -2147483648 else if 2147483647 < x then 2147483647 else x
theorem clampF_bd (x : Int) : -2147483648 ≤ clampF x ∧ clampF x ≤ 2147483647 := by unfold clampF; split <;> (try split) <;> omega
/-- The nearest number that is kept. -/
def clampV (x : Int) : Int := if x < -1000000000000000 then -1000000000000000 else if 1000000000000000 < x then 1000000000000000 else x
theorem clampV_bd (x : Int) : -1000000000000000 ≤ clampV x ∧ clampV x ≤ 1000000000000000 := by unfold clampV; split <;> (try split) <;> omega

/-- The four bytes of a number. -/
def fixL (x : Int) : List Int := lof 4 (be 4 (clampF x + 2147483648))
theorem fixL_len (x : Int) : (fixL x).length = 4 := lof_len _ _
theorem getD_in {l : List Int} {i : Nat} (h : i < l.length) : l.getD i 0 ∈ l := by
  rw [List.getD_eq_getElem?_getD, List.getElem?_eq_getElem h]
  exact List.getElem_mem h
theorem lof_byte {k : Nat} {f : Nat → Int} (h : ∀ i, i < k → 0 ≤ f i ∧ f i ≤ 255) : ∀ y ∈ lof k f, 0 ≤ y ∧ y ≤ 255 := by
  intro y hy
  simp only [lof, List.mem_map, List.mem_range] at hy
  obtain ⟨j, hj, rfl⟩ := hy
  exact h j hj
theorem fixL_byte (x : Int) : ∀ y ∈ fixL x, 0 ≤ y ∧ y ≤ 255 := lof_byte (fun i _ => be_bd _ _ i)

/-- A number without its sign: what its bytes are of. -/
def sizeV (x : Int) : Int := if x < 0 then -1 - x else x
theorem sizeV_bd (x : Int) (h : -1000000000000000 ≤ x ∧ x ≤ 1000000000000000) : 0 ≤ sizeV x ∧ sizeV x ≤ 1000000000000000 := by unfold sizeV; split <;> omega
/-- Its first byte. -/
def headV (x : Int) : Int := if x < 0 then 127 - (cnt (sizeV x) : Int) else 128 + (cnt (sizeV x) : Int)
/-- Those behind it. -/
def tailV (x : Int) (i : Nat) : Int := if x < 0 then 255 - be (cnt (sizeV x)) (sizeV x) i else be (cnt (sizeV x)) (sizeV x) i
/-- A kept number's bytes. -/
def keptL (x : Int) : List Int := headV x :: lof (cnt (sizeV x)) (tailV x)
def varL (x : Int) : List Int := keptL (clampV x)
theorem keptL_len (x : Int) : (keptL x).length = cnt (sizeV x) + 1 := by simp [keptL, lof_len]
theorem headV_bd (x : Int) : 0 ≤ headV x ∧ headV x ≤ 255 := by
  have := cnt_le (sizeV x)
  unfold headV
  split <;> omega
theorem tailV_bd (x : Int) (i : Nat) : 0 ≤ tailV x i ∧ tailV x i ≤ 255 := by
  have := be_bd (cnt (sizeV x)) (sizeV x) i
  unfold tailV
  split <;> omega
theorem keptL_byte (x : Int) : ∀ y ∈ keptL x, 0 ≤ y ∧ y ≤ 255 := by
  intro y hy
  rcases List.mem_cons.1 hy with rfl | hy
  · exact headV_bd x
  · exact lof_byte (fun i _ => tailV_bd x i) y hy
theorem varL_len (x : Int) : 1 ≤ (varL x).length ∧ (varL x).length ≤ 8 := by
  have := cnt_le (sizeV (clampV x))
  unfold varL
  rw [keptL_len]
  omega
theorem varL_byte (x : Int) : ∀ y ∈ varL x, 0 ≤ y ∧ y ≤ 255 := keptL_byte _
end Go.Proofs.YtjoimkfpenbkmaaGreatDoor

/-
  What is read of bytes as a number of the kept ones, plainly.
-/
namespace Go.Proofs.YtjoimkfpenbkmaaGreatDoor
open Go.RowKit
set_option maxRecDepth 4000

/-- The byte as it is, or turned. -/
def turnF (t : Bool) (f : Nat → Int) (i : Nat) : Int := if t then 255 - f i else f i
theorem turnF_bd (t : Bool) {k : Nat} {f : Nat → Int} (h : ∀ i, i < k → 0 ≤ f i ∧ f i ≤ 255) : ∀ i, i < k → 0 ≤ turnF t f i ∧ turnF t f i ≤ 255 := by
  intro i hi
  have := h i hi
  unfold turnF
  split <;> omega

/-- How many bytes a head says. -/
def hcnt (h : Int) : Nat := (if h < 128 then 127 - h else h - 128).toNat
/-- The digits behind the head at i. -/
def digF (f : Nat → Int) (i : Nat) : Nat → Int := turnF (decide (f i < 128)) (fun j => f (i + 1 + j))
/-- The number that head and digits say. -/
def numV (f : Nat → Int) (i : Nat) : Int := if f i < 128 then -1 - valF (hcnt (f i)) (digF f i) else valF (hcnt (f i)) (digF f i)
/-- What is there whole, and is not to be read. -/
def badV (f : Nat → Int) (i : Nat) : Prop := (0 < hcnt (f i) ∧ digF f i 0 = 0) ∨ numV f i < -1000000000000000 ∨ 1000000000000000 < numV f i
instance (f : Nat → Int) (i : Nat) : Decidable (badV f i) := by unfold badV; infer_instance

def getV (n : Nat) (f : Nat → Int) (p : Int) : Int × Int × Bool :=
  if p < 0 ∨ (n : Int) ≤ p then (0, 0, false)
  else if 7 < hcnt (f p.toNat) ∨ n < p.toNat + 1 + hcnt (f p.toNat) then (0, 0, false)
  else if badV f p.toNat then (0, 0, false)
  else (numV f p.toNat, p + 1 + (hcnt (f p.toNat) : Int), true)
theorem getV_out (n : Nat) (f : Nat → Int) (p : Int) (h : p < 0 ∨ (n : Int) ≤ p) : getV n f p = (0, 0, false) := by unfold getV; rw [if_pos h]
theorem getV_few (n : Nat) (f : Nat → Int) (i : Nat) (h : i < n) (h1 : 7 < hcnt (f i) ∨ n < i + 1 + hcnt (f i)) : getV n f (i : Int) = (0, 0, false) := by
  unfold getV; rw [if_neg (by omega), Int.toNat_natCast, if_pos h1]
theorem getV_bad (n : Nat) (f : Nat → Int) (i : Nat) (h : i < n) (h1 : ¬ (7 < hcnt (f i) ∨ n < i + 1 + hcnt (f i))) (h2 : badV f i) : getV n f (i : Int) = (0, 0, false) := by
  unfold getV; rw [if_neg (by omega), Int.toNat_natCast, if_neg h1, if_pos h2]
theorem getV_is (n : Nat) (f : Nat → Int) (i : Nat) (h : i < n) (h1 : ¬ (7 < hcnt (f i) ∨ n < i + 1 + hcnt (f i))) (h2 : ¬ badV f i) : getV n f (i : Int) = (numV f i, (i : Int) + 1 + (hcnt (f i) : Int), true) := by
  unfold getV; rw [if_neg (by omega), Int.toNat_natCast, if_neg h1, if_neg h2]

theorem valF7 (k : Nat) (f : Nat → Int) (hk : k ≤ 7) (h : ∀ i, i < k → 0 ≤ f i ∧ f i ≤ 255) : 0 ≤ valF k f ∧ valF k f < 72057594037927936 := by
  have h1 := valF_bd k f h
  have h2 : (256 : Int) ^ k ≤ 256 ^ 7 := pow_mono hk
  have e : (256 : Int) ^ 7 = 72057594037927936 := by decide
  omega

/-- The first byte says whether a number has as many bytes. -/
theorem valF_first : ∀ (k : Nat) (f : Nat → Int), (∀ i, i < k + 1 → 0 ≤ f i ∧ f i ≤ 255) → (256 ^ k ≤ valF (k + 1) f ↔ f 0 ≠ 0)
  | 0, f, h => by
    have := h 0 (by omega)
    simp only [valF, Int.pow_zero]
    omega
  | k + 1, f, h => by
    have ih := valF_first k f (fun i hi => h i (by omega))
    have := h (k + 1) (by omega)
    rw [← ih]
    show 256 ^ (k + 1) ≤ valF (k + 1) f * 256 + f (k + 1) ↔ _
    rw [Int.pow_succ]
    omega
theorem cnt_valF (c : Nat) (f : Nat → Int) (hc : c ≤ 7) (h : ∀ i, i < c → 0 ≤ f i ∧ f i ≤ 255) : cnt (valF c f) = c ↔ ¬ (0 < c ∧ f 0 = 0) := by
  have hb := valF_bd c f h
  constructor
  · rintro e ⟨h0, hf⟩
    obtain ⟨k, rfl⟩ : ∃ k, c = k + 1 := ⟨c - 1, by omega⟩
    have h1 := cnt_ge (valF (k + 1) f) (by omega)
    rw [e] at h1
    exact ((valF_first k f h).1 h1) hf
  · intro hn
    refine cnt_is _ c hc hb.2 (fun h0 => ?_)
    obtain ⟨k, rfl⟩ : ∃ k, c = k + 1 := ⟨c - 1, by omega⟩
    exact (valF_first k f h).2 (fun e => hn ⟨by omega, e⟩)
end Go.Proofs.YtjoimkfpenbkmaaGreatDoor

/-
  Four bytes as a number, plainly.
-/
namespace Go.Proofs.YtjoimkfpenbkmaaGreatDoor
open Go.RowKit
set_option maxRecDepth 4000

def getF (n : Nat) (f : Nat → Int) (p : Int) : Int × Int × Bool := if p < 0 ∨ (n : Int) - p < 4 then (0, 0, false) else (valF 4 (fun i => f (p.toNat + i)) - 2147483648, p + 4, true)
theorem getF_no (n : Nat) (f : Nat → Int) (p : Int) (h : p < 0 ∨ (n : Int) - p < 4) : getF n f p = (0, 0, false) := by unfold getF; rw [if_pos h]
theorem getF_is (n : Nat) (f : Nat → Int) (p : Nat) (h : p + 4 ≤ n) : getF n f (p : Int) = (valF 4 (fun i => f (p + i)) - 2147483648, (p : Int) + 4, true) := by
  unfold getF; rw [if_neg (by omega), Int.toNat_natCast]
theorem valF4_bd (f : Nat → Int) (h : ∀ i, i < 4 → 0 ≤ f i ∧ f i ≤ 255) : 0 ≤ valF 4 f ∧ valF 4 f ≤ 4294967295 := by
  have h1 := valF_bd 4 f h
  have e : (256 : Int) ^ 4 = 4294967296 := by decide
  omega
end Go.Proofs.YtjoimkfpenbkmaaGreatDoor

/-
  One value in a key, plainly: which parts are right, what fits, its bytes, and what is read of bytes.
-/
namespace Go.Proofs.YtjoimkfpenbkmaaGreatDoor
open Go.RowKit
set_option maxRecDepth 4000

def partOk (c t : Int) : Bool := decide (0 ≤ c) && decide (c ≤ 9) && (decide (1 ≤ t) && decide (t ≤ 4))
def fitsP (t : Int) (nul : Bool) (k n : Int) (s : ByteArray) : Bool := okF k n s && ((decide (k = t) && decide (k ≠ 0)) || (decide (k = 0) && nul))

/-- The bytes of a value that is there. -/
def valL (k n : Int) (s : ByteArray) : List Int := if k = 1 then fixL n else if k = 2 then varL n else if k = 3 then escL (sl s) ++ [0, 1] else [n % 256]
/-- The bytes of a value that fits. -/
def partL (nul : Bool) (k n : Int) (s : ByteArray) : List Int := if k = 0 then [0] else if nul then 1 :: valL k n s else valL k n s
def turnL (d : Bool) (l : List Int) : List Int := if d then l.map (fun y => 255 - y) else l
/-- What is put. -/
def putPL (c t : Int) (nul d : Bool) (k n : Int) (s : ByteArray) : List Int := if partOk c t && fitsP t nul k n s then turnL d (partL nul k n s) else []

/-- A value, a place and whether there is one. -/
structure Got where
  k : Int
  n : Int
  s : ByteArray
  q : Int
  ok : Bool
def Got.no : Got := ⟨0, 0, noBytes, 0, false⟩
def Got.chk (g : Got) : Got := if g.ok && okF g.k g.n g.s then g else .no

/-- A value of a type, as it is read. -/
def rawT (n : Nat) (f : Nat → Int) (t : Int) (p : Int) : Got :=
  if t = 1 then ⟨1, (getF n f p).1, noBytes, (getF n f p).2.1, (getF n f p).2.2⟩
  else if t = 2 then ⟨2, (getV n f p).1, noBytes, (getV n f p).2.1, (getV n f p).2.2⟩
  else if t = 3 then ⟨3, 0, (getE n f p).1, (getE n f p).2.1, (getE n f p).2.2⟩
  else if 0 ≤ p ∧ p < n then ⟨t, f p.toNat, noBytes, p + 1, true⟩ else ⟨t, 0, noBytes, 0, false⟩
def getT (n : Nat) (f : Nat → Int) (t : Int) (p : Int) : Got := (rawT n f t p).chk
/-- Behind a byte of 0 or 1, where it may be nothing. -/
def getN (n : Nat) (f : Nat → Int) (nul : Bool) (t : Int) (p : Int) : Got :=
  if nul then (if p = n ∨ 1 < f p.toNat then .no else if f p.toNat = 0 then ⟨0, 0, noBytes, p + 1, true⟩ else getT n f t (p + 1)) else getT n f t p
def turned (d : Bool) (f : Nat → Int) : Nat → Int := if d then fun i => 255 - f i else f
def getP (n : Nat) (f : Nat → Int) (c t : Int) (nul d : Bool) (p : Int) : Got :=
  if partOk c t = false ∨ p < 0 ∨ (n : Int) < p then .no else getN n (turned d f) nul t p

theorem okF_few {k n : Int} {s : ByteArray} (h : okF k n s = true) : s.size ≤ 30 := by
  obtain ⟨v, hr, rfl, rfl, rfl⟩ := okF_iff.1 h
  cases v with
  | text s => simpa [V.rng, V.s] using hr
  | _ => exact Nat.zero_le _
theorem valL_byte (k n : Int) (s : ByteArray) : ∀ y ∈ valL k n s, 0 ≤ y ∧ y ≤ 255 := by
  intro y hy
  unfold valL at hy
  split at hy
  · exact fixL_byte n y hy
  · split at hy
    · exact varL_byte n y hy
    · split at hy
      · rcases List.mem_append.1 hy with hy | hy
        · exact escL_byte _ (sl_byte s) y hy
        · simp at hy; omega
      · simp at hy; omega
theorem partL_byte (nul : Bool) (k n : Int) (s : ByteArray) : ∀ y ∈ partL nul k n s, 0 ≤ y ∧ y ≤ 255 := by
  intro y hy
  unfold partL at hy
  split at hy
  · simp at hy; omega
  · split at hy
    · rcases List.mem_cons.1 hy with rfl | hy
      · omega
      · exact valL_byte k n s y hy
    · exact valL_byte k n s y hy
theorem turnL_byte (d : Bool) (l : List Int) (h : ∀ y ∈ l, 0 ≤ y ∧ y ≤ 255) : ∀ y ∈ turnL d l, 0 ≤ y ∧ y ≤ 255 := by
  intro y hy
  unfold turnL at hy
  split at hy
  · obtain ⟨z, hz, rfl⟩ := List.mem_map.1 hy
    have := h z hz
    omega
  · exact h y hy
theorem turnL_len (d : Bool) (l : List Int) : (turnL d l).length = l.length := by unfold turnL; split <;> simp
theorem putPL_byte (c t : Int) (nul d : Bool) (k n : Int) (s : ByteArray) : ∀ y ∈ putPL c t nul d k n s, 0 ≤ y ∧ y ≤ 255 := by
  intro y hy
  unfold putPL at hy
  split at hy
  · exact turnL_byte d _ (partL_byte nul k n s) y hy
  · cases hy
theorem valL_len (k n : Int) (s : ByteArray) : 1 ≤ (valL k n s).length ∧ (valL k n s).length ≤ 2 * s.size + 8 := by
  unfold valL
  split
  · rw [fixL_len]; omega
  · split
    · have := varL_len n; omega
    · split
      · have := (escL_len (sl s)).2
        rw [sl_len] at this
        rw [List.length_append]
        simp
        omega
      · simp
theorem partL_len (nul : Bool) (k n : Int) (s : ByteArray) : 1 ≤ (partL nul k n s).length ∧ (partL nul k n s).length ≤ 2 * s.size + 9 := by
  have := valL_len k n s
  unfold partL
  split
  · simp
  · split
    · rw [List.length_cons]; omega
    · omega
theorem putPL_len (c t : Int) (nul d : Bool) (k n : Int) (s : ByteArray) : (putPL c t nul d k n s).length ≤ 2 * s.size + 9 := by
  have := partL_len nul k n s
  unfold putPL
  split
  · rw [turnL_len]; omega
  · simp
end Go.Proofs.YtjoimkfpenbkmaaGreatDoor

/-
  Keys, plainly: which plans are right, what fits, the bytes of values one behind the other, and what is read of bytes.
-/
namespace Go.Proofs.YtjoimkfpenbkmaaGreatDoor
open Go.RowKit
set_option maxRecDepth 4000

/-- A plan is right. -/
def planOk (n : Nat) (fc ft : Nat → Int) : Bool := (List.range n).all (fun i => partOk (fc i) (ft i)) && decide (n ≤ 6)
/-- Values fit. -/
def fitsAll (n m : Nat) (ft : Nat → Int) (fu : Nat → Bool) (fk fn : Nat → Int) (fs : Nat → ByteArray) : Bool := decide (m ≤ n) && (List.range m).all (fun i => fitsP (ft i) (fu i) (fk i) (fn i) (fs i))
theorem planOk_iff {n : Nat} {fc ft : Nat → Int} : planOk n fc ft = true ↔ (∀ i, i < n → partOk (fc i) (ft i) = true) ∧ n ≤ 6 := by
  unfold planOk; simp
theorem fitsAll_iff {n m : Nat} {ft : Nat → Int} {fu : Nat → Bool} {fk fn : Nat → Int} {fs : Nat → ByteArray} : fitsAll n m ft fu fk fn fs = true ↔ m ≤ n ∧ ∀ i, i < m → fitsP (ft i) (fu i) (fk i) (fn i) (fs i) = true := by
  unfold fitsAll; simp
/-- The first k of the lists, one behind the other. -/
def keyT (g : Nat → List Int) : Nat → List Int
  | 0 => []
  | k + 1 => keyT g k ++ g k
/-- The bytes of the value at a place of a plan. -/
def onePL (fc ft : Nat → Int) (fu fd : Nat → Bool) (fk fn : Nat → Int) (fs : Nat → ByteArray) (i : Nat) : List Int := putPL (fc i) (ft i) (fu i) (fd i) (fk i) (fn i) (fs i)
/-- The bytes of a key. -/
def keyL (n : Nat) (fc ft : Nat → Int) (fu fd : Nat → Bool) (m : Nat) (fk fn : Nat → Int) (fs : Nat → ByteArray) : List Int :=
  if planOk n fc ft && fitsAll n m ft fu fk fn fs then keyT (onePL fc ft fu fd fk fn fs) m else []

theorem keyT_congr {g h : Nat → List Int} : ∀ {k : Nat}, (∀ i, i < k → g i = h i) → keyT g k = keyT h k
  | 0, _ => rfl
  | k + 1, e => by rw [keyT, keyT, keyT_congr (fun i hi => e i (by omega)), e k (by omega)]
/-- What stands behind the first k. -/
theorem keyT_split (g : Nat → List Int) (k : Nat) : ∀ j, keyT g (k + j) = keyT g k ++ keyT (fun i => g (k + i)) j
  | 0 => by simp [keyT]
  | j + 1 => by rw [← Nat.add_assoc, keyT, keyT_split g k j, keyT, List.append_assoc]
theorem keyT_byte {g : Nat → List Int} : ∀ {k : Nat}, (∀ i, i < k → ∀ y ∈ g i, 0 ≤ y ∧ y ≤ 255) → ∀ y ∈ keyT g k, 0 ≤ y ∧ y ≤ 255
  | 0, _, y, hy => by simp [keyT] at hy
  | k + 1, h, y, hy => by
    rw [keyT] at hy
    rcases List.mem_append.1 hy with hy | hy
    · exact keyT_byte (fun i hi => h i (by omega)) y hy
    · exact h k (by omega) y hy
theorem keyL_byte (n : Nat) (fc ft : Nat → Int) (fu fd : Nat → Bool) (m : Nat) (fk fn : Nat → Int) (fs : Nat → ByteArray) : ∀ y ∈ keyL n fc ft fu fd m fk fn fs, 0 ≤ y ∧ y ≤ 255 := by
  intro y hy
  unfold keyL at hy
  split at hy
  · exact keyT_byte (fun i _ => putPL_byte _ _ _ _ _ _ _) y hy
  · cases hy
theorem onePL_len {ft : Nat → Int} {fu : Nat → Bool} {fk fn : Nat → Int} {fs : Nat → ByteArray} {i : Nat} (fc : Nat → Int) (fd : Nat → Bool) (h : fitsP (ft i) (fu i) (fk i) (fn i) (fs i) = true) : (onePL fc ft fu fd fk fn fs i).length ≤ 69 := by
  unfold onePL
  have h1 := putPL_len (fc i) (ft i) (fu i) (fd i) (fk i) (fn i) (fs i)
  have h2 : (fs i).size ≤ 30 := by unfold fitsP at h; simp only [Bool.and_eq_true] at h; exact okF_few h.1
  omega
theorem keyT_len {g : Nat → List Int} : ∀ {k : Nat}, (∀ i, i < k → (g i).length ≤ 69) → (keyT g k).length ≤ k * 69
  | 0, _ => by simp [keyT]
  | k + 1, h => by
    rw [keyT, List.length_append]
    have h1 := keyT_len (fun i hi => h i (by omega)) (k := k)
    have h2 := h k (by omega)
    omega
theorem keyL_len (n : Nat) (fc ft : Nat → Int) (fu fd : Nat → Bool) (m : Nat) (fk fn : Nat → Int) (fs : Nat → ByteArray) : (keyL n fc ft fu fd m fk fn fs).length ≤ 414 := by
  unfold keyL
  split
  · rename_i h
    simp only [Bool.and_eq_true] at h
    obtain ⟨h1, h2⟩ := h
    have hp := planOk_iff.1 h1
    have hf := fitsAll_iff.1 h2
    have := keyT_len (g := onePL fc ft fu fd fk fn fs) (k := m) (fun i hi => onePL_len fc fd (hf.2 i hi))
    omega
  · simp

section
variable (N : Nat) (F : Nat → Int) (fc ft : Nat → Int) (fu fd : Nat → Bool)
/-- The place behind the first k values, as they are read. -/
def decQ : Nat → Option Int
  | 0 => some 0
  | k + 1 => (decQ k).bind (fun p => if (getP N F (fc k) (ft k) (fu k) (fd k) p).ok then some (getP N F (fc k) (ft k) (fu k) (fd k) p).q else none)
/-- The value that is read at a place of a plan. -/
def decG (k : Nat) : Got := getP N F (fc k) (ft k) (fu k) (fd k) ((decQ N F fc ft fu fd k).getD 0)
/-- Whether the bytes are a key of the plan. -/
def decOk (n : Nat) : Bool := planOk n fc ft && decide (decQ N F fc ft fu fd n = some (N : Int))
end
theorem decQ_succ {N : Nat} {F : Nat → Int} {fc ft : Nat → Int} {fu fd : Nat → Bool} {k : Nat} {q : Int} (h : decQ N F fc ft fu fd (k + 1) = some q) : ∃ p, decQ N F fc ft fu fd k = some p ∧ (getP N F (fc k) (ft k) (fu k) (fd k) p).ok = true ∧ (getP N F (fc k) (ft k) (fu k) (fd k) p).q = q := by
  rw [decQ] at h
  obtain ⟨p, h1, h2⟩ := Option.bind_eq_some_iff.1 h
  by_cases e : (getP N F (fc k) (ft k) (fu k) (fd k) p).ok = true
  · rw [if_pos e] at h2
    exact ⟨p, h1, e, Option.some.inj h2⟩
  · rw [if_neg e] at h2; cases h2
end Go.Proofs.YtjoimkfpenbkmaaGreatDoor

/-
  All up to a number.
-/
namespace Go.Proofs.YtjoimkfpenbkmaaGreatDoor

theorem allUpto_no {p : Nat → Bool} {n k : Nat} (hk : k < n) (h : p k = false) : (List.range n).all p = false := by
  rw [Bool.eq_false_iff]
  intro e
  have := List.all_eq_true.1 e k (List.mem_range.2 hk)
  rw [h] at this; cases this
theorem allUpto_yes {p : Nat → Bool} {n : Nat} (h : ∀ i, i < n → p i = true) : (List.range n).all p = true :=
  List.all_eq_true.2 (fun i hi => h i (List.mem_range.1 hi))
end Go.Proofs.YtjoimkfpenbkmaaGreatDoor

/-
  Two values are held against each other, all fields at once.
-/
namespace Go.Proofs.YtjoimkfpenbkmaaGreatDoor
open Go.RowKit
set_option maxRecDepth 4000

def valAgg (k n : Int) (s : ByteArray) : Value := .agg #[.int .i64 k, .int .i64 n, .string s]

/-- Whether two values are alike. -/
def eqV (k n : Int) (s : ByteArray) (k' n' : Int) (s' : ByteArray) : Bool := decide (k = k') && decide (n = n') && decide (s = s')

theorem toList_inj {a b : ByteArray} : a.toList = b.toList ↔ a = b := by
  constructor
  · intro h
    rw [ByteArray.toList_eq, ByteArray.toList_eq] at h
    obtain ⟨⟨x⟩⟩ := a
    obtain ⟨⟨y⟩⟩ := b
    simp only at h
    rw [h]
  · rintro rfl; rfl

theorem eqVal_run (k n : Int) (s : ByteArray) (k' n' : Int) (s' : ByteArray) (W : World) :
    (binOp .eql 88 (.agg #[.int .i64 k, .int .i64 n, .string s]) (.agg #[.int .i64 k', .int .i64 n', .string s'])).run Tryz.prog W = .ok (.bool (eqV k n s k' n' s')) W := by
  by_cases h1 : k = k' <;> by_cases h2 : n = n' <;> by_cases h3 : s = s' <;> simp [go_sem, h1, h2, h3, eqV, toList_inj]

theorem neVal_run (k n : Int) (s : ByteArray) (k' n' : Int) (s' : ByteArray) (W : World) :
    (binOp .neq 88 (.agg #[.int .i64 k, .int .i64 n, .string s]) (.agg #[.int .i64 k', .int .i64 n', .string s'])).run Tryz.prog W = .ok (.bool (!eqV k n s k' n' s')) W := by
  by_cases h1 : k = k' <;> by_cases h2 : n = n' <;> by_cases h3 : s = s' <;> simp [go_sem, h1, h2, h3, eqV, toList_inj]

end Go.Proofs.YtjoimkfpenbkmaaGreatDoor

